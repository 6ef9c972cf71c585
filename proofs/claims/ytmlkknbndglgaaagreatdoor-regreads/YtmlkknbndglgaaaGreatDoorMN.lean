/- The walks of the statements' own GreatPack, SamePack, Num. -/
import Derived.Test.YtmlkknbndglgaaaGreatDoorJ20
import Derived.Test.YtmlkknbndglgaaaGreatDoorJ18
import Derived.Test.YtmlkknbndglgaaaGreatDoorJ13
namespace Go.Proofs.YtmlkknbndglgaaaGreatDoor
open Go.RowKit

/-- Items without trees. -/
def unI (l : List RI) : List It := l.map fun i => (i.1, i.2, [])
theorem unI_rs (l : List RI) : rsI (unI l) = l := by
  unfold rsI unI
  rw [List.map_map]
  exact List.map_id' l
theorem unI_inj {a b : List RI} (h : unI a = unI b) : a = b := by rw [← unI_rs a, h, unI_rs]
theorem unI_len (l : List RI) : (unI l).length = l.length := List.length_map _
theorem RowsR.unI {D : Nat} {w : World} {ps : List Pr} {u v : Value} {is : List RI} {prof : List ByteArray} (h : RowsR D w ps u v is prof) : Its w u (unI is) := by
  have e : itsOf ps = Go.Proofs.YtmlkknbndglgaaaGreatDoor.unI is := by
    rw [← h.names]
    unfold itsOf Go.Proofs.YtmlkknbndglgaaaGreatDoor.unI
    rw [List.map_map]
    refine List.map_congr_left fun p hp => ?_
    have := (h.each p hp).2.2.2
    show p.2 = (p.2.1, p.2.2.1, [])
    rw [← this]
  rw [← e]; exact h.its
def sameR (q r : Hog.RegP) : Bool := (q.pre.toList == r.pre.toList) && (q.pol == r.pol) && decide (q.prof = r.prof) && decide (unI q.items = unI r.items)
theorem sameR_self (q : Hog.RegP) : sameR q q = true := by unfold sameR; simp
theorem sameR_ne {q r : Hog.RegP} (h : q ≠ r) : sameR q r = false := by
  cases e : sameR q r with
  | false => rfl
  | true =>
    refine absurd ?_ h
    unfold sameR at e
    simp only [Bool.and_eq_true, decide_eq_true_eq, beq_iff_eq] at e
    obtain ⟨⟨⟨h1, h2⟩, h3⟩, h4⟩ := e
    rw [Lib.toList_data, Lib.toList_data] at h1
    have h1' : q.pre = r.pre := by rw [← Hog.data_mk q.pre, h1, Hog.data_mk]
    cases q; cases r
    simp only at h1' h2 h3 h4
    rw [h1', h2, h3, unI_inj h4]
theorem num_ok (z : Int) (w : World) : Calls Tryz.prog 12 #[.int .i64 z] w fun e w' => e = .returned (.int .i64 z) ∧ w' = w := by
  go_enter Tryz.func12, Tryz.ntmps12
  go_wp2
  go_ret
  exact ⟨rfl, rfl⟩

def greatP (pre : ByteArray) (is : List It) (prof : List ByteArray) : Bool := decide (100 < pre.size) || greatI is || greatT 12 100 prof

set_option maxRecDepth 100000 in
set_option maxHeartbeats 1000000 in
theorem greatP_ok (pre : ByteArray) (is : List It) (prof : List ByteArray) (ia : Option Addr) (m ic : Nat) (pa : Option Addr) (n pc : Nat) (pol : Int) (r : Bool) (w : World) (hi : Its w (.slice ia m ic) is) (hp : Txt w (.slice pa n pc) prof) (hm : is.length ≤ maxLen) (hz : Lens is) (hn : prof.length ≤ maxLen) (hv : greatP pre is prof = r) :
    Calls Tryz.prog 7 #[.agg #[.string pre, .slice ia m ic, .slice pa n pc, .int .i64 pol]] w fun e w' => e = .returned (.bool r) ∧ Below w.heap.size w w' := by
  obtain ⟨W, hW⟩ : ∃ W, W = w.alloc (pcells pre (.slice ia m ic) (.slice pa n pc) pol) := ⟨_, rfl⟩
  have HB0 : Hid (Below w.heap.size w W) := by rw [hW]; exact below_box _ _
  have c0 : W.cell? ⟨w.heap.size, 0, none⟩ = some (.string pre) := by rw [hW]; simp [pcells]
  have c1 : W.cell? ⟨w.heap.size, 1, none⟩ = some (.slice ia m ic) := by rw [hW]; simp [pcells]
  have c2 : W.cell? ⟨w.heap.size, 2, none⟩ = some (.slice pa n pc) := by rw [hW]; simp [pcells]
  have HW : Hid (w.alloc (.cells #[.string pre, .slice ia m ic, .slice pa n pc, .int .i64 pol] 25) = W) := hW.symm
  obtain ⟨x2, h2⟩ : ∃ x, greatI is = x := ⟨_, rfl⟩
  obtain ⟨x3, h3⟩ : ∃ x, greatT 12 100 prof = x := ⟨_, rfl⟩
  have HR : Hid ((decide (100 < pre.size) || x2 || x3) = r) := by rw [← hv, ← h2, ← h3]; exact rfl
  have HG := hide (greatI_ok _ is x2 W (hi.below HB0.out) hm hz h2)
  have HT := hide (greatT_ok _ 12 100 prof x3 W (hp.below HB0.out) hn (by decide) (by decide) h3)
  clear hi hp hm hz hn hv hW h2 h3
  go_enter Tryz.func7, Tryz.ntmps7
  by_cases h1 : 100 < pre.size
  · have h1i : (100 : Int) < (pre.size : Int) := by omega
    have HR2 : Hid (true = r) := by rw [← HR.out, decide_eq_true h1]; exact rfl
    go_wp2_with fail
    rw [HW.out]
    go_wp2
    go_ret
    exact ⟨ret_bool HR2.out, HB0.out⟩
  · have h1i : (pre.size : Int) ≤ 100 := by omega
    have HR2 : Hid ((x2 || x3) = r) := by rw [← HR.out, decide_eq_false h1]; exact rfl
    clear h1
    cases x2 with
    | true =>
      go_wp2_with fail
      rw [HW.out]
      go_wp2_with fail
      refine HG.out.mono ?_
      rintro e w1 ⟨rfl, rfl⟩
      go_wp2
      go_ret
      exact ⟨ret_bool HR2.out, HB0.out⟩
    | false =>
      go_wp2_with fail
      rw [HW.out]
      go_wp2_with fail
      refine HG.out.mono ?_
      rintro e w1 ⟨rfl, rfl⟩
      go_wp2_with fail
      refine HT.out.mono ?_
      rintro e w1 ⟨rfl, rfl⟩
      go_wp2
      go_ret
      exact ⟨ret_bool (by rw [decide_eq_false (by omega)]; exact HR2.out), HB0.out⟩

set_option maxRecDepth 100000 in
set_option maxHeartbeats 2000000 in
theorem sameP_ok (q q' : Hog.RegP) (ia : Option Addr) (m ic : Nat) (pa : Option Addr) (n pc : Nat) (ia' : Option Addr) (m' ic' : Nat) (pa' : Option Addr) (n' pc' : Nat) (r : Bool) (w : World) (hi : Its w (.slice ia m ic) (unI q.items)) (hp : Txt w (.slice pa n pc) q.prof)
    (hi' : Its w (.slice ia' m' ic') (unI q'.items)) (hp' : Txt w (.slice pa' n' pc') q'.prof) (hf : FairP q) (hv : sameR q q' = r) :
    Calls Tryz.prog 17 #[.agg #[.string q.pre, .slice ia m ic, .slice pa n pc, .int .i64 q.pol], .agg #[.string q'.pre, .slice ia' m' ic', .slice pa' n' pc', .int .i64 q'.pol]] w fun e w' => e = .returned (.bool r) ∧ Below w.heap.size w w' := by
  obtain ⟨V, hV⟩ : ∃ V, V = w.alloc (pcells q.pre (.slice ia m ic) (.slice pa n pc) q.pol) := ⟨_, rfl⟩
  obtain ⟨W, hW⟩ : ∃ W, W = V.alloc (pcells q'.pre (.slice ia' m' ic') (.slice pa' n' pc') q'.pol) := ⟨_, rfl⟩
  have hb1 : Below w.heap.size w V := by rw [hV]; exact below_box _ _
  have hb2 : Below V.heap.size V W := by rw [hW]; exact below_box _ _
  have HB0 := hide (below_two hb1 hb2)
  have hvs : V.heap.size = w.heap.size + 1 := by rw [hV]; simp
  have b1 : BoxP W w.heap.size 25 q.pre (.slice ia m ic) (.slice pa n pc) q.pol := by
    have h : BoxP V w.heap.size 25 q.pre (.slice ia m ic) (.slice pa n pc) q.pol := by rw [hV]; exact BoxP.made _ _ _ _ _ _
    exact h.below hb2
  have b2 : BoxP W (w.heap.size + 1) 25 q'.pre (.slice ia' m' ic') (.slice pa' n' pc') q'.pol := by rw [hW, ← hvs]; exact BoxP.made _ _ _ _ _ _
  obtain ⟨⟨c0, c1, c2, c3⟩, _, hlt⟩ := b1.facts
  obtain ⟨⟨d0, d1, d2, d3⟩, _, hlt2⟩ := b2.facts
  have HW : Hid ((w.alloc (.cells #[.string q.pre, .slice ia m ic, .slice pa n pc, .int .i64 q.pol] 25)).alloc (.cells #[.string q'.pre, .slice ia' m' ic', .slice pa' n' pc', .int .i64 q'.pol] 25) = W) := by rw [hW, hV]; exact rfl
  have HI := hide (hi.below HB0.out)
  have HI' := hide (hi'.below HB0.out)
  obtain ⟨x3, h3⟩ : ∃ x, decide (q.prof = q'.prof) = x := ⟨_, rfl⟩
  obtain ⟨x4, h4⟩ : ∃ x, decide (unI q.items = unI q'.items) = x := ⟨_, rfl⟩
  have HT : Hid (Calls Tryz.prog 43 #[.slice pa n pc, .slice pa' n' pc'] W fun e w' => e = .returned (.bool x3) ∧ Below W.heap.size W w') := by
    rw [← h3]; exact hide (same_any _ _ q.prof q'.prof W (hp.below HB0.out) (hp'.below HB0.out) (by have := hf.plen; omega))
  have HS : Hid (∀ w3, Below W.heap.size W w3 → Calls Tryz.prog 44 #[.slice ia m ic, .slice ia' m' ic'] w3 fun e w' => e = .returned (.bool x4) ∧ Below w3.heap.size w3 w') := fun w3 h3' =>
    sameIs_ok _ _ (unI q.items) (unI q'.items) x4 w3 (HI.out.below h3') (HI'.out.below h3') (by rw [unI_len]; have := hf.len; omega) (fun i hi0 => by
      obtain ⟨j, hj, rfl⟩ := List.mem_map.1 hi0
      obtain ⟨f1, f2, f3⟩ := hf.item j hj
      exact ⟨f1, f2, f3, by show ([] : List Nd).length < 900000; simp, fun x hx => absurd hx (by simp)⟩) h4
  have HV : Hid (((q.pre.toList == q'.pre.toList) && (q.pol == q'.pol) && x3 && x4) = r) := by rw [← hv, ← h3, ← h4]; exact rfl
  clear hi hp hi' hp' hf hv hV hW b1 b2 h3 h4 hb1 hb2
  go_enter Tryz.func17, Tryz.ntmps17
  cases h1 : (q.pre.toList == q'.pre.toList) with
  | false =>
    have HR : Hid (false = r) := by rw [← HV.out, h1]; exact rfl
    go_wp2_with fail
    rw [HW.out]
    go_wp2
    go_ret
    exact ⟨ret_bool HR.out, HB0.out⟩
  | true =>
    cases h2 : (q.pol == q'.pol) with
    | false =>
      have HR : Hid (false = r) := by rw [← HV.out, h1, h2]; exact rfl
      go_wp2_with fail
      rw [HW.out]
      go_wp2
      go_ret
      exact ⟨ret_bool HR.out, HB0.out⟩
    | true =>
      cases x3 with
      | false =>
        have HR : Hid (false = r) := by rw [← HV.out, h1, h2]; exact rfl
        go_wp2_with fail
        rw [HW.out]
        go_wp2_with fail
        refine HT.out.mono ?_
        rintro e w1 ⟨rfl, hb1⟩
        go_wp2
        go_ret
        exact ⟨ret_bool HR.out, below_two HB0.out hb1⟩
      | true =>
        have HR : Hid (x4 = r) := by rw [← HV.out, h1, h2]; exact hide (by simp)
        go_wp2_with fail
        rw [HW.out]
        go_wp2_with fail
        refine HT.out.mono ?_
        rintro e w1 ⟨rfl, hb1⟩
        have e1 := (hb1.cell (p := ⟨w.heap.size, 1, none⟩) hlt).trans c1
        have e2 := (hb1.cell (p := ⟨w.heap.size + 1, 1, none⟩) hlt2).trans d1
        have HS1 := hide (HS.out _ hb1)
        have HB1 := hide (below_two HB0.out hb1)
        clear c0 c1 c2 c3 d0 d1 d2 d3 hb1 h1 h2
        go_wp2_with fail
        refine HS1.out.mono ?_
        rintro e w2 ⟨rfl, hb2⟩
        cases x4 with
        | false =>
          go_wp2
          go_ret
          exact ⟨ret_bool HR.out, below_two HB1.out hb2⟩
        | true =>
          go_wp2
          go_ret
          exact ⟨ret_bool HR.out, below_two HB1.out hb2⟩
end Go.Proofs.YtmlkknbndglgaaaGreatDoor
