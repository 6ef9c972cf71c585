/- Texts that stand together, joined: MB, MC. -/
import Derived.Test.YtmlkknbndglgaaaGreatDoorMA
import Derived.Test.YtmlkknbndglgaaaGreatDoorKY
import Derived.Test.YtmlkknbndglgaaaGreatDoorJ14
import Derived.Test.YtmlkknbndglgaaaGreatDoorJ5
/- The walks of package reg: lines, mayDecide, mayStand, mayHold, nameless, mayShow, May. -/
namespace Go.Proofs.YtmlkknbndglgaaaGreatDoor
open Go.RowKit

theorem lines_step {w : List UInt8} {xs : List ByteArray} {k : Nat} {x : ByteArray} (hx : xs[k]? = some x) : Hog.linesW w (xs.take (k + 1)) = Hog.linesW w (xs.take k) ++ Hog.lineW w x := by
  obtain ⟨hk, rfl⟩ := List.getElem?_eq_some_iff.1 hx
  unfold Hog.linesW
  rw [List.take_succ_eq_append_getElem hk, List.flatMap_append, List.flatMap_cons, List.flatMap_nil, List.append_nil]
theorem line_mk (w : List UInt8) (x : ByteArray) (t : List UInt8) : Hog.mk t ++ (Hog.mk w ++ x ++ ⟨#[10]⟩) = Hog.mk (t ++ Hog.lineW w x) := by
  rw [← Hog.data_mk x, show (⟨#[10]⟩ : ByteArray) = Hog.mk [10] from rfl, mk_app, mk_app, mk_app]
  unfold Hog.lineW
  rw [Hog.mk_data]

set_option maxRecDepth 100000 in
set_option maxHeartbeats 1000000 in
theorem lines_some (wd : List UInt8) (b o c n : Nat) (xs : List ByteArray) (w : World) (hn : n = xs.length) (hw : wd.length ≤ 8) (h8 : n ≤ 8) (hz : ∀ x ∈ xs, x.size ≤ 40)
    (hcell : ∀ (j : Nat) x, xs[j]? = some x → w.cell? ⟨b, o + j, none⟩ = some (.string x)) :
    Calls Tryz.prog 23 #[.string (Hog.mk wd), .slice (some ⟨b, o, none⟩) n c] w fun e w' => e = .returned (.string (Hog.mk (Hog.linesW wd xs))) ∧ w' = w := by
  have HN := hide hn
  have HC := hide hcell
  have HZ := hide hz
  have hms := Hog.mk_size
  clear hn hcell hz
  go_enter Tryz.func23, Tryz.ntmps23
  go_wp2
  go_loop [5, 7, 10] (fun s _ i => ∃ (k : Nat) (J : List UInt8), k ≤ n ∧ i = .int .i64 k ∧ s = .string (Hog.mk J) ∧ Hid (J = Hog.linesW wd (xs.take k)) ∧ J.length ≤ 400) (fun _ _ i => n - (intOf i).toNat)
  case atStart => exact ⟨0, [], Nat.zero_le _, rfl, rfl, rfl, by simp⟩
  case round =>
    obtain ⟨k, J, hk, rfl, rfl, hJ, hJl⟩ := hrel
    by_cases hlt : k < n
    · obtain ⟨x, hx⟩ : ∃ x, xs[k]? = some x := ⟨xs[k]'(by have := HN.out; omega), List.getElem?_eq_some_iff.2 ⟨_, rfl⟩⟩
      have hc := HC.out k x hx
      have hxz := HZ.out x (List.mem_of_getElem? hx)
      have hki : (k : Int) < (n : Int) := by omega
      have HX := hide hx
      have HNL : Hid ((Hog.linesW wd (xs.take (k + 1))).length ≤ 400) := by
        have h1 := Hog.linesW_len (w := wd) (xs := xs.take (k + 1)) hw fun y hy => HZ.out y (List.mem_of_mem_take hy)
        rw [List.length_take] at h1
        show _ ≤ _
        have h2 : min (k + 1) xs.length ≤ k + 1 := Nat.min_le_left _ _
        omega
      clear hx
      go_wp2
      go_round
      case rel =>
        refine ⟨k + 1, J ++ Hog.lineW wd x, by omega, by go_num, ?_, ?_, ?_⟩
        · rw [line_mk]
        · show J ++ Hog.lineW wd x = _
          rw [lines_step HX.out, ← hJ.out]
        · have h1 := HNL.out
          rw [lines_step HX.out, ← hJ.out] at h1
          exact h1
      case measure => simp [intOf]; omega
    · obtain rfl : k = n := by omega
      have HE : Hid (J = Hog.linesW wd xs) := by
        have h1 := hJ.out
        rw [HN.out, List.take_length] at h1
        exact h1
      go_wp2
      go_ret
      exact ⟨ret_str (by rw [HE.out]), rfl⟩
set_option maxRecDepth 100000 in
set_option maxHeartbeats 400000 in
theorem lines_none (wd : List UInt8) (a : Option Addr) (c : Nat) (w : World) :
    Calls Tryz.prog 23 #[.string (Hog.mk wd), .slice a 0 c] w fun e w' => e = .returned (.string (Hog.mk [])) ∧ w' = w := by
  go_enter Tryz.func23, Tryz.ntmps23
  go_wp2
  go_loop [5, 7, 10] (fun s _ i => i = .int .i64 0 ∧ s = .string ⟨#[]⟩) (fun _ _ _ => 0)
  case atStart => exact ⟨rfl, rfl⟩
  case round =>
    obtain ⟨rfl, rfl⟩ := hrel
    go_wp2
    go_ret
    exact ⟨rfl, rfl⟩
theorem lines_ok (wd : List UInt8) (v : Value) (xs : List ByteArray) (t : ByteArray) (w : World) (hT : Txt w v xs) (hw : wd.length ≤ 8) (h8 : xs.length ≤ 8) (hz : ∀ x ∈ xs, x.size ≤ 40) (hv : Hog.mk (Hog.linesW wd xs) = t) :
    Calls Tryz.prog 23 #[.string (Hog.mk wd), v] w fun e w' => e = .returned (.string t) ∧ w' = w := by
  subst hv
  rcases hT with ⟨rfl, a, c, rfl⟩ | ⟨b, o, c, rfl, _, _, hcell⟩
  · exact lines_none wd a c w
  · exact lines_some wd b o c xs.length xs w rfl hw h8 hz hcell

theorem decide_reg (p : Int) (b : Bool) (w : World) (hv : polB p = b) :
    Calls Tryz.prog 26 #[.int .i64 p] w fun e w' => e = .returned (.bool b) ∧ w' = w := by
  subst hv
  go_enter Tryz.func26, Tryz.ntmps26
  by_cases h0 : p = 0
  · subst h0
    go_wp2
    go_ret
    exact ⟨rfl, rfl⟩
  · by_cases h1 : p = 1
    · subst h1
      go_wp2
      go_ret
      exact ⟨rfl, rfl⟩
    · have e0 : (p == 0) = false := by simpa using h0
      have e1 : (p == 1) = false := by simpa using h1
      go_wp2
      go_ret
      exact ⟨ret_bool (by unfold polB; rw [decide_eq_false h0, decide_eq_false h1]; rfl), rfl⟩

/-- The least tree. -/
def leastN : List Nd := [(⟨#[]⟩, 1, ⟨#[]⟩)]
theorem least_own : ownB leastN = true := by decide +kernel
theorem least_may (i : RI) : mayI (i.1, i.2, leastN) = (Hog.nameL i.1.data.toList && refsB i.2) := by
  unfold mayI
  rw [least_own, Bool.and_true]
theorem least_at (w : World) : Nods (w.alloc (.cells #[.string ⟨#[]⟩, .int .i64 1, .string ⟨#[]⟩] 86)) (.slice (some ⟨w.heap.size, 0, none⟩) 1 1) leastN := by
  have h := (Run.one w ((⟨#[]⟩ : ByteArray), (1 : Int), (⟨#[]⟩ : ByteArray))).arg (c := 1) (by simp)
  exact h.nods

set_option maxRecDepth 100000 in
set_option maxHeartbeats 1000000 in
theorem stand_reg (nm : ByteArray) (rs : List ByteArray) (ra : Option Addr) (rn rc : Nat) (ta : Option Addr) (tn tc : Nat) (r : Bool) (w0 w : World) (hok : Ok w0 w) (h1 : nm.size < 900000) (h2 : rs.length < 900000) (h3 : ∀ x ∈ rs, x.size < 900000)
    (hr : Txt w (.slice ra rn rc) rs) (hv : (Hog.nameL nm.data.toList && refsB rs) = r) :
    Calls Tryz.prog 49 #[.agg #[.string nm, .slice ra rn rc, .slice ta tn tc]] w fun e w' => e = .returned (.bool r) ∧ Ok w0 w' ∧ Below w.heap.size w w' := by
  have HV := hide ((least_may (nm, rs)).trans hv)
  have HOK := hide hok
  have HR := hide hr
  have HF : Hid (Fair (nm, rs, leastN)) := ⟨h1, h2, h3, (by decide : leastN.length < 900000), fun n hn => by
    simp [leastN] at hn
    subst hn
    decide⟩
  obtain ⟨W, hW⟩ : ∃ W, W = w.alloc (icells nm ra rn rc ta tn tc) := ⟨_, rfl⟩
  have HB0 : Hid (Below w.heap.size w W) := by rw [hW]; exact below_box _ _
  have HOK0 : Hid (Ok w0 W) := by rw [hW]; exact hok.alloc _
  have c0 : W.cell? ⟨w.heap.size, 0, none⟩ = some (.string nm) := by rw [hW]; simp [icells]
  have c1 : W.cell? ⟨w.heap.size, 1, none⟩ = some (.slice ra rn rc) := by rw [hW]; simp [icells]
  have HW : Hid (w.alloc (.cells #[.string nm, .slice ra rn rc, .slice ta tn tc] 47) = W) := hW.symm
  have HLT := hide (least_at W)
  rw [show W.heap.size = w.heap.size + 1 by rw [hW]; simp] at HLT
  clear hv hok hr hW h1 h2 h3
  go_enter Tryz.func49, Tryz.ntmps49
  go_wp2_with fail
  rw [HW.out]
  go_wp2_with fail
  refine (mayK_ok nm rs leastN ra rn rc _ 1 1 r w0 _ (HOK0.out.alloc _) HF.out ((HR.out.below HB0.out).below (below_box _ _)) HLT.out HV.out).mono ?_
  rintro e w1 ⟨rfl, ok1, hb1⟩
  have HB1 := hide (below_two (below_two HB0.out (below_box _ _)) hb1)
  clear hb1
  go_wp2
  go_ret
  exact ⟨rfl, ok1, HB1.out⟩

def rsI (is : List It) : List RI := is.map fun i => (i.1, i.2.1)
structure FairR (i : RI) : Prop where
  name : i.1.size < 900000
  refs : i.2.length < 900000
  ref : ∀ x ∈ i.2, x.size < 900000
theorem hold_fall {h : List UInt8} {l : List RI} {k : Nat} {i : RI} {r : Bool} (hi : l[k]? = some i) (hr : holdB h (l.drop k) = r) (h1 : Op.bytesLess h i.1.data.toList = false ∨ (Hog.nameL i.1.data.toList && refsB i.2) = false) : false = r := by
  obtain ⟨hk, rfl⟩ := List.getElem?_eq_some_iff.1 hi
  rw [List.drop_eq_getElem_cons hk] at hr
  unfold holdB at hr
  rw [← hr]
  rcases h1 with e | e <;> rw [e] <;> simp
theorem hold_on {h : List UInt8} {l : List RI} {k : Nat} {i : RI} {r : Bool} (hi : l[k]? = some i) (hr : holdB h (l.drop k) = r) (h1 : Op.bytesLess h i.1.data.toList = true) (h2 : (Hog.nameL i.1.data.toList && refsB i.2) = true) : holdB i.1.data.toList (l.drop (k + 1)) = r := by
  obtain ⟨hk, rfl⟩ := List.getElem?_eq_some_iff.1 hi
  rw [List.drop_eq_getElem_cons hk] at hr
  unfold holdB at hr
  rw [h1, h2] at hr
  simpa using hr
theorem leqR_not {x y : ByteArray} (h : Op.bytesLess y.data.toList x.data.toList = true) : Op.bytesLess x.toList y.toList = false ∧ (x.toList == y.toList) = false := ⟨(less_yes h).2, (less_yes h).1⟩
theorem leqR_yes {x y : ByteArray} (h : Op.bytesLess y.data.toList x.data.toList = false) : Op.bytesLess x.toList y.toList = true ∨ (x.toList == y.toList) = true := by
  rcases less_not h with e | e
  · exact .inr (by rw [e]; exact beq_self_eq_true _)
  · exact .inl e

set_option maxRecDepth 100000 in
set_option maxHeartbeats 2000000 in
theorem hold_some (b o c n : Nat) (is : List It) (r : Bool) (w0 w : World) (hok : Ok w0 w) (hn : n = is.length) (h8 : n ≤ 8) (hr : RunI w b o is) (hf : ∀ i ∈ rsI is, FairR i) (hv : holdB [] (rsI is) = r) :
    Calls Tryz.prog 27 #[.slice (some ⟨b, o, none⟩) n c] w fun e w' => e = .returned (.bool r) ∧ Ok w0 w' ∧ Below w.heap.size w w' := by
  have HR := hide hr
  have HN := hide hn
  have HF := hide hf
  have HOK := hide hok
  have HV := hide hv
  have h8i : (n : Int) ≤ 8 := by omega
  clear hr hn hf hok hv
  go_enter Tryz.func27, Tryz.ntmps27
  go_wp2
  go_loopw [3, 5, 11] (fun u _ i wr => ∃ (k : Nat) (h : ByteArray), k ≤ n ∧ u = .string h ∧ i = .int .i64 k ∧ Hid (holdB h.data.toList ((rsI is).drop k) = r) ∧ Hid (Below w.heap.size w wr)) (fun _ _ i _ => n - (intOf i).toNat)
  case atStart => exact ⟨0, ⟨#[]⟩, Nat.zero_le _, rfl, rfl, HV.out, Below.refl _ _⟩
  case round =>
    obtain ⟨k, h, hk, rfl, rfl, hst, hbl⟩ := hrel
    by_cases hlt : k < n
    · obtain ⟨i, hi⟩ : ∃ i, is[k]? = some i := ⟨is[k]'(by have := HN.out; omega), List.getElem?_eq_some_iff.2 ⟨_, rfl⟩⟩
      have hri : (rsI is)[k]? = some (i.1, i.2.1) := by unfold rsI; rw [List.getElem?_map, hi]; rfl
      obtain ⟨ra, rn, rc, ta, tn, tc, q0, q1, q2, q3, _⟩ := (HR.out.2 k i hi).below hbl.out
      have HFI := hide (HF.out _ (List.mem_of_getElem? hri))
      have HI := hide hri
      have Q3 := hide q3
      have hki : (k : Int) < (n : Int) := by omega
      obtain ⟨W, hW⟩ : ∃ W, W = wr.alloc (.cells #[.string i.1, .slice ra rn rc, .slice ta tn tc] 47) := ⟨_, rfl⟩
      have HBX : Hid (Below wr.heap.size wr W) := by rw [hW]; exact below_box _ _
      have hsz : wr.heap.size < W.heap.size := by rw [hW]; simp
      have c0 : W.cell? ⟨wr.heap.size, 0, none⟩ = some (.string i.1) := by rw [hW]; simp
      have c1 : W.cell? ⟨wr.heap.size, 1, none⟩ = some (.slice ra rn rc) := by rw [hW]; simp
      have c2 : W.cell? ⟨wr.heap.size, 2, none⟩ = some (.slice ta tn tc) := by rw [hW]; simp
      have HBW := hide (below_two hbl.out HBX.out)
      have HW := hide hW.symm
      clear hi hri q3 hW
      cases hle : Op.bytesLess h.data.toList i.1.data.toList with
      | false =>
        have hq := leqR_yes hle
        have HE := hide (hold_fall HI.out hst.out (.inl hle))
        clear hle
        rcases hq with hq | hq
        · go_wp2_with fail
          rw [HW.out]
          go_wp2
          go_ret
          exact ⟨ret_bool HE.out, HOK.out.next HBW.out, HBW.out⟩
        · go_wp2_with fail
          rw [HW.out]
          go_wp2
          go_ret
          exact ⟨ret_bool HE.out, HOK.out.next HBW.out, HBW.out⟩
      | true =>
        obtain ⟨hq, hq2⟩ := leqR_not hle
        have HLE := hide hle
        clear hle
        cases hs : (Hog.nameL i.1.data.toList && refsB i.2.1) with
        | false =>
          have HS := hide hs
          clear hs
          go_wp2_with fail
          rw [HW.out]
          go_wp2_with fail
          refine (stand_reg i.1 i.2.1 ra rn rc ta tn tc false w0 W (HOK.out.next HBW.out) HFI.out.name HFI.out.refs HFI.out.ref (Q3.out.below HBX.out) HS.out).mono ?_
          rintro e w2 ⟨rfl, ok2, hb2⟩
          have HE := hide (hold_fall HI.out hst.out (.inr HS.out))
          go_wp2
          go_ret
          exact ⟨ret_bool HE.out, ok2, below_two HBW.out hb2⟩
        | true =>
          have HS := hide hs
          clear hs
          go_wp2_with fail
          rw [HW.out]
          go_wp2_with fail
          refine (stand_reg i.1 i.2.1 ra rn rc ta tn tc true w0 W (HOK.out.next HBW.out) HFI.out.name HFI.out.refs HFI.out.ref (Q3.out.below HBX.out) HS.out).mono ?_
          rintro e w2 ⟨rfl, ok2, hb2⟩
          have d0 := (hb2.cell (p := ⟨wr.heap.size, 0, none⟩) hsz).trans c0
          have HB2 := hide (below_two HBW.out hb2)
          clear hb2 ok2 c0 c1 c2
          go_wp2
          go_roundw
          case rel => exact ⟨k + 1, i.1, by omega, rfl, by go_num, hold_on HI.out hst.out HLE.out HS.out, HB2⟩
          case measure => simp [intOf]; omega
    · have hki : (n : Int) ≤ (k : Int) := by omega
      have HE : Hid (true = r) := by
        have h1 := hst.out
        rw [List.drop_eq_nil_of_le (by unfold rsI; rw [List.length_map]; have := HN.out; omega)] at h1
        exact h1
      go_wp2
      go_ret
      exact ⟨ret_bool HE.out, HOK.out.next hbl.out, hbl.out⟩
set_option maxRecDepth 100000 in
theorem hold_none (a : Option Addr) (c : Nat) (w : World) :
    Calls Tryz.prog 27 #[.slice a 0 c] w fun e w' => e = .returned (.bool true) ∧ w' = w := by
  go_enter Tryz.func27, Tryz.ntmps27
  go_wp2
  go_loop [3, 5, 11] (fun _ _ i => i = .int .i64 0) (fun _ _ _ => 0)
  case atStart => rfl
  case round =>
    subst hrel
    go_wp2
    go_ret
    exact ⟨rfl, rfl⟩
theorem hold_many (a : Option Addr) (n c : Nat) (w : World) (h : 8 < n) (hm : n ≤ maxLen) :
    Calls Tryz.prog 27 #[.slice a n c] w fun e w' => e = .returned (.bool false) ∧ w' = w := by
  unfold maxLen at hm
  have h' : (8 : Int) < (n : Int) := by omega
  go_enter Tryz.func27, Tryz.ntmps27
  go_wp2
  go_ret
  exact ⟨rfl, rfl⟩
theorem hold_ok (v : Value) (is : List It) (r : Bool) (w0 w : World) (hok : Ok w0 w) (h : Its w v is) (hm : is.length ≤ maxLen) (hf : ∀ i ∈ rsI is, FairR i) (hv : (decide ((rsI is).length ≤ 8) && holdB [] (rsI is)) = r) :
    Calls Tryz.prog 27 #[v] w fun e w' => e = .returned (.bool r) ∧ Ok w0 w' ∧ Below w.heap.size w w' := by
  have hl : (rsI is).length = is.length := List.length_map _
  subst hv
  by_cases h8 : is.length ≤ 8
  · rw [hl, decide_eq_true h8, Bool.true_and]
    rcases h with ⟨rfl, a, c, rfl⟩ | ⟨b, o, c, rfl, _, hr⟩
    · refine (hold_none a c w).mono ?_
      rintro e w' ⟨rfl, rfl⟩
      exact ⟨rfl, hok, Below.refl _ _⟩
    · exact hold_some b o c is.length is _ w0 w hok rfl h8 hr hf rfl
  · obtain ⟨a, c, rfl⟩ := h.form
    rw [hl, decide_eq_false h8, Bool.false_and]
    refine (hold_many a is.length c w (by omega) hm).mono ?_
    rintro e w' ⟨rfl, rfl⟩
    exact ⟨rfl, hok, Below.refl _ _⟩
end Go.Proofs.YtmlkknbndglgaaaGreatDoor
/- The walks of package reg: nameless, mayShow, May. -/
namespace Go.Proofs.YtmlkknbndglgaaaGreatDoor
open Go.RowKit

theorem nameless_ok (x : ByteArray) (r : Bool) (w : World) (hx : x.size < 900000) (hv : Hog.nameL x.data.toList = r) :
    Calls Tryz.prog 51 #[.string x] w fun e w' => e = .returned (.bool (!r)) ∧ Below w.heap.size w w' := by
  have HV := hide hv
  clear hv
  go_enter Tryz.func51, Tryz.ntmps51
  cases r with
  | true =>
    go_wp2_with fail
    refine (name_ok x true w (by omega) HV.out).mono ?_
    rintro e w1 ⟨rfl, hb1⟩
    go_wp2
    go_ret
    exact ⟨rfl, hb1⟩
  | false =>
    go_wp2_with fail
    refine (name_ok x false w (by omega) HV.out).mono ?_
    rintro e w1 ⟨rfl, hb1⟩
    go_wp2
    go_ret
    exact ⟨rfl, hb1⟩
theorem enters_nameless : ∀ args w, (callFunc 51 args).run Tryz.prog w = .ok (.enter 51 args) w := enters_of Tryz.func51 (by kernel_rfl) rfl

def namesB (xs : List ByteArray) : Bool := xs.all fun x => Hog.nameL x.data.toList
theorem namesB_step {xs : List ByteArray} {k : Nat} {x : ByteArray} (hx : xs[k]? = some x) (h : Hog.nameL x.data.toList = true) (ha : namesB (xs.take k) = true) : namesB (xs.take (k + 1)) = true := by
  obtain ⟨hk, rfl⟩ := List.getElem?_eq_some_iff.1 hx
  unfold namesB at ha ⊢
  rw [List.take_succ_eq_append_getElem hk, List.all_append, ha]
  simpa using h
theorem namesB_fall {xs : List ByteArray} {k : Nat} {x : ByteArray} (hx : xs[k]? = some x) (h : Hog.nameL x.data.toList = false) : namesB xs = false := by
  unfold namesB
  exact List.all_eq_false.2 ⟨x, List.mem_of_getElem? hx, by rw [h]; decide⟩

set_option maxRecDepth 100000 in
set_option maxHeartbeats 1000000 in
theorem indexT_some (b o c n : Nat) (xs : List ByteArray) (w : World) (hn : n = xs.length) (hl : n < 900000) (hb : b < w.heap.size) (hcell : ∀ (j : Nat) x, xs[j]? = some x → w.cell? ⟨b, o + j, none⟩ = some (.string x)) (hz : ∀ x ∈ xs, x.size < 900000) :
    Calls Tryz.prog 64 #[.slice (some ⟨b, o, none⟩) n c, .func (.func 51) #[] #[]] w fun e w' => ∃ z : Int, e = .returned (.int .i64 z) ∧ ((z = -1 ∧ namesB xs = true) ∨ (0 ≤ z ∧ namesB xs = false)) ∧ Below w.heap.size w w' := by
  have HN := hide hn
  have HC := hide hcell
  have HZ := hide hz
  have hent := enters_nameless
  clear hn hcell hz
  go_enter Tryz.func64, Tryz.ntmps64
  go_wp2
  go_loopw [5, 8] (fun _ i wr => ∃ k : Nat, k ≤ n ∧ i = .int .i64 k ∧ Hid (namesB (xs.take k) = true) ∧ Hid (Below w.heap.size w wr)) (fun _ i _ => n - (intOf i).toNat)
  case atStart => exact ⟨0, Nat.zero_le _, rfl, rfl, Below.refl _ _⟩
  case round =>
    obtain ⟨k, hk, rfl, hall, hbl⟩ := hrel
    by_cases hlt : k < n
    · obtain ⟨x, hx⟩ : ∃ x, xs[k]? = some x := ⟨xs[k]'(by have := HN.out; omega), List.getElem?_eq_some_iff.2 ⟨_, rfl⟩⟩
      have hc : wr.cell? ⟨b, o + k, none⟩ = some (.string x) := (hbl.out.cell (p := ⟨b, o + k, none⟩) hb).trans (HC.out k x hx)
      have hxz := HZ.out x (List.mem_of_getElem? hx)
      have hki : (k : Int) < (n : Int) := by omega
      have HX := hide hx
      clear hx
      cases hnm : Hog.nameL x.data.toList with
      | true =>
        have HM := hide hnm
        clear hnm
        go_wp2_with fail
        refine (nameless_ok x true wr hxz HM.out).mono ?_
        rintro e w1 ⟨rfl, hb1⟩
        have HB1 := hide (below_two hbl.out hb1)
        clear hb1
        go_wp2
        go_roundw
        case rel => exact ⟨k + 1, by omega, by go_num, namesB_step HX.out HM.out hall.out, HB1⟩
        case measure => simp [intOf]; omega
      | false =>
        have HM := hide hnm
        clear hnm
        go_wp2_with fail
        refine (nameless_ok x false wr hxz HM.out).mono ?_
        rintro e w1 ⟨rfl, hb1⟩
        have HB1 := hide (below_two hbl.out hb1)
        clear hb1
        go_wp2
        go_ret
        exact ⟨k, rfl, .inr ⟨by omega, namesB_fall HX.out HM.out⟩, HB1.out⟩
    · obtain rfl : k = n := by omega
      have HE : Hid (namesB xs = true) := by
        have h1 := hall.out
        rw [HN.out, List.take_length] at h1
        exact h1
      go_wp2
      go_ret
      exact ⟨-1, rfl, .inl ⟨rfl, HE.out⟩, hbl.out⟩
set_option maxRecDepth 100000 in
theorem indexT_none (a : Option Addr) (c : Nat) (w : World) :
    Calls Tryz.prog 64 #[.slice a 0 c, .func (.func 51) #[] #[]] w fun e w' => e = .returned (.int .i64 (-1)) ∧ w' = w := by
  go_enter Tryz.func64, Tryz.ntmps64
  go_wp2
  go_loop [5, 8] (fun _ i => i = .int .i64 0) (fun _ _ => 0)
  case atStart => rfl
  case round =>
    subst hrel
    go_wp2
    go_ret
    exact ⟨rfl, rfl⟩
theorem indexT_ok (v : Value) (xs : List ByteArray) (w : World) (h : Txt w v xs) (hl : xs.length < 900000) (hz : ∀ x ∈ xs, x.size < 900000) :
    Calls Tryz.prog 64 #[v, .func (.func 51) #[] #[]] w fun e w' => ∃ z : Int, e = .returned (.int .i64 z) ∧ ((z = -1 ∧ namesB xs = true) ∨ (0 ≤ z ∧ namesB xs = false)) ∧ Below w.heap.size w w' := by
  rcases h with ⟨rfl, a, c, rfl⟩ | ⟨b, o, c, rfl, _, hb, hcell⟩
  · refine (indexT_none a c w).mono ?_
    rintro e w' ⟨rfl, rfl⟩
    exact ⟨-1, rfl, .inl ⟨rfl, rfl⟩, Below.refl _ _⟩
  · exact indexT_some b o c xs.length xs w rfl hl hb hcell hz
set_option maxHeartbeats 400000 in
theorem containsT_ok (v : Value) (xs : List ByteArray) (r : Bool) (w : World) (h : Txt w v xs) (hl : xs.length < 900000) (hz : ∀ x ∈ xs, x.size < 900000) (hv : namesB xs = r) :
    Calls Tryz.prog 50 #[v, .func (.func 51) #[] #[]] w fun e w' => e = .returned (.bool (!r)) ∧ Below w.heap.size w w' := by
  subst hv
  have HI := hide (indexT_ok v xs w h hl hz)
  clear h hz
  go_enter Tryz.func50, Tryz.ntmps50
  go_wp2_with fail
  refine HI.out.mono ?_
  rintro e w1 ⟨z, rfl, hz, hb1⟩
  have HB := hide hb1
  clear hb1 HI
  rcases hz with ⟨rfl, h1⟩ | ⟨h0, h1⟩
  · have H1 := hide h1
    clear h1
    go_wp2
    go_ret
    exact ⟨ret_bool (by rw [H1.out]; rfl), HB.out⟩
  · have H1 := hide h1
    clear h1
    go_wp2
    go_ret
    exact ⟨ret_bool (by rw [H1.out]; simp), HB.out⟩

set_option maxHeartbeats 400000 in
theorem show_ok (v : Value) (xs : List ByteArray) (r : Bool) (w : World) (h : Txt w v xs) (hl : xs.length < 900000) (hz : ∀ x ∈ xs, x.size < 900000) (hv : showB xs = r) :
    Calls Tryz.prog 28 #[v] w fun e w' => e = .returned (.bool r) ∧ Below w.heap.size w w' := by
  obtain ⟨a, c, rfl⟩ := h.form
  obtain ⟨n, hn⟩ : ∃ n, xs.length = n := ⟨_, rfl⟩
  have HV := hide hv
  have HT := hide h
  have HZ := hide hz
  rw [hn] at HT hl ⊢
  have HN := hide hn
  clear h hv hz hn
  go_enter Tryz.func28, Tryz.ntmps28
  by_cases h8 : n ≤ 8
  · have h8i : (n : Int) ≤ 8 := by omega
    obtain ⟨q, hq⟩ : ∃ q, namesB xs = q := ⟨_, rfl⟩
    have HR : Hid (q = r) := by rw [← HV.out, ← hq]; unfold showB; rw [decide_eq_true (by rw [HN.out]; exact h8)]; exact (Bool.true_and _).symm
    have HQ := hide hq
    clear hq
    cases q with
    | true =>
      go_wp2_with fail
      refine (containsT_ok _ xs true w HT.out (by rw [HN.out]; exact hl) HZ.out HQ.out).mono ?_
      rintro e w1 ⟨rfl, hb1⟩
      go_wp2
      go_ret
      exact ⟨ret_bool HR.out, hb1⟩
    | false =>
      go_wp2_with fail
      refine (containsT_ok _ xs false w HT.out (by rw [HN.out]; exact hl) HZ.out HQ.out).mono ?_
      rintro e w1 ⟨rfl, hb1⟩
      go_wp2
      go_ret
      exact ⟨ret_bool HR.out, hb1⟩
  · have h8i : (8 : Int) < (n : Int) := by omega
    have HR : Hid (false = r) := by rw [← HV.out]; unfold showB; rw [decide_eq_false (by rw [HN.out]; exact h8)]; exact rfl
    go_wp2
    go_ret
    exact ⟨ret_bool HR.out, Below.refl _ _⟩

/-- What is asked of a registration, that it may be gone through. -/
structure FairP (q : Hog.RegP) : Prop where
  pre : q.pre.size < 900000
  len : q.items.length < 900000
  item : ∀ i ∈ q.items, FairR i
  plen : q.prof.length < 900000
  prof : ∀ x ∈ q.prof, x.size < 900000
def pcells (pre : ByteArray) (u v : Value) (pol : Int) : Obj := .cells #[.string pre, u, v, .int .i64 pol] 25

set_option maxRecDepth 100000 in
set_option maxHeartbeats 2000000 in
theorem mayP_ok (q : Hog.RegP) (is : List It) (u v : Value) (r : Bool) (w0 w : World) (hok : Ok w0 w) (hf : FairP q) (hi : Its w u is) (hq : rsI is = q.items) (hp : Txt w v q.prof) (hv : mayR q = r) :
    Calls Tryz.prog 13 #[.agg #[.string q.pre, u, v, .int .i64 q.pol]] w fun e w' => e = .returned (.bool r) ∧ Ok w0 w' ∧ Below w.heap.size w w' := by
  have hil : is.length = q.items.length := by rw [← hq]; exact (List.length_map _).symm
  obtain ⟨ia, ic, rfl⟩ := hi.form
  obtain ⟨pa, pc, rfl⟩ := hp.form
  obtain ⟨m, hm⟩ : ∃ m, is.length = m := ⟨_, rfl⟩
  obtain ⟨n, hn⟩ : ∃ n, q.prof.length = n := ⟨_, rfl⟩
  rw [hm] at hi ⊢
  rw [hn] at hp ⊢
  obtain ⟨W, hW⟩ : ∃ W, W = w.alloc (pcells q.pre (.slice ia m ic) (.slice pa n pc) q.pol) := ⟨_, rfl⟩
  have HB0 : Hid (Below w.heap.size w W) := by rw [hW]; exact below_box _ _
  have HK0 : Hid (Ok w0 W) := by rw [hW]; exact hok.alloc _
  have hsz : w.heap.size < W.heap.size := by rw [hW]; simp
  have c0 : W.cell? ⟨w.heap.size, 0, none⟩ = some (.string q.pre) := by rw [hW]; simp [pcells]
  have c1 : W.cell? ⟨w.heap.size, 1, none⟩ = some (.slice ia m ic) := by rw [hW]; simp [pcells]
  have c2 : W.cell? ⟨w.heap.size, 2, none⟩ = some (.slice pa n pc) := by rw [hW]; simp [pcells]
  have c3 : W.cell? ⟨w.heap.size, 3, none⟩ = some (.int .i64 q.pol) := by rw [hW]; simp [pcells]
  have HW : Hid (w.alloc (.cells #[.string q.pre, .slice ia m ic, .slice pa n pc, .int .i64 q.pol] 25) = W) := hW.symm
  have HI := hide hi
  have HP := hide hp
  have HF := hide hf
  have HL : Hid (is.length ≤ maxLen) := by rw [hil]; have := hf.len; unfold maxLen; show _ ≤ _; omega
  have HFI : Hid (∀ i ∈ rsI is, FairR i) := by rw [hq]; exact hf.item
  have HQ := hide hq
  have HV := hide hv
  have hpre : q.pre.size ≤ 9223372036854775807 := by have := hf.pre; omega
  clear hok hf hi hq hp hv hil hm hn hW
  obtain ⟨x1, h1⟩ : ∃ x, prefB q.pre = x := ⟨_, rfl⟩
  obtain ⟨x2, h2⟩ : ∃ x, polB q.pol = x := ⟨_, rfl⟩
  obtain ⟨x3, h3⟩ : ∃ x, (decide ((rsI is).length ≤ 8) && holdB [] (rsI is)) = x := ⟨_, rfl⟩
  obtain ⟨x4, h4⟩ : ∃ x, showB q.prof = x := ⟨_, rfl⟩
  have HR : Hid ((x1 && x2 && x3 && x4) = r) := by rw [← HV.out, ← h1, ← h2, ← h3, ← h4, HQ.out]; exact rfl
  have H1 := hide h1
  have H2 := hide h2
  have H3 := hide h3
  have H4 := hide h4
  clear h1 h2 h3 h4 HV
  go_enter Tryz.func13, Tryz.ntmps13
  cases x1 with
  | false =>
    go_wp2_with fail
    rw [HW.out]
    go_wp2_with fail
    refine (prefix_ok q.pre false W hpre H1.out).mono ?_
    rintro e w1 ⟨rfl, rfl⟩
    go_wp2
    go_ret
    exact ⟨ret_bool HR.out, HK0.out, HB0.out⟩
  | true =>
    cases x2 with
    | false =>
      go_wp2_with fail
      rw [HW.out]
      go_wp2_with fail
      refine (prefix_ok q.pre true W hpre H1.out).mono ?_
      rintro e w1 ⟨rfl, rfl⟩
      go_wp2_with fail
      refine (decide_reg q.pol false _ H2.out).mono ?_
      rintro e w1 ⟨rfl, rfl⟩
      go_wp2
      go_ret
      exact ⟨ret_bool HR.out, HK0.out, HB0.out⟩
    | true =>
      cases x3 with
      | false =>
        go_wp2_with fail
        rw [HW.out]
        go_wp2_with fail
        refine (prefix_ok q.pre true W hpre H1.out).mono ?_
        rintro e w1 ⟨rfl, rfl⟩
        go_wp2_with fail
        refine (decide_reg q.pol true _ H2.out).mono ?_
        rintro e w1 ⟨rfl, rfl⟩
        go_wp2_with fail
        refine (hold_ok _ is false w0 _ HK0.out (HI.out.below HB0.out) HL.out HFI.out H3.out).mono ?_
        rintro e w2 ⟨rfl, ok2, hb2⟩
        go_wp2
        go_ret
        exact ⟨ret_bool HR.out, ok2, below_two HB0.out hb2⟩
      | true =>
        cases x4 with
        | false | true =>
          go_wp2_with fail
          rw [HW.out]
          go_wp2_with fail
          refine (prefix_ok q.pre true W hpre H1.out).mono ?_
          rintro e w1 ⟨rfl, rfl⟩
          go_wp2_with fail
          refine (decide_reg q.pol true _ H2.out).mono ?_
          rintro e w1 ⟨rfl, rfl⟩
          go_wp2_with fail
          refine (hold_ok _ is true w0 _ HK0.out (HI.out.below HB0.out) HL.out HFI.out H3.out).mono ?_
          rintro e w2 ⟨rfl, ok2, hb2⟩
          have d2 := (hb2.cell (p := ⟨w.heap.size, 2, none⟩) hsz).trans c2
          have HB2 := hide (below_two HB0.out hb2)
          have HK2 := hide ok2
          clear c0 c1 c2 c3 hb2 ok2
          go_wp2_with fail
          refine (show_ok _ q.prof _ w2 (HP.out.below HB2.out) HF.out.plen HF.out.prof H4.out).mono ?_
          rintro e w3 ⟨rfl, hb3⟩
          go_wp2
          go_ret
          exact ⟨ret_bool HR.out, HK2.out.next hb3, below_two HB2.out hb3⟩
end Go.Proofs.YtmlkknbndglgaaaGreatDoor
