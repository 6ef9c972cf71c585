/- The walks of package tree: what a walk over nodes refuses. -/
import Derived.Test.YtomomeckgiiapaaDoorN7
namespace Go.Proofs.YtomomeckgiiapaaDoor
open Go.RowKit

def refusesB (ahead : List Nd) (n : Nd) : Bool :=
  decide (ahead.length = 400) || !goodB n || match ahead.getLast? with
    | none => !dataEmpty n.1
    | some z => !ltN z n || !standsB n ahead

/-- A walk over nodes in block g: the nodes, and how many of them lie behind it. -/
def WalkAt (w : World) (g : Nat) (v : Value) (k : Nat) : Prop := w.heap[g]? = some (.cells #[v, .int .i64 k] 73 (0, 0))
theorem WalkAt.cells {w : World} {g : Nat} {v : Value} {k : Nat} (h : WalkAt w g v k) : w.cell? ⟨g, 0, none⟩ = some v ∧ w.cell? ⟨g, 1, none⟩ = some (.int .i64 k) ∧ w.frozen? ⟨g, 1, none⟩ = false ∧ g < w.heap.size :=
  ⟨by rw [cell_of_row w g 0 _ _ (0, 0) h]; rfl, by rw [cell_of_row w g 1 _ _ (0, 0) h]; rfl, frozen_of_row w g 1 _ _ h, (Array.getElem?_eq_some_iff.1 h).1⟩
theorem WalkAt.below {w w' : World} {g : Nat} {v : Value} {k : Nat} (h : WalkAt w g v k) (hb : Below w.heap.size w w') : WalkAt w' g v k := by
  unfold WalkAt
  rw [hb.block g h.cells.2.2.2]
  exact h
theorem WalkAt.set {w : World} {g : Nat} {v : Value} {k : Nat} (h : WalkAt w g v k) : WalkAt (w.setCell ⟨g, 1, none⟩ (.int .i64 (k + 1 : Nat))) g v (k + 1) := by
  unfold WalkAt
  rw [heap_setCell_same w g _ _ _ _ h]
  rfl

theorem setCell_below {w : World} {g j : Nat} (x : Value) : Below g w (w.setCell ⟨g, j, none⟩ x) := (Below.refl g w).setCell (p := ⟨g, j, none⟩) (Nat.le_refl g) x

theorem refuses_world {w W : World} {n : Nd} {g k : Nat} {v : Value} (hW : W = w.alloc (.cells #[.string n.1, .int .i64 n.2.1, .string n.2.2] 27)) (hw : WalkAt w g v k) (nq : Nat) :
    ∃ W2, W2 = (W.drewN nq).setCell ⟨g, 1, none⟩ (.int .i64 ((k : Int) + 1)) ∧ WalkAt W2 g v (k + 1) ∧ Below g w W2 ∧ At W2 w.heap.size 0 n ∧ w.heap.size < W2.heap.size := by
  have hgw := hw.cells.2.2.2
  have hb0 : Below w.heap.size w (W.drewN nq) := by rw [hW]; exact below_drewN (below_box _ _) nq
  have hs : w.heap.size < (W.drewN nq).heap.size := by rw [hW]; show w.heap.size < (w.alloc _).heap.size; simp
  have hbox : At (W.drewN nq) w.heap.size 0 n := by rw [hW]; exact ⟨by simp, by simp, by simp⟩
  have e : ((k : Int) + 1) = ((k + 1 : Nat) : Int) := by omega
  have hk : ∀ i, ((W.drewN nq).setCell ⟨g, 1, none⟩ (.int .i64 ((k : Int) + 1))).heap[i]? = if i = g then ((W.drewN nq).setCell ⟨g, 1, none⟩ (.int .i64 ((k : Int) + 1))).heap[g]? else (W.drewN nq).heap[i]? := fun i => by
    by_cases h : i = g
    · rw [if_pos h, h]
    · rw [if_neg h]; exact Below.heap_setCell _ ⟨g, 1, none⟩ _ i h
  have hcell : ∀ j, ((W.drewN nq).setCell ⟨g, 1, none⟩ (.int .i64 ((k : Int) + 1))).cell? ⟨w.heap.size, j, none⟩ = (W.drewN nq).cell? ⟨w.heap.size, j, none⟩ := fun j =>
    World.cell?_of_block (a := ⟨w.heap.size, j, none⟩) (by rw [hk, if_neg (show w.heap.size ≠ g by omega)])
  refine ⟨_, rfl, ?_, (hb0.mono (Nat.le_of_lt hgw)).trans (setCell_below _), ⟨(hcell 0).trans hbox.path, (hcell 1).trans hbox.kind, (hcell 2).trans hbox.data⟩, ?_⟩
  · rw [e]; exact (hw.below hb0).set
  · have := (setCell_below (w := W.drewN nq) (g := g) (j := 1) (.int .i64 ((k : Int) + 1))).size; omega

theorem refusesB_full {ahead : List Nd} {n : Nd} (h : ahead.length = 400) : refusesB ahead n = true := by unfold refusesB; rw [decide_eq_true h]; rfl
theorem refusesB_bad {ahead : List Nd} {n : Nd} (h : goodB n = false) : refusesB ahead n = true := by unfold refusesB; rw [h]; simp
theorem refusesB_first {n : Nd} (h : goodB n = true) : refusesB [] n = !dataEmpty n.1 := by unfold refusesB; rw [h]; rfl
theorem refusesB_next {ahead : List Nd} {n z : Nd} (h : goodB n = true) (hl : ahead.length ≠ 400) (hz : ahead.getLast? = some z) : refusesB ahead n = (!ltN z n || !standsB n ahead) := by
  unfold refusesB; rw [h, decide_eq_false hl, hz]; rfl
theorem take_last {t : List Nd} {q : Nat} {z : Nd} (h : t[q]? = some z) : (t.take (q + 1)).getLast? = some z := by
  obtain ⟨hq, rfl⟩ := List.getElem?_eq_some_iff.1 h
  rw [List.take_succ_eq_append_getElem hq, List.getLast?_concat]
theorem ltN_not {z n : Nd} (h : ltN z n = false) : n.1.toList = z.1.toList ∨ Op.bytesLess n.1.toList z.1.toList = true := by
  rw [Lib.toList_data, Lib.toList_data]
  rcases Hog.not_less_iff.1 h with e | e
  · exact .inl e.symm
  · exact .inr e
theorem ltN_yes {z n : Nd} (h : ltN z n = true) : n.1.toList ≠ z.1.toList ∧ Op.bytesLess n.1.toList z.1.toList = false := by
  rw [Lib.toList_data, Lib.toList_data]
  exact ⟨fun e => Hog.less_ne h e.symm, Hog.less_asymm h⟩

set_option maxRecDepth 100000 in
set_option maxHeartbeats 2000000 in
theorem refuses_ok (n : Nd) (g b o c k : Nat) (t : List Nd) (v : Bool) (w0 w : World) (h : Ok w0 w) (hg : w0.heap.size ≤ g) (hp : n.1.size < 999999) (hw : WalkAt w g (.slice (some ⟨b, o, none⟩) t.length c) k) (hr : Run w b o t) (hbg : b < g)
    (hs : Rising (t.take k)) (hm : t.length < 1000000) (hkm : k < t.length) (hmc : t.length ≤ c) (hv : refusesB (t.take k) n = v) :
    Calls Tryd.prog 59 #[.pointer (some ⟨g, 0, none⟩), .agg #[.string n.1, .int .i64 n.2.1, .string n.2.2]] w fun e w' => e = .returned (.bool v) ∧ WalkAt w' g (.slice (some ⟨b, o, none⟩) t.length c) (k + 1) ∧ Ok w0 w' ∧ Below g w w' := by
  obtain ⟨m, hmt⟩ : ∃ m, m = t.length := ⟨_, rfl⟩
  have HMT := hide hmt
  have HR := hide hr
  have HS := hide hs
  have HV := hide hv
  rw [← hmt] at hw hm hkm hmc ⊢
  have htk : (t.take k).length = k := by rw [List.length_take]; omega
  have HTK := hide htk
  clear hmt hr hs hv htk
  obtain ⟨W, hW⟩ : ∃ W, W = w.alloc (.cells #[.string n.1, .int .i64 n.2.1, .string n.2.2] 27) := ⟨_, rfl⟩
  have hb0 : Below w.heap.size w W := by rw [hW]; exact below_box _ _
  have HW := hide hW
  have HWA := hide hw
  have hgw := hw.cells.2.2.2
  obtain ⟨c0, c1, c2, c3⟩ := (hw.below hb0).cells
  clear hW hb0 hw
  go_enter Tryd.func59, Tryd.ntmps59
  go_wp2
  rw [← HW.out]
  go_quiet (fail)
  obtain ⟨W2, hW2, hwa2, hb2, hat2, hsz2⟩ := refuses_world HW.out HWA.out nq
  have HW2 := hide hW2
  have HWA2 := hide hwa2
  have HB2 := hide hb2
  have HAT2 := hide hat2
  have ok2 : Ok w0 W2 := h.step (hb2.mono hg)
  obtain ⟨x0, x1, x2⟩ := hat2
  rw [hW2] at x0 x1 x2
  clear hW2 hwa2 hb2
  by_cases hk : k = 400
  · have hk' : ((k : Int) == 400) = true := by rw [hk]; rfl
    have HK := hide hk
    clear hk
    go_wp2
    rw [← HW2.out]
    go_ret
    exact ⟨ret_bool (by rw [← HV.out, refusesB_full (by rw [HTK.out]; exact HK.out)]), HWA2.out, ok2, HB2.out⟩
  · have hk' : ((k : Int) == 400) = false := by rw [beq_eq_false_iff_ne]; omega
    have HK := hide hk
    clear hk
    go_wp2_with fail
    rw [← HW2.out]
    clear x0 x1 x2
    cases hgd : goodB n with
    | false =>
      have HG := hide hgd
      clear hgd
      refine (good_ok n false w0 W2 ok2 hp HG.out).mono ?_
      rintro e w3 ⟨rfl, ok3, hb3⟩
      go_wp2
      go_ret
      exact ⟨ret_bool (by rw [← HV.out, refusesB_bad HG.out]), HWA2.out.below hb3, ok3, HB2.out.trans (hb3.mono (Nat.le_of_lt HWA2.out.cells.2.2.2))⟩
    | true =>
      have HG := hide hgd
      clear hgd
      refine (good_ok n true w0 W2 ok2 hp HG.out).mono ?_
      rintro e w3 ⟨rfl, ok3, hb3⟩
      have HB3 := hide (HB2.out.trans (hb3.mono (Nat.le_of_lt HWA2.out.cells.2.2.2)))
      have HWA3 := hide (HWA2.out.below hb3)
      obtain ⟨x0, x1, x2⟩ := HAT2.out.below hb3 hsz2
      have hsz3 : w.heap.size < w3.heap.size := Nat.lt_of_lt_of_le hsz2 hb3.size
      clear hb3
      cases k with
      | zero =>
        go_wp2
        go_ret
        refine ⟨ret_bool ?_, HWA3.out, ok3, HB3.out⟩
        rw [← HV.out, List.take_zero, refusesB_first HG.out]
        rfl
      | succ q =>
        obtain ⟨z, hz⟩ : ∃ z, t[q]? = some z := ⟨t[q]'(by have := HMT.out; omega), List.getElem?_eq_some_iff.2 ⟨_, rfl⟩⟩
        have HZ := hide hz
        have hat := (HR.out.2 q z hz).below HB3.out hbg
        have hlb : b < w3.heap.size := Nat.lt_of_lt_of_le HR.out.1 HB3.out.size
        have f1 : ∀ p : Later w3, p.w1.cell? ⟨b, o + q * 3, none⟩ = some (.string z.1) := fun p => p.cell hlb hat.path
        have g1 : ∀ p : Later w3, p.w1.cell? ⟨w.heap.size, 0, none⟩ = some (.string n.1) := fun p => p.cell hsz3 x0
        have g2 : ∀ p : Later w3, p.w1.cell? ⟨w.heap.size, 1, none⟩ = some (.int .i64 n.2.1) := fun p => p.cell hsz3 x1
        have g3 : ∀ p : Later w3, p.w1.cell? ⟨w.heap.size, 2, none⟩ = some (.string n.2.2) := fun p => p.cell hsz3 x2
        have h0 : ((q : Int) + 1 == 0) = false := by rw [beq_eq_false_iff_ne]; omega
        have hne := later_one w3
        clear hat hz
        cases hlt : ltN z n with
        | false =>
          have HLT := hide hlt
          have hle := ltN_not hlt
          clear hlt
          rcases hle with hle | hle
          all_goals
            go_wp2
            refine wp_region_later (by kernel_rfl) (by kernel_rfl) ?_
            repeat (first | go_big_quiet_step (fail) | quiet_step (fail))
            refine wpQuiet_nil ?_
            intro _ hw'
            obtain ⟨⟨wq, hbq⟩, hw''⟩ := hw'
            subst hw''
            have HBQ := hide hbq
            clear f1 g1 g2 g3 hbq
            go_wp2
            go_ret
            refine ⟨ret_bool ?_, HWA3.out.below HBQ.out, ok3.next HBQ.out, HB3.out.trans (HBQ.out.mono (Nat.le_of_lt HWA3.out.cells.2.2.2))⟩
            rw [← HV.out, refusesB_next HG.out (by rw [HTK.out]; exact HK.out) (take_last HZ.out), HLT.out]
            rfl
        | true =>
          have HLT := hide hlt
          obtain ⟨hle1, hle2⟩ := ltN_yes hlt
          have hle3 : (n.1.toList == z.1.toList) = false := by rw [beq_eq_false_iff_ne]; exact hle1
          clear hlt
          have hst := fun p : Later w3 => stands_ok n b o c (t.take (q + 1)) (standsB n (t.take (q + 1))) w0 p.w1 (ok3.next p.below) hp ⟨Nat.lt_of_lt_of_le hlb p.below.size, fun j x hx => by
              rw [List.getElem?_take] at hx
              split at hx
              · exact ((HR.out.2 j x hx).below HB3.out hbg).below p.below hlb
              · cases hx⟩ HS.out (by rw [HTK.out]; omega) rfl
          have HST : Hid (∀ p : Later w3, Calls Tryd.prog 83 #[.agg #[.string n.1, .int .i64 n.2.1, .string n.2.2], .slice (some ⟨b, o, none⟩) (q + 1) c] p.w1 fun e w' => e = .returned (.bool (standsB n (t.take (q + 1)))) ∧ Below p.w1.heap.size p.w1 w') := fun p => by
            have h5 := hst p
            rw [HTK.out] at h5
            exact h5.mono fun e w' ⟨h6, _, h7⟩ => ⟨h6, h7⟩
          clear hst
          go_wp2
          refine wp_region_later (by kernel_rfl) (by kernel_rfl) ?_
          repeat (first | go_big_quiet_step ((go_at_call 83; exact Calls.later_of (HST.out _))) | quiet_step ((go_at_call 83; exact Calls.later_of (HST.out _))))
          refine wpQuiet_nil ?_
          intro _ hw'
          obtain ⟨⟨wq, hbq⟩, hw''⟩ := hw'
          subst hw''
          have HBQ := hide hbq
          clear f1 g1 g2 g3 hbq
          go_wp2
          go_ret
          refine ⟨ret_bool ?_, HWA3.out.below HBQ.out, ok3.next HBQ.out, HB3.out.trans (HBQ.out.mono (Nat.le_of_lt HWA3.out.cells.2.2.2))⟩
          rw [← HV.out, refusesB_next HG.out (by rw [HTK.out]; exact HK.out) (take_last HZ.out), HLT.out]
          rfl
end Go.Proofs.YtomomeckgiiapaaDoor
