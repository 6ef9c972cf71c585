/- The walks of package path: May, Split, Under. -/
import Derived.Test.YtomomeckgiiapaaDoorW3
namespace Go.Proofs.YtomomeckgiiapaaDoor
open Go.RowKit

theorem cut_sizes (l : List UInt8) (h : l.length < 1000000) : ∀ x ∈ (Hog.cutC l).map Hog.mk, x.size < 1000000 := by
  intro x hx
  obtain ⟨y, hy, rfl⟩ := List.mem_map.1 hx
  rw [Hog.mk_size]
  exact Nat.lt_of_le_of_lt (Hog.cutC_part_len l y hy) h
theorem cut_count (l : List UInt8) (h : l.length < 999999) : ((Hog.cutC l).map Hog.mk).length < 1000000 := by
  have := Hog.cutC_len l
  simp only [List.length_map]; omega

set_option maxHeartbeats 400000 in
theorem may_any (s : ByteArray) (w : World) (hsh : w.ShapedOpen Tryd.prog) (hs : s.size < 999999) :
    Calls Tryd.prog 38 #[.string s] w fun e w' => e = .returned (.bool (Hog.mayL s.data.toList)) ∧ Below w.heap.size w w' := by
  by_cases h : s.size ≤ 200
  · have h' : (s.size : Int) ≤ 200 := by omega
    go_enter Tryd.func38, Tryd.ntmps38
    go_wp2_with fail
    refine (cut_any s w hsh (by omega)).mono ?_
    rintro e w1 ⟨v, rfl, ho, hb⟩
    go_wp2_with fail
    refine (parts_any v _ w1 ho.txt (cut_count _ (by rw [← Hog.size_len]; exact hs)) (cut_sizes _ (by rw [← Hog.size_len]; omega))).mono ?_
    rintro e w2 ⟨rfl, rfl⟩
    go_wp2_with fail
    go_ret
    refine ⟨ret_bool ?_, hb⟩
    unfold Hog.mayL
    rw [parts_mk, ← Hog.size_len]
    simp [h]
  · have h' : (200 : Int) < (s.size : Int) := by omega
    go_enter Tryd.func38, Tryd.ntmps38
    go_wp2_with fail
    go_ret
    refine ⟨ret_bool ?_, Below.refl _ _⟩
    unfold Hog.mayL
    rw [← Hog.size_len]
    simp [h]

set_option maxHeartbeats 400000 in
theorem psplit_any (s : ByteArray) (w : World) (hsh : w.ShapedOpen Tryd.prog) (hs : s.size < 999999) :
    Calls Tryd.prog 27 #[.string s] w fun e w' => ∃ v, e = .returned v ∧ Own w.heap.size w' v ((Hog.splitL s.data.toList).map Hog.mk) ∧ Below w.heap.size w w' := by
  cases hm : Hog.mayL s.data.toList with
  | true =>
    have HM : Hid (Hog.mayL s.data.toList = true) := hm
    go_enter Tryd.func27, Tryd.ntmps27
    go_wp2_with fail
    refine (may_any s w hsh hs).mono ?_
    rintro e w1 ⟨rfl, hb1⟩
    go_wp2_with fail
    refine (cut_any s w1 (shape_below hsh hb1) (by omega)).mono ?_
    rintro e w2 ⟨v, rfl, ho, hb2⟩
    go_wp2_with fail
    go_ret
    refine ⟨_, rfl, ?_, below_two hb1 hb2⟩
    unfold Hog.splitL
    rw [if_pos HM.out]
    exact ho.base hb1.size
  | false =>
    have HM : Hid (Hog.mayL s.data.toList = false) := hm
    go_enter Tryd.func27, Tryd.ntmps27
    go_wp2_with fail
    refine (may_any s w hsh hs).mono ?_
    rintro e w1 ⟨rfl, hb1⟩
    go_wp2_with fail
    go_ret
    refine ⟨_, rfl, ?_, hb1⟩
    unfold Hog.splitL
    rw [if_neg (by rw [HM.out]; decide)]
    exact Own.nil _ _
set_option maxHeartbeats 800000 in
theorem under_any (p d : ByteArray) (w : World) (hsh : w.ShapedOpen Tryd.prog) (hp : p.size < 999999) (hd : d.size < 999999) :
    Calls Tryd.prog 25 #[.string p, .string d] w fun e w' => e = .returned (.bool (Hog.underL p.data.toList d.data.toList)) ∧ Below w.heap.size w w' := by
  cases hm : Hog.mayL p.data.toList with
  | false =>
    have HM : Hid (Hog.mayL p.data.toList = false) := hm
    go_enter Tryd.func25, Tryd.ntmps25
    go_wp2_with fail
    refine (may_any p w hsh hp).mono ?_
    rintro e w1 ⟨rfl, hb1⟩
    go_wp2_with fail
    go_ret
    exact ⟨ret_bool (by rw [Hog.under_not HM.out]), hb1⟩
  | true =>
    cases hk : Hog.mayL d.data.toList with
    | false =>
      have HM : Hid (Hog.mayL d.data.toList = false) := hk
      go_enter Tryd.func25, Tryd.ntmps25
      go_wp2_with fail
      refine (may_any p w hsh hp).mono ?_
      rintro e w1 ⟨rfl, hb1⟩
      go_wp2_with fail
      refine (may_any d w1 (shape_below hsh hb1) hd).mono ?_
      rintro e w2 ⟨rfl, hb2⟩
      go_wp2_with fail
      go_ret
      exact ⟨ret_bool (by rw [Hog.under_not2 HM.out]), below_two hb1 hb2⟩
    | true =>
      have HM : Hid (Hog.mayL p.data.toList = true) := hm
      have HK : Hid (Hog.mayL d.data.toList = true) := hk
      go_enter Tryd.func25, Tryd.ntmps25
      go_wp2_with fail
      refine (may_any p w hsh hp).mono ?_
      rintro e w1 ⟨rfl, hb1⟩
      go_wp2_with fail
      refine (may_any d w1 (shape_below hsh hb1) hd).mono ?_
      rintro e w2 ⟨rfl, hb2⟩
      go_wp2_with (go_at_call 45; refine (Tryd.strings_HasPrefix _ _ _).mono ?_; rintro e w' ⟨rfl, rfl⟩)
      all_goals
        go_ret
        refine ⟨ret_bool ?_, below_two hb1 hb2⟩
        simp only [Lib.toList_data] at *
        unfold Hog.underL
        rw [HM.out, HK.out]
        simp_all
end Go.Proofs.YtomomeckgiiapaaDoor
