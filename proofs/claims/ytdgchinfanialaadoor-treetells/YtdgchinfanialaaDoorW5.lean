/- The walks of package path: Parent, Base, Join. -/
import Derived.Test.YtdgchinfanialaaDoorW4
namespace Go.Proofs.YtdgchinfanialaaDoor
open Go.RowKit

theorem take_mk (s : ByteArray) (n : Nat) : s.extract 0 n = Hog.mk (s.data.toList.take n) := by
  rw [Lib.extract_eq]; simp [Hog.mk]
theorem drop_mk (s : ByteArray) (n : Nat) : s.extract n s.size = Hog.mk (s.data.toList.drop n) := by
  rw [← Hog.data_mk (s.extract n s.size), Lib.extract_to_end]

set_option maxHeartbeats 800000 in
theorem parent_any (p : ByteArray) (w : World) (hsh : w.ShapedOpen Tryd.prog) (hp : p.size < 999999) :
    Calls Tryd.prog 58 #[.string p] w fun e w' => e = .returned (.tuple #[.string (Hog.mk (Hog.parentL p.data.toList)), .bool (Hog.parentOk p.data.toList)]) ∧ Below w.heap.size w w' := by
  by_cases h0 : p.data.toList = []
  · have hb : p.toList.isEmpty = true := by rw [Lib.toList_data, h0]; rfl
    have HE : Hid (p.data.toList = []) := h0
    clear h0
    go_enter Tryd.func58, Tryd.ntmps58
    go_wp2_with fail
    go_ret2
    have ho : Hog.parentOk p.data.toList = false := by unfold Hog.parentOk; rw [HE.out]; rfl
    refine ⟨ret_two ?_ ho.symm, Below.refl _ _⟩
    unfold Hog.parentL
    rw [if_neg (by rw [ho]; decide)]
    rfl
  · have hb : p.toList.isEmpty = false := by rw [Lib.toList_data]; simpa using h0
    have HE : Hid (¬ p.data.toList = []) := h0
    clear h0
    cases hm : Hog.mayL p.data.toList with
    | false =>
      have HM : Hid (Hog.mayL p.data.toList = false) := hm
      go_enter Tryd.func58, Tryd.ntmps58
      go_wp2_with fail
      refine (may_any p w hsh hp).mono ?_
      rintro e w1 ⟨rfl, hb1⟩
      go_wp2_with fail
      go_ret2
      have ho : Hog.parentOk p.data.toList = false := by unfold Hog.parentOk; rw [HM.out, Bool.and_false]
      refine ⟨ret_two ?_ ho.symm, hb1⟩
      unfold Hog.parentL
      rw [if_neg (by rw [ho]; decide)]
      rfl
    | true =>
      have HM : Hid (Hog.mayL p.data.toList = true) := hm
      obtain ⟨l, hl⟩ : ∃ l, l = Lib.lastIndexByte p 47 := ⟨_, rfl⟩
      have HL : Hid (l = Lib.lastIndexByte p 47) := hl
      have hlb := Hog.last_bounds p
      rw [← hl] at hlb
      obtain ⟨hl1, hl2⟩ := hlb
      clear hm hl
      go_enter Tryd.func58, Tryd.ntmps58
      go_wp2_with fail
      refine (may_any p w hsh hp).mono ?_
      rintro e w1 ⟨rfl, hb1⟩
      rw [HM.out]
      go_wp2_with fail
      refine (Tryd.strings_LastIndexByte p 47 (by omega) w1).mono ?_
      rintro e w2 ⟨rfl, rfl⟩
      rw [← HL.out]
      go_wp2_with fail
      go_ret2
      have ho : Hog.parentOk p.data.toList = true := by unfold Hog.parentOk; rw [HM.out]; simpa using HE.out
      refine ⟨ret_two ?_ ho.symm, hb1⟩
      unfold Hog.parentL
      rw [if_pos ho, Hog.parent_take, ← HL.out, ← take_mk]
/-- What Join answers. -/
def joinV (xs : List (List UInt8)) : List UInt8 := if Hog.joinOk xs = true then Hog.joinS xs else []

theorem join_len (xs : List (List UInt8)) (h : Hog.allP xs = true) : (Hog.joinS xs).length ≤ 1000 := by
  unfold Hog.allP at h
  simp only [Bool.and_eq_true, decide_eq_true_eq, List.all_eq_true] at h
  obtain ⟨h1, h2⟩ := h
  exact Nat.le_trans (Hog.join_len_le xs 60 (fun x hx => (Hog.part_parts (h2 x hx)).2.1)) (by omega)

/-- What stands at a path that is not the root. -/
theorem back_facts {p : List UInt8} (hp : p ≠ []) (hm : Hog.mayL p = true) :
    ∃ q x : List UInt8, Hog.parentL p = q ∧ Hog.parentOk p = true ∧ Hog.baseL p = x ∧ Hog.mayL q = true ∧ Hog.partL x = true ∧ Hog.splitL p = Hog.splitL q ++ [x] ∧ joinV (Hog.splitL p) = p ∧ Hog.joinOk (Hog.splitL p) = true ∧
      Hog.underL p q = true ∧ Hog.underL q p = false ∧ Hog.underL p p = true ∧ Hog.underL p [] = true ∧ q.length ≤ 200 ∧ x.length ≤ 60 ∧ (Hog.splitL q).length ≤ 10 ∧ ∀ y ∈ Hog.splitL p, y.length ≤ 60 := by
  obtain ⟨q, x, h1, h2, h3, h4, h5⟩ := Hog.back_parts hp hm
  have sp : Hog.splitL p = Hog.cutC p := by unfold Hog.splitL; rw [if_pos hm]
  have sq : Hog.splitL q = Hog.cutC q := by unfold Hog.splitL; rw [if_pos h3]
  have hj := Hog.joinOk_cut hm
  have hu := Hog.under_parent hm h3 (Hog.part_parts h4).1 h5
  refine ⟨q, x, h1, ?_, h2, h3, h4, by rw [sp, sq, h5], ?_, by rw [sp]; exact hj, hu.1, hu.2, Hog.under_self hm, Hog.under_root hm, (Hog.may_parts h3).1, (Hog.part_parts h4).2.1, by rw [sq]; exact (Hog.may_parts h3).2.1, ?_⟩
  · unfold Hog.parentOk; rw [hm]; simpa using hp
  · unfold joinV; rw [sp, if_pos hj, Hog.join_cutC]
  · intro y hy
    rw [sp] at hy
    exact (Hog.part_parts (List.all_eq_true.1 (Hog.may_parts hm).2.2 y hy)).2.1

end Go.Proofs.YtdgchinfanialaaDoor
