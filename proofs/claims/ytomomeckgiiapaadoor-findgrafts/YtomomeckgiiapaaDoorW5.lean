/- The walks of package path: Parent, Base, Join. -/
import Derived.Test.YtomomeckgiiapaaDoorW4
namespace Go.Proofs.YtomomeckgiiapaaDoor
open Go.RowKit

theorem take_mk (s : ByteArray) (n : Nat) : s.extract 0 n = Hog.mk (s.data.toList.take n) := by
  rw [Lib.extract_eq]; simp [Hog.mk]
theorem drop_mk (s : ByteArray) (n : Nat) : s.extract n s.size = Hog.mk (s.data.toList.drop n) := by
  rw [← Hog.data_mk (s.extract n s.size), Lib.extract_to_end]

set_option maxHeartbeats 800000 in
theorem parent_any (p : ByteArray) (w : World) (hsh : w.ShapedOpen Tryd.prog) (hp : p.size < 999999) :
    Calls Tryd.prog 26 #[.string p] w fun e w' => e = .returned (.tuple #[.string (Hog.mk (Hog.parentL p.data.toList)), .bool (Hog.parentOk p.data.toList)]) ∧ Below w.heap.size w w' := by
  by_cases h0 : p.data.toList = []
  · have hb : p.toList.isEmpty = true := by rw [Lib.toList_data, h0]; rfl
    have HE : Hid (p.data.toList = []) := h0
    clear h0
    go_enter Tryd.func26, Tryd.ntmps26
    go_wp2_with fail
    go_ret2
    have ho : Hog.parentOk p.data.toList = false := by unfold Hog.parentOk; rw [HE.out]; rfl
    refine ⟨ret_two ?_ ho.symm, Below.refl _ _⟩
    unfold Hog.parentL
    rw [if_neg (by rw [ho]; decide)]
    rfl
  · have hb : p.toList.isEmpty = false := by rw [Lib.toList_data]; simpa using h0
    have HE : Hid (¬ p.data.toList = []) := h0
    clear h0
    cases hm : Hog.mayL p.data.toList with
    | false =>
      have HM : Hid (Hog.mayL p.data.toList = false) := hm
      go_enter Tryd.func26, Tryd.ntmps26
      go_wp2_with fail
      refine (may_any p w hsh hp).mono ?_
      rintro e w1 ⟨rfl, hb1⟩
      go_wp2_with fail
      go_ret2
      have ho : Hog.parentOk p.data.toList = false := by unfold Hog.parentOk; rw [HM.out, Bool.and_false]
      refine ⟨ret_two ?_ ho.symm, hb1⟩
      unfold Hog.parentL
      rw [if_neg (by rw [ho]; decide)]
      rfl
    | true =>
      have HM : Hid (Hog.mayL p.data.toList = true) := hm
      obtain ⟨l, hl⟩ : ∃ l, l = Lib.lastIndexByte p 47 := ⟨_, rfl⟩
      have HL : Hid (l = Lib.lastIndexByte p 47) := hl
      have hlb := Hog.last_bounds p
      rw [← hl] at hlb
      obtain ⟨hl1, hl2⟩ := hlb
      clear hm hl
      go_enter Tryd.func26, Tryd.ntmps26
      go_wp2_with fail
      refine (may_any p w hsh hp).mono ?_
      rintro e w1 ⟨rfl, hb1⟩
      rw [HM.out]
      go_wp2_with fail
      refine (Tryd.strings_LastIndexByte p 47 (by omega) w1).mono ?_
      rintro e w2 ⟨rfl, rfl⟩
      rw [← HL.out]
      go_wp2_with fail
      go_ret2
      have ho : Hog.parentOk p.data.toList = true := by unfold Hog.parentOk; rw [HM.out]; simpa using HE.out
      refine ⟨ret_two ?_ ho.symm, hb1⟩
      unfold Hog.parentL
      rw [if_pos ho, Hog.parent_take, ← HL.out, ← take_mk]
set_option maxHeartbeats 800000 in
theorem base_any (p : ByteArray) (w : World) (hsh : w.ShapedOpen Tryd.prog) (hp : p.size < 999999) :
    Calls Tryd.prog 33 #[.string p] w fun e w' => e = .returned (.string (Hog.mk (Hog.baseL p.data.toList))) ∧ Below w.heap.size w w' := by
  cases hm : Hog.mayL p.data.toList with
  | false =>
    have HM : Hid (Hog.mayL p.data.toList = false) := hm
    go_enter Tryd.func33, Tryd.ntmps33
    go_wp2_with fail
    refine (may_any p w hsh hp).mono ?_
    rintro e w1 ⟨rfl, hb1⟩
    go_wp2_with fail
    go_ret
    refine ⟨ret_str ?_, hb1⟩
    unfold Hog.baseL
    rw [if_neg (by rw [HM.out]; decide)]
    rfl
  | true =>
    have HM : Hid (Hog.mayL p.data.toList = true) := hm
    obtain ⟨l, hl⟩ : ∃ l, l = Lib.lastIndexByte p 47 := ⟨_, rfl⟩
    have HL : Hid (l = Lib.lastIndexByte p 47) := hl
    have hlb := Hog.last_bounds p
    rw [← hl] at hlb
    obtain ⟨hl1, hl2⟩ := hlb
    clear hm hl
    go_enter Tryd.func33, Tryd.ntmps33
    go_wp2_with fail
    refine (may_any p w hsh hp).mono ?_
    rintro e w1 ⟨rfl, hb1⟩
    rw [HM.out]
    go_wp2_with fail
    refine (Tryd.strings_LastIndexByte p 47 (by omega) w1).mono ?_
    rintro e w2 ⟨rfl, rfl⟩
    rw [← HL.out]
    go_wp2_with fail
    go_ret
    refine ⟨ret_str ?_, hb1⟩
    unfold Hog.baseL
    rw [if_pos HM.out, Hog.base_drop, ← HL.out, ← drop_mk]
/-- What Join answers. -/
def joinV (xs : List (List UInt8)) : List UInt8 := if Hog.joinOk xs = true then Hog.joinS xs else []

theorem join_len (xs : List (List UInt8)) (h : Hog.allP xs = true) : (Hog.joinS xs).length ≤ 1000 := by
  unfold Hog.allP at h
  simp only [Bool.and_eq_true, decide_eq_true_eq, List.all_eq_true] at h
  obtain ⟨h1, h2⟩ := h
  exact Nat.le_trans (Hog.join_len_le xs 60 (fun x hx => (Hog.part_parts (h2 x hx)).2.1)) (by omega)

theorem sjoin_any (v : Value) (xs : List ByteArray) (w : World) (ht : Txt w v xs) (hl : xs.length < 1000000) (hj : (Hog.joinS (parts xs)).length ≤ 1000) :
    Calls Tryd.prog 49 #[v, .string ⟨#[47]⟩] w fun e w' => e = .returned (.string (Hog.mk (Hog.joinS (parts xs)))) ∧ Below w.heap.size w w' := by
  rcases ht with ⟨rfl, a, c, rfl⟩ | ⟨b, o, c, rfl, hc, hb, hcell⟩
  · refine (Tryd.strings_Join_none a c ⟨#[47]⟩ w).mono ?_
    rintro e w' ⟨rfl, rfl⟩
    exact ⟨rfl, Below.refl _ _⟩
  · exact Tryd.strings_Join b o c xs ⟨#[47]⟩ w hcell hb (by omega) hc (Nat.le_trans hj (by decide))
set_option maxHeartbeats 800000 in
theorem join_any (v : Value) (xs : List ByteArray) (w : World) (ht : Txt w v xs) (hl : xs.length < 1000000) (hsz : ∀ x ∈ xs, x.size < 1000000) :
    Calls Tryd.prog 28 #[v] w fun e w' => e = .returned (.tuple #[.string (Hog.mk (joinV (parts xs))), .bool (Hog.joinOk (parts xs))]) ∧ Below w.heap.size w w' := by
  have HT : Hid (Txt w v xs) := ht
  have HZ : Hid (∀ x ∈ xs, x.size < 1000000) := hsz
  clear ht hsz
  cases ha : Hog.allP (parts xs) with
  | false =>
    have HA : Hid (Hog.allP (parts xs) = false) := ha
    clear ha
    go_enter Tryd.func28, Tryd.ntmps28
    go_wp2_with fail
    refine (parts_any v xs w HT.out hl HZ.out).mono ?_
    rintro e w1 ⟨rfl, rfl⟩
    rw [HA.out]
    go_wp2_with fail
    go_ret2
    have ho : Hog.joinOk (parts xs) = false := by unfold Hog.joinOk; rw [HA.out, Bool.false_and]
    refine ⟨ret_two ?_ ho.symm, Below.refl _ _⟩
    unfold joinV
    rw [if_neg (by rw [ho]; decide)]
    rfl
  | true =>
    have HA : Hid (Hog.allP (parts xs) = true) := ha
    have hj := join_len _ ha
    clear ha
    obtain ⟨J, hJ⟩ : ∃ J, J = Hog.joinS (parts xs) := ⟨_, rfl⟩
    have HJ : Hid (J = Hog.joinS (parts xs)) := hJ
    rw [← hJ] at hj
    clear hJ
    by_cases hlen : J.length ≤ 200
    · have hsz : (Hog.mk J).size ≤ 200 := by rw [Hog.mk_size]; exact hlen
      have hsz' : ((Hog.mk J).size : Int) ≤ 200 := by omega
      go_enter Tryd.func28, Tryd.ntmps28
      go_wp2_with fail
      refine (parts_any v xs w HT.out hl HZ.out).mono ?_
      rintro e w1 ⟨rfl, rfl⟩
      rw [HA.out]
      go_wp2_with fail
      refine (sjoin_any v xs _ HT.out hl (by rw [← HJ.out]; exact hj)).mono ?_
      rintro e w2 ⟨rfl, hb⟩
      rw [← HJ.out]
      go_wp2_with fail
      go_ret2
      have ho : Hog.joinOk (parts xs) = true := by unfold Hog.joinOk; rw [HA.out, ← HJ.out]; simpa using hlen
      refine ⟨ret_two ?_ ho.symm, hb⟩
      unfold joinV
      rw [if_pos ho, ← HJ.out]
    · have hsz : 200 < (Hog.mk J).size := by rw [Hog.mk_size]; omega
      have hsz' : (200 : Int) < ((Hog.mk J).size : Int) := by omega
      go_enter Tryd.func28, Tryd.ntmps28
      go_wp2_with fail
      refine (parts_any v xs w HT.out hl HZ.out).mono ?_
      rintro e w1 ⟨rfl, rfl⟩
      rw [HA.out]
      go_wp2_with fail
      refine (sjoin_any v xs _ HT.out hl (by rw [← HJ.out]; exact hj)).mono ?_
      rintro e w2 ⟨rfl, hb⟩
      rw [← HJ.out]
      go_wp2_with fail
      go_ret2
      have ho : Hog.joinOk (parts xs) = false := by unfold Hog.joinOk; rw [HA.out, ← HJ.out]; simp; omega
      refine ⟨ret_two ?_ ho.symm, hb⟩
      unfold joinV
      rw [if_neg (by rw [ho]; decide)]
      rfl
/-- What stands at a path that is not the root. -/
theorem back_facts {p : List UInt8} (hp : p ≠ []) (hm : Hog.mayL p = true) :
    ∃ q x : List UInt8, Hog.parentL p = q ∧ Hog.parentOk p = true ∧ Hog.baseL p = x ∧ Hog.mayL q = true ∧ Hog.partL x = true ∧ Hog.splitL p = Hog.splitL q ++ [x] ∧ joinV (Hog.splitL p) = p ∧ Hog.joinOk (Hog.splitL p) = true ∧
      Hog.underL p q = true ∧ Hog.underL q p = false ∧ Hog.underL p p = true ∧ Hog.underL p [] = true ∧ q.length ≤ 200 ∧ x.length ≤ 60 ∧ (Hog.splitL q).length ≤ 10 ∧ ∀ y ∈ Hog.splitL p, y.length ≤ 60 := by
  obtain ⟨q, x, h1, h2, h3, h4, h5⟩ := Hog.back_parts hp hm
  have sp : Hog.splitL p = Hog.cutC p := by unfold Hog.splitL; rw [if_pos hm]
  have sq : Hog.splitL q = Hog.cutC q := by unfold Hog.splitL; rw [if_pos h3]
  have hj := Hog.joinOk_cut hm
  have hu := Hog.under_parent hm h3 (Hog.part_parts h4).1 h5
  refine ⟨q, x, h1, ?_, h2, h3, h4, by rw [sp, sq, h5], ?_, by rw [sp]; exact hj, hu.1, hu.2, Hog.under_self hm, Hog.under_root hm, (Hog.may_parts h3).1, (Hog.part_parts h4).2.1, by rw [sq]; exact (Hog.may_parts h3).2.1, ?_⟩
  · unfold Hog.parentOk; rw [hm]; simpa using hp
  · unfold joinV; rw [sp, if_pos hj, Hog.join_cutC]
  · intro y hy
    rw [sp] at hy
    exact (Hog.part_parts (List.all_eq_true.1 (Hog.may_parts hm).2.2 y hy)).2.1

end Go.Proofs.YtomomeckgiiapaaDoor
