/- The walk of the document's own answer, chapter 11: after; what Read's lines are, plainly. -/
import Derived.Test.YtmlkknbndglgaaaGreatDoorMU
import Derived.Test.YtmlkknbndglgaaaGreatDoorMM
import Derived.RegionTactic
namespace Go.Proofs.YtmlkknbndglgaaaGreatDoor
open Go.RowKit

set_option maxRecDepth 100000 in
theorem aft_short (l w : ByteArray) (W : World) (h : l.size < w.size) :
    Calls Tryz.prog 42 #[.string l, .string w] W fun e W' => e = .returned (.tuple #[.string ⟨#[]⟩, .bool false]) ∧ W' = W := by
  have hi : (l.size : Int) < (w.size : Int) := by omega
  go_enter Tryz.func42, Tryz.ntmps42
  go_wp2
  go_ret2
  exact ⟨rfl, rfl⟩
set_option maxRecDepth 100000 in
theorem aft_long (l w : ByteArray) (b : Bool) (W : World) (h : w.size ≤ l.size) (hb : ((l.extract 0 w.size).toList == w.toList) = b) :
    Calls Tryz.prog 42 #[.string l, .string w] W fun e W' => e = .returned (.tuple #[.string (if b = true then l.extract w.size l.size else ⟨#[]⟩), .bool b]) ∧ W' = W := by
  have hi : (w.size : Int) ≤ (l.size : Int) := by omega
  have hnl : ¬ l.size < w.size := by omega
  go_enter Tryz.func42, Tryz.ntmps42
  cases b with
  | false | true =>
    go_wp2
    go_ret2
    exact ⟨rfl, rfl⟩
theorem pref_take (w l : List UInt8) (h : w.length ≤ l.length) : w.isPrefixOf l = decide (l.take w.length = w) := by
  cases e : w.isPrefixOf l with
  | true =>
    obtain ⟨r, rfl⟩ := List.isPrefixOf_iff_prefix.1 e
    simp
  | false =>
    symm
    rw [decide_eq_false_iff_not]
    intro e2
    have : w.isPrefixOf l = true := List.isPrefixOf_iff_prefix.2 ⟨l.drop w.length, by have h9 := List.take_append_drop w.length l; rw [e2] at h9; exact h9⟩
    rw [e] at this; cases this
theorem ext_is (l w : ByteArray) (h : w.size ≤ l.size) : ((l.extract 0 w.size).toList == w.toList) = w.data.toList.isPrefixOf l.data.toList := by
  have hs : w.data.toList.length = w.size := by simp
  have hl : l.data.toList.length = l.size := by simp
  rw [pref_take _ _ (by omega), hs]
  rw [Lib.toList_data, Lib.toList_data, Lib.extract_eq]
  show (((l.data.toList.drop 0).take (w.size - 0)) == w.data.toList) = _
  rw [List.drop_zero, Nat.sub_zero]
  rw [Bool.eq_iff_iff, beq_iff_eq, decide_eq_true_iff]
theorem aft_own (k : Nat) (l w : ByteArray) (x : List UInt8) (W : World) (hw : w.data.toList = Hog.wordM k) (h : l.data.toList = Hog.wordM k ++ x) :
    Calls Tryz.prog 42 #[.string l, .string w] W fun e W' => e = .returned (.tuple #[.string (Hog.mk x), .bool true]) ∧ W' = W := by
  have hs : w.data.toList.length = w.size := by simp
  have hll : l.data.toList.length = l.size := by simp
  have h8 : (Hog.wordM k).length ≤ 8 := by
    match k with
    | 0 | 1 | 2 | 3 => decide
    | _ + 4 => exact Nat.le_refl 8
  rw [hw] at hs
  rw [h, List.length_append] at hll
  have hle : w.size ≤ l.size := by omega
  have hx : l.extract w.size l.size = Hog.mk x := by
    rw [← Hog.data_mk (l.extract w.size l.size), Lib.extract_to_end, h, ← hs, List.drop_left]
  have e := aft_long l w true W hle (by rw [ext_is l w hle, hw, h]; exact Hog.pref_own _ _)
  rw [if_pos rfl, hx] at e
  exact e
theorem aft_other (k : Nat) (l w : ByteArray) (W : World) (hw : w.data.toList = Hog.wordM k) (h : (Hog.wordM k).isPrefixOf l.data.toList = false) :
    Calls Tryz.prog 42 #[.string l, .string w] W fun e W' => e = .returned (.tuple #[.string ⟨#[]⟩, .bool false]) ∧ W' = W := by
  have hs : w.data.toList.length = w.size := by simp
  have h8 : (Hog.wordM k).length ≤ 8 := by
    match k with
    | 0 | 1 | 2 | 3 => decide
    | _ + 4 => exact Nat.le_refl 8
  rw [hw] at hs
  by_cases hle : w.size ≤ l.size
  · have e := aft_long l w false W hle (by rw [ext_is l w hle, hw]; exact h)
    rw [if_neg (by decide)] at e
    exact e
  · exact aft_short l w W (by omega)

/-- The document's reading of a policy. -/
def polD : Int → ByteArray → Int := fun p x => if x = Hog.mk [49] then 1 else p
theorem polD_zero : polD 0 (Hog.mk [48]) = 0 := by decide +kernel
theorem polD_one : polD 0 (Hog.mk [49]) = 1 := by decide +kernel
/-- A line begins with one of the five words, or with none. -/
theorem kind_of (L : List UInt8) : (∃ k x, k < 5 ∧ L = Hog.wordM k ++ x) ∨ ∀ k, k < 5 → (Hog.wordM k).isPrefixOf L = false := by
  by_cases h : ∃ k, k < 5 ∧ (Hog.wordM k).isPrefixOf L = true
  · obtain ⟨k, hk, hp⟩ := h
    obtain ⟨x, rfl⟩ := List.isPrefixOf_iff_prefix.1 hp
    exact .inl ⟨k, x, hk, rfl⟩
  · refine .inr fun k hk => ?_
    cases e : (Hog.wordM k).isPrefixOf L with
    | false => rfl
    | true => exact absurd ⟨k, hk, e⟩ h
theorem step_none (f : Int → ByteArray → Int) (t : List UInt8 → List UInt8) (L : List UInt8) (h : ∀ k, k < 5 → (Hog.wordM k).isPrefixOf L = false) (r : Hog.RegP) : Hog.stepM f t r L = r := by
  have o : ∀ j r, j < 5 → Hog.stepK f t L r j = r := fun j r hj => by unfold Hog.stepK; rw [if_neg (by rw [h j hj]; decide)]
  unfold Hog.stepM
  rw [show List.range 5 = [0, 1, 2, 3, 4] from rfl]
  simp only [List.foldl_cons, List.foldl_nil]
  rw [o 0 _ (by decide), o 1 _ (by decide), o 2 _ (by decide), o 3 _ (by decide), o 4 _ (by decide)]
/-- Reading goes on. -/
theorem full_on {L : List UInt8} {k at' : Nat} {c : UInt8} (hk : L[k]? = some c) (ha : at' ≤ k) (hc : c ≠ 10) : Hog.fullA ((L.drop at').take (k - at')) (L.drop k) = Hog.fullA ((L.drop at').take (k + 1 - at')) (L.drop (k + 1)) := by
  obtain ⟨h, rfl⟩ := List.getElem?_eq_some_iff.1 hk
  rw [List.drop_eq_getElem_cons h, Hog.fullA, if_neg hc]
  congr 1
  rw [show k + 1 - at' = (k - at') + 1 by omega, List.take_succ_eq_append_getElem (by rw [List.length_drop]; omega), List.getElem_drop]
  congr 2
  congr 1
  omega
theorem full_end {L : List UInt8} {k at' : Nat} (hk : L[k]? = some 10) : Hog.fullA ((L.drop at').take (k - at')) (L.drop k) = (L.drop at').take (k - at') :: Hog.fullA ((L.drop (k + 1)).take (k + 1 - (k + 1))) (L.drop (k + 1)) := by
  obtain ⟨h, e⟩ := List.getElem?_eq_some_iff.1 hk
  rw [List.drop_eq_getElem_cons h, Hog.fullA, if_pos e, Nat.sub_self, List.take_zero]
end Go.Proofs.YtmlkknbndglgaaaGreatDoor
