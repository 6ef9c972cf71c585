/- Where a text stands in two that are joined: plainly. Nothing here names the program. -/
import Derived.Test.YteccbnhbdfplfaaPlain8
namespace Go.Proofs.Yteccbnhbdfplfaa.Hog
open Go

/-- The places from a on, n of them, at which P stands in s. -/
def fromL (P s : List UInt8) (a n : Nat) : List Nat := ((List.range n).map (a + ·)).filter (occ P s)
theorem from_zero (P s : List UInt8) (n : Nat) : (List.range n).filter (occ P s) = fromL P s 0 n := by
  unfold fromL
  congr 1
  simp
theorem from_add (P s : List UInt8) (a n m : Nat) : fromL P s a (n + m) = fromL P s a n ++ fromL P s (a + n) m := by
  unfold fromL
  rw [List.range_add, List.map_append, List.filter_append, List.map_map]
  congr 3
  funext x
  simp only [Function.comp]
  omega
theorem from_len {P s t : List UInt8} {a b n : Nat} (h : ∀ i, i < n → occ P s (a + i) = occ P t (b + i)) : (fromL P s a n).length = (fromL P t b n).length := by
  unfold fromL
  rw [List.filter_map, List.filter_map, List.length_map, List.length_map]
  congr 1
  refine List.filter_congr fun i hi => ?_
  exact h i (List.mem_range.1 hi)
theorem from_same {P s t : List UInt8} {a n : Nat} (h : ∀ i, i < n → occ P s (a + i) = occ P t (a + i)) : fromL P s a n = fromL P t a n := by
  unfold fromL
  refine List.filter_congr fun x hx => ?_
  obtain ⟨i, hi, rfl⟩ := List.mem_map.1 hx
  exact h i (List.mem_range.1 hi)
/-- What stands in one of two joined texts. -/
theorem occ_left {P a b : List UInt8} {i : Nat} (h : i + P.length ≤ a.length) : occ P (a ++ b) i = occ P a i := by
  unfold occ
  rw [List.drop_append_of_le_length (by omega), List.take_append_of_le_length (by rw [List.length_drop]; omega)]
theorem occ_right {P a b : List UInt8} (i : Nat) : occ P (a ++ b) (a.length + i) = occ P b i := by
  unfold occ
  rw [List.drop_length_add_append]
theorem occ_take {P s : List UInt8} {n i : Nat} (h : i + P.length ≤ n) : occ P (s.take n) i = occ P s i := by
  unfold occ
  rw [List.drop_take, List.take_take]
  congr 3
  omega
theorem occ_drop {P s : List UInt8} (n i : Nat) : occ P (s.drop n) i = occ P s (n + i) := by
  unfold occ
  rw [List.drop_drop]

/-- The text that lies over both, as the statement cuts it. -/
def overL (P a b : List UInt8) : List UInt8 := a.drop (a.length + 1 - P.length) ++ b.take (P.length - 1)
theorem parts_both {P a b : List UInt8} (hP : P ≠ []) : ∃ mid last : List Nat, placesL P (a ++ b) = placesL P a ++ (mid ++ last) ∧ mid.length = (placesL P (overL P a b)).length ∧ last.length = (placesL P b).length := by
  have hm : 0 < P.length := List.length_pos_iff.2 hP
  rw [places_upto hP, places_upto hP, places_upto hP, places_upto hP]
  unfold uptoL
  rw [from_zero, from_zero, from_zero, from_zero]
  obtain ⟨A, hA⟩ : ∃ A, A = a.length + 1 - P.length := ⟨_, rfl⟩
  obtain ⟨B, hB⟩ : ∃ B, B = b.length + 1 - P.length := ⟨_, rfl⟩
  obtain ⟨M, hM⟩ : ∃ M, M = (overL P a b).length + 1 - P.length := ⟨_, rfl⟩
  have hol : (overL P a b).length = (a.length - A) + min (P.length - 1) b.length := by
    unfold overL
    rw [List.length_append, List.length_drop, List.length_take, ← hA]
  have hsum : (a ++ b).length + 1 - P.length = A + (M + B) := by
    rw [List.length_append]
    rw [hol] at hM
    omega
  rw [hsum, ← hA, ← hB, ← hM, from_add, from_add]
  refine ⟨fromL P (a ++ b) (0 + A) M, fromL P (a ++ b) (0 + A + M) B, ?_, ?_, ?_⟩
  · congr 1
    refine from_same fun i hi => ?_
    exact occ_left (by omega)
  · refine from_len fun i hi => ?_
    have e : overL P a b = ((a ++ b).drop A).take (overL P a b).length := by
      unfold overL
      rw [← hA, List.drop_append_of_le_length (by omega)]
      rw [List.length_append, List.take_length_add_append]
      congr 1
      rw [List.length_take, List.take_eq_take_min]
    rw [e, occ_take (by omega), occ_drop]
    congr 1
    omega
  · by_cases hb0 : B = 0
    · subst hb0
      rfl
    · have e : 0 + A + M = a.length := by
        rw [hol] at hM
        omega
      rw [e]
      refine from_len fun i hi => ?_
      rw [occ_right, Nat.zero_add]

/-- The places rise. -/
theorem places_rise (P s : List UInt8) : (placesL P s).Pairwise (· < ·) := by
  unfold placesL
  split
  · exact List.Pairwise.nil
  · exact List.Pairwise.filter _ List.pairwise_lt_range
theorem places_next {P s : List UInt8} {j x y : Nat} (h : (placesL P s)[j]? = some x) (k : (placesL P s)[j + 1]? = some y) : x < y := by
  obtain ⟨h1, rfl⟩ := List.getElem?_eq_some_iff.1 h
  obtain ⟨h2, rfl⟩ := List.getElem?_eq_some_iff.1 k
  exact List.pairwise_iff_getElem.1 (places_rise P s) j (j + 1) h1 h2 (by omega)
theorem places_at {P s : List UInt8} {j x : Nat} (hP : P ≠ []) (h : (placesL P s)[j]? = some x) : x + P.length ≤ s.length ∧ occ P s x = true := by
  have h1 := List.mem_of_getElem? h
  rw [places_upto hP] at h1
  unfold uptoL at h1
  rw [List.mem_filter, List.mem_range] at h1
  have hm : 0 < P.length := List.length_pos_iff.2 hP
  exact ⟨by omega, h1.2⟩
theorem places_len {P s : List UInt8} : (placesL P s).length ≤ s.length + 1 := by
  unfold placesL
  split
  · simp
  · exact upto_len P s s.length
end Go.Proofs.Yteccbnhbdfplfaa.Hog
