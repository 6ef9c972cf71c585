/- Trees of many files in the root: where the first is that is too many. -/
import Derived.Test.YtdgchinfanialaaDoorN15
namespace Go.Proofs.YtdgchinfanialaaDoor
open Go.RowKit

def dg (d : Nat) : ByteArray := ⟨#[UInt8.ofNat (48 + d)]⟩
theorem dig_mk : ∀ d, d < 10 → (ByteArray.mk #[48, 49, 50, 51, 52, 53, 54, 55, 56, 57]).extract d (d + 1) = dg d := by decide +kernel
def ndR (i : Nat) : Nd := if i = 0 then (⟨#[]⟩, 1, ⟨#[]⟩) else (dg (i / 100) ++ dg (i / 10 % 10) ++ dg (i % 10), 2, ⟨#[]⟩)
def room (m : Nat) : List Nd := (List.range m).map ndR
theorem room_len (m : Nat) : (room m).length = m := by simp [room]
theorem room_get {m i : Nat} (h : i < m) : (room m)[i]? = some (ndR i) := by simp [room, h]
theorem room_succ (m : Nat) : room (m + 1) = room m ++ [ndR m] := by simp [room, List.range_succ]
theorem room_take {m k : Nat} (h : k ≤ m) : (room m).take k = room k := by
  unfold room
  rw [← List.map_take, List.take_range, Nat.min_eq_left h]
theorem ndR_good : ∀ i, i < 410 → goodB (ndR i) = true := by decide +kernel
theorem ndR_less : ∀ i, i < 409 → ltN (ndR i) (ndR (i + 1)) = true := by decide +kernel
theorem ndR_parent : ∀ i, i < 410 → i ≠ 0 → Hog.parentOk (ndR i).1.data.toList = true ∧ parentP (ndR i).1 = ⟨#[]⟩ := by decide +kernel
theorem room_dir {k : Nat} (h : 0 < k) : dirAt (room k) ⟨#[]⟩ = true := by
  unfold dirAt
  rw [List.any_eq_true]
  exact ⟨ndR 0, List.mem_of_getElem? (room_get h), by decide⟩
theorem room_refuses {k : Nat} (h : k < 400) : refusesB (room k) (ndR k) = false := by
  cases k with
  | zero =>
    have e : room 0 = [] := rfl
    rw [e, refusesB_first (ndR_good 0 (by omega))]
    decide +kernel
  | succ q =>
    rw [refusesB_next (z := ndR q) (ndR_good (q + 1) (by omega)) (by rw [room_len]; omega) (by rw [room_succ, List.getLast?_concat]), ndR_less q (by omega)]
    obtain ⟨h1, h2⟩ := ndR_parent (q + 1) (by omega) (by omega)
    unfold standsB
    rw [h1, h2, room_dir (by omega)]
    rfl
theorem room_from {m k : Nat} (hk : k ≤ m) (h4 : k ≤ 400) : badFrom ((room m).take k) ((room m).drop k) = badFrom [] (room m) := by
  induction k with
  | zero => simp
  | succ k ih =>
    rw [← ih (by omega) (by omega)]
    refine (badFrom_on (room_get (by omega)) ?_).symm
    rw [room_take (by omega)]
    exact room_refuses (by omega)
theorem room_bad {m : Nat} (h1 : 0 < m) : badN (room m) = if 400 < m then 400 else -1 := by
  have hne : (room m).isEmpty = false := by
    cases e : room m with
    | nil => have := room_len m; rw [e] at this; simp at this; omega
    | cons _ _ => rfl
  unfold badN
  rw [hne]
  by_cases h : 400 < m
  · rw [if_pos h, ← room_from (m := m) (k := 400) (by omega) (Nat.le_refl _)]
    exact badFrom_at (room_get h) (by rw [room_take (by omega)]; exact refusesB_full (room_len 400))
  · rw [if_neg h, ← room_from (m := m) (k := m) (Nat.le_refl _) (by omega)]
    have e := badFrom_end (room m)
    rw [room_len] at e
    exact e
theorem room_small (m : Nat) (hm : m ≤ 410) : ∀ n ∈ room m, n.1.size < 999999 := by
  intro n hn
  obtain ⟨i, hi, rfl⟩ := List.mem_map.1 hn
  have hi' := List.mem_range.1 hi
  have h : ∀ i, i < 410 → (ndR i).1.size < 999999 := by decide +kernel
  exact h i (by omega)
end Go.Proofs.YtdgchinfanialaaDoor
