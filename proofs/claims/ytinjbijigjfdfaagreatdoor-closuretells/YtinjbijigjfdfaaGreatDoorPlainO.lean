/- A text put in among texts that rise: plainly. Nothing here names the program. -/
import Derived.Test.YtinjbijigjfdfaaGreatDoorJ7
namespace Go.Proofs.YtinjbijigjfdfaaGreatDoor.Hog
open Go

theorem insert_rise {l : List Tx} {x : Tx} {k : Nat} (h : rise l) (h1 : ∀ y ∈ l.drop k, lt x y) (h2 : ∀ y ∈ l.take k, lt y x) : rise (l.take k ++ [x] ++ l.drop k) := by
  rw [List.append_assoc]
  refine List.pairwise_append.2 ⟨List.Pairwise.sublist (List.take_sublist _ _) h, ?_, fun a ha b hb => ?_⟩
  · exact List.pairwise_cons.2 ⟨h1, List.Pairwise.sublist (List.drop_sublist _ _) h⟩
  · rcases List.mem_cons.1 hb with e | hb
    · subst e; exact h2 a ha
    · exact lt_trans (h2 a ha) (h1 b hb)
theorem insert_mem {l : List Tx} {x : Tx} {k : Nat} (y : Tx) : y ∈ l.take k ++ [x] ++ l.drop k ↔ y ∈ l ∨ y = x := by
  have e : y ∈ l ↔ y ∈ l.take k ∨ y ∈ l.drop k := by rw [← List.mem_append, List.take_append_drop]
  rw [e, List.mem_append, List.mem_append, List.mem_singleton]
  constructor
  · rintro ((h | h) | h)
    · exact .inl (.inl h)
    · exact .inr h
    · exact .inl (.inr h)
  · rintro ((h | h) | h)
    · exact .inl (.inl h)
    · exact .inr h
    · exact .inl (.inr h)
/-- What stands ahead of place k + 1 is less, if what stands there is. -/
theorem ahead_less {l : List Tx} {x y : Tx} {k : Nat} (h : rise l) (hy : l[k]? = some y) (hl : lt y x) : ∀ z ∈ l.take (k + 1), lt z x := by
  intro z hz
  obtain ⟨hk, rfl⟩ := List.getElem?_eq_some_iff.1 hy
  rw [List.take_succ_eq_append_getElem hk, List.mem_append, List.mem_singleton] at hz
  rcases hz with hz | rfl
  · obtain ⟨j, hj, rfl⟩ := List.getElem_of_mem hz
    rw [List.length_take] at hj
    rw [List.getElem_take]
    exact lt_trans (List.pairwise_iff_getElem.1 h j k (by omega) hk (by omega)) hl
  · exact hl
theorem behind_more {l : List Tx} {x y : Tx} {k : Nat} (hy : l[k]? = some y) (hl : lt x y) (h : ∀ z ∈ l.drop (k + 1), lt x z) : ∀ z ∈ l.drop k, lt x z := by
  intro z hz
  obtain ⟨hk, rfl⟩ := List.getElem?_eq_some_iff.1 hy
  rw [List.drop_eq_getElem_cons hk, List.mem_cons] at hz
  rcases hz with rfl | hz
  · exact hl
  · exact h z hz
end Go.Proofs.YtinjbijigjfdfaaGreatDoor.Hog
