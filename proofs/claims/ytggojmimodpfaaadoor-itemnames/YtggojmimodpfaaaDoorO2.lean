/- What ItemNames lays: plain facts on names that are made of numbers. -/
import Derived.Test.YtggojmimodpfaaaDoorO1
namespace Go.Proofs.YtggojmimodpfaaaDoor
open Go.RowKit

/-- The signs behind i rounds of the first loop. -/
theorem hash_byte : ∀ k, k < 32 → ∃ c, Hog.hashG[k]? = some c ∧ c ∈ Hog.hashG := by
  intro k hk
  have hl : k < Hog.hashG.length := hk
  exact ⟨_, List.getElem?_eq_getElem hl, List.getElem_mem hl⟩

/-- Bytes that are a name but for their number so far: i hash signs. -/
structure Pre (l : List UInt8) : Prop where
  hash : ∀ (j : Nat) c, j < 8 → l[j]? = some c → c ∈ Hog.hashG
  stroke : ∀ c, l[8]? = some c → c = 45
  first : ∀ c, l[9]? = some c → c ∈ Hog.firstG
  rest : ∀ (j : Nat) c, 9 ≤ j → l[j]? = some c → c ∈ Hog.restG
theorem Pre.nil : Pre [] := ⟨fun j c _ h => by simp at h, fun c h => by simp at h, fun c h => by simp at h, fun j c _ h => by simp at h⟩
theorem snoc_get {l : List UInt8} {x : UInt8} {j : Nat} {c : UInt8} (h : (l ++ [x])[j]? = some c) : l[j]? = some c ∨ (j = l.length ∧ c = x) := by
  have hj := (List.getElem?_eq_some_iff.1 h).1
  rw [List.length_append, List.length_singleton] at hj
  by_cases e : j < l.length
  · rw [List.getElem?_append_left e] at h; exact .inl h
  · have e : j = l.length := by omega
    subst e
    rw [List.getElem?_append_right (Nat.le_refl _), Nat.sub_self] at h
    simp at h
    exact .inr ⟨rfl, h.symm⟩
theorem Pre.hashed {l : List UInt8} (h : Pre l) (hl : l.length < 8) {x : UInt8} (hx : x ∈ Hog.hashG) : Pre (l ++ [x]) := by
  refine ⟨fun j c hj hc => ?_, fun c hc => ?_, fun c hc => ?_, fun j c hj hc => ?_⟩
  · rcases snoc_get hc with k | ⟨_, rfl⟩
    · exact h.hash j c hj k
    · exact hx
  · rcases snoc_get hc with k | ⟨e, _⟩
    · exact h.stroke c k
    · omega
  · rcases snoc_get hc with k | ⟨e, _⟩
    · exact h.first c k
    · omega
  · rcases snoc_get hc with k | ⟨e, _⟩
    · exact h.rest j c hj k
    · omega
theorem Pre.struck {l : List UInt8} (h : Pre l) (hl : l.length = 8) : Pre (l ++ [45]) := by
  refine ⟨fun j c hj hc => ?_, fun c hc => ?_, fun c hc => ?_, fun j c hj hc => ?_⟩
  · rcases snoc_get hc with k | ⟨e, _⟩
    · exact h.hash j c hj k
    · omega
  · rcases snoc_get hc with k | ⟨_, e⟩
    · exact h.stroke c k
    · exact e
  · rcases snoc_get hc with k | ⟨e, _⟩
    · exact h.first c k
    · omega
  · rcases snoc_get hc with k | ⟨e, _⟩
    · exact h.rest j c hj k
    · omega
theorem Pre.behind {l : List UInt8} (h : Pre l) (hl : 9 ≤ l.length) {x : UInt8} (hx : x ∈ Hog.restG) (hf : l.length = 9 → x ∈ Hog.firstG) : Pre (l ++ [x]) := by
  refine ⟨fun j c hj hc => ?_, fun c hc => ?_, fun c hc => ?_, fun j c hj hc => ?_⟩
  · rcases snoc_get hc with k | ⟨e, _⟩
    · exact h.hash j c hj k
    · omega
  · rcases snoc_get hc with k | ⟨e, _⟩
    · exact h.stroke c k
    · omega
  · rcases snoc_get hc with k | ⟨e, rfl⟩
    · exact h.first c k
    · exact hf e.symm
  · rcases snoc_get hc with k | ⟨_, rfl⟩
    · exact h.rest j c hj k
    · exact hx
theorem Pre.name {l : List UInt8} (h : Pre l) (h1 : 10 ≤ l.length) (h2 : l.length ≤ 30) : Hog.NameIs l := by
  refine ⟨h1, h2, h.hash, ?_, h.first, h.rest⟩
  have e : l[8]? = some l[8] := List.getElem?_eq_getElem (by omega)
  rw [e, h.stroke _ e]
/-- With a byte from 128 on at any place it is no name. -/
theorem turned_not {l : List UInt8} {k : Nat} {x : UInt8} (hk : k < l.length) (hx : 128 ≤ x.toNat) : Hog.nameL (l.set k x) = false := by
  refine Hog.name_not fun h => ?_
  have := Hog.name_low h (j := k) (c := x) (by rw [List.getElem?_set_self hk])
  omega
theorem more_first : ∀ k, k < 36 → ∃ c, Hog.restG[k]? = some c ∧ c ∈ Hog.firstG := by decide
theorem more_rest {k : Nat} (hk : k < 40) : ∃ c, Hog.restG[k]? = some c ∧ c ∈ Hog.restG := by
  have hl : k < Hog.restG.length := hk
  exact ⟨_, List.getElem?_eq_getElem hl, List.getElem_mem hl⟩
end Go.Proofs.YtggojmimodpfaaaDoor
