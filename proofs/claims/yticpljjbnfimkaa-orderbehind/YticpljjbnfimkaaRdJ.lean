/- Slices of items that are handed in, read. -/
import Derived.Test.YticpljjbnfimkaaKC
import Derived.Test.YticpljjbnfimkaaRdS
namespace Go.Proofs.Yticpljjbnfimkaa
open Go.RowKit Go.WideShapes Go.ChangeShapes

theorem open_items {H : Type} {enc : TypeId × Value → H} {W : World} {ao : Option Addr} {len cap : Nat} {d : DataW H} {ps : List MemPlace}
    (h : DataW.Trod enc Try.prog W 0 (fun _ => true) true 22 (.slice ao len cap) d ps) : ∃ qs : List Pr, ArgS W ao len cap qs ∧ len ≤ maxLen ∧ Lens (itsOf qs) ∧ ∀ i ∈ itsOf qs, i.1.size ≤ maxLen := by
  obtain ⟨fuel, hf⟩ := h
  rcases Go.Deep.open_slice Try.underlying22 hf with ⟨hcs, _⟩ | ⟨a, len', cap', m, k, D, Pl, hcs, _, hl, hm, hmm, _, hx⟩
  · have e : ao = none ∧ len = 0 ∧ cap = 0 := by simpa [Value.cells] using hcs
    obtain ⟨rfl, rfl, rfl⟩ := e
    exact ⟨[], ArgS.nil W, Nat.zero_le _, fun i hi => by simp [itsOf] at hi, fun i hi => by simp [itsOf] at hi⟩
  · have e : ao = some a ∧ len = len' ∧ cap = cap' := by simpa [Value.cells] using hcs
    obtain ⟨rfl, rfl, rfl⟩ := e
    simp only [if_true] at hmm
    subst hmm
    have each : ∀ i, i < len → ∃ p : Pr, (∀ (j : Nat) u, (rcells p.1)[j]? = some u → W.cell? (a.add (i * 3 + j)) = some u) ∧ IsI W p ∧ p.2.2.1.length ≤ maxLen ∧ p.2.2.2.length ≤ maxLen ∧ p.2.1.size ≤ maxLen := by
      intro i hi
      obtain ⟨cs', h1, h2⟩ := hx i (by omega)
      obtain ⟨it, ra, rn, rc, ta, tn, tc, rfl, hi⟩ := item_cells h2
      rw [cells_item] at h1
      obtain ⟨_, _, hcell⟩ := World.cells?_some h1
      refine ⟨((it.1, (ra, rn, rc), (ta, tn, tc)), it), fun j u hu => ?_, ⟨rfl, hi.refs, hi.tree⟩, by rw [hi.refs.len]; exact hi.rlen, by rw [hi.tree.len]; exact hi.tlen, hi.name⟩
      have hj : j < 3 := by have := (List.getElem?_eq_some_iff.1 hu).1; simpa [rcells] using this
      have h3 := hcell j hj
      rw [Go.Deep.add_add] at h3
      rw [h3]
      exact hu
    obtain ⟨f, hf⟩ := Go.Deep.choose_lt (α := Pr) each
    refine ⟨(List.range len).map f, ⟨by simp, fun h => (by cases h), hl, fun ad had j u hu => ?_, fun p hp => ?_⟩, by omega, fun i hi => ?_, fun i hi => ?_⟩
    · cases had
      have hj := (List.getElem?_eq_some_iff.1 hu).1
      rw [rflat_len, List.length_map, List.length_range] at hj
      have hq : j / 3 < len := by omega
      have hn : ((List.range len).map f)[j / 3]? = some (f (j / 3)) := by simp [hq]
      obtain ⟨e1, e2, e3⟩ := rflat_get hn
      have h4 := (hf (j / 3) hq).1
      have hr : j = j / 3 * 3 + 0 ∨ j = j / 3 * 3 + 1 ∨ j = j / 3 * 3 + 2 := by omega
      rcases hr with hr | hr | hr
      · rw [hr] at hu ⊢
        rw [Nat.add_zero] at hu
        exact h4 0 u (by rw [e1] at hu; simpa [rcells] using hu)
      · rw [hr] at hu ⊢
        exact h4 1 u (by rw [e2] at hu; simpa [rcells] using hu)
      · rw [hr] at hu ⊢
        exact h4 2 u (by rw [e3] at hu; simpa [rcells] using hu)
    · obtain ⟨i, hi, rfl⟩ := List.mem_map.1 hp
      exact (hf i (by simpa using hi)).2.1
    · unfold itsOf at hi
      rw [List.map_map] at hi
      obtain ⟨j, hj, rfl⟩ := List.mem_map.1 hi
      have := (hf j (by simpa using hj)).2
      exact ⟨this.2.1, this.2.2.1⟩
    · unfold itsOf at hi
      rw [List.map_map] at hi
      obtain ⟨j, hj, rfl⟩ := List.mem_map.1 hi
      exact (hf j (by simpa using hj)).2.2.2.2
end Go.Proofs.Yticpljjbnfimkaa
