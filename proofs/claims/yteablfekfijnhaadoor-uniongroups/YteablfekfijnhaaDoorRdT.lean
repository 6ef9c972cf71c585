/- Trees that are handed in, read: what a slice of slices of nodes is made of. -/
import Derived.Test.YteablfekfijnhaaDoorRdN
import Derived.Test.YteablfekfijnhaaDoorP3
namespace Go.Proofs.YteablfekfijnhaaDoor
open Go.RowKit Go.WideShapes

theorem cells_nodes : Tryd.prog.cellsOf 25 = 1 := by kernel_rfl

theorem nodes_cells {H : Type} {enc : TypeId × Value → H} {W : World} {fuel : Nat} {u : Value} {x : DataW H × List MemPlace}
    (h : DataW.trod enc Tryd.prog W 0 (fun _ => true) true fuel 25 [u] = some x) : ∃ t : List Nd, Nods W u t ∧ t.length ≤ maxLen := by
  have hs : ∃ ao len cap, u = .slice ao len cap := by
    rcases Go.Deep.open_slice Tryd.underlying25 h with ⟨hcs, _⟩ | ⟨a, len', cap', m, k, D, Pl, hcs, _⟩
    · exact ⟨none, 0, 0, by simpa using hcs⟩
    · exact ⟨some a, len', cap', by simpa using hcs⟩
  obtain ⟨ao, len, cap, rfl⟩ := hs
  obtain ⟨ns, h1, h2⟩ := open_nodes (d := x.1) (ps := x.2) ⟨fuel, by simpa [Value.cells] using h⟩
  exact ⟨ns, h1.nods, by rw [h1.len]; exact h2⟩

theorem open_trees {H : Type} {enc : TypeId × Value → H} {W : World} {ao : Option Addr} {len cap : Nat} {d : DataW H} {ps : List MemPlace}
    (h : DataW.Trod enc Tryd.prog W 0 (fun _ => true) true 22 (.slice ao len cap) d ps) : ∃ ts : List (List Nd), Trs W (.slice ao len cap) ts ∧ len ≤ cap ∧ len ≤ maxLen ∧ ts.length = len ∧ ∀ t ∈ ts, t.length ≤ maxLen := by
  obtain ⟨fuel, hf⟩ := h
  rcases Go.Deep.open_slice1 Tryd.underlying22 cells_nodes hf with ⟨hcs, _⟩ | ⟨a, len', cap', m, k, V, D, Pl, hcs, _, hl, hm, hmm, _, hx⟩
  · have e : ao = none ∧ len = 0 ∧ cap = 0 := by simpa [Value.cells] using hcs
    obtain ⟨rfl, rfl, rfl⟩ := e
    exact ⟨[], .inl ⟨rfl, none, 0, rfl⟩, Nat.le_refl _, Nat.zero_le _, rfl, fun t h => by simp at h⟩
  · have e : ao = some a ∧ len = len' ∧ cap = cap' := by simpa [Value.cells] using hcs
    obtain ⟨rfl, rfl, rfl⟩ := e
    simp only [if_true] at hmm
    subst hmm
    have each : ∀ i, i < len → ∃ t : List Nd, (∃ u, W.cell? (a.add i) = some u ∧ Nods W u t) ∧ t.length ≤ maxLen := by
      intro i hi
      obtain ⟨h1, h2⟩ := hx i (by omega)
      obtain ⟨t, h3, h4⟩ := nodes_cells h2
      exact ⟨t, ⟨_, h1, h3⟩, h4⟩
    obtain ⟨f, hf⟩ := Go.Deep.choose_lt (α := List Nd) each
    refine ⟨(List.range len).map f, ?_, hl, by omega, by simp, fun t ht => ?_⟩
    · by_cases h0 : len = 0
      · subst h0
        exact .inl ⟨rfl, _, _, rfl⟩
      · obtain ⟨⟨u0, c0, _⟩, _⟩ := hf 0 (by omega)
        rw [addN_zero] at c0
        obtain ⟨e, hb⟩ := addrN_plain c0
        rw [e] at hf ⊢
        refine .inr ⟨a.block, a.off, m, by simp, by simpa using hl, hb, fun j t ht => ?_⟩
        obtain ⟨hj, e2⟩ := List.getElem?_eq_some_iff.1 ht
        rw [List.length_map, List.length_range] at hj
        obtain ⟨⟨u, h1, h2⟩, _⟩ := hf j hj
        rw [addN_plain] at h1
        simp at e2
        rw [← e2]
        exact ⟨u, h1, h2⟩
    · obtain ⟨i, hi, rfl⟩ := List.mem_map.1 ht
      exact (hf i (by simpa using hi)).2
end Go.Proofs.YteablfekfijnhaaDoor
