/- Texts that stand together, joined: RdN. -/
import Derived.Test.YtecjkkipglldlaaGreatDoorJ6
import Derived.Deep.Strs
import Derived.WideShapes
import Derived.ChangeArms
import Derived.Carry
/- Nodes that are handed in, read: what a slice of nodes, and a node, are made of. -/
namespace Go.Proofs.YtecjkkipglldlaaGreatDoor
open Go.RowKit Go.WideShapes

theorem cells_string : Tryz.prog.cellsOf 9 = 1 := by kernel_rfl
theorem cells_int : Tryz.prog.cellsOf 3 = 1 := by kernel_rfl
theorem cells_node : Tryz.prog.cellsOf 38 = 3 := by kernel_rfl
theorem laid_out : laidOutB Tryz.prog = true := by kernel_rfl

theorem node_cells {H : Type} {enc : TypeId × Value → H} {w : World} {base : Nat} {spare : Nat → Bool} {held : Bool} {fuel : Nat} {cs : List Value} {x : DataW H × List MemPlace}
    (h : DataW.trod enc Tryz.prog w base spare held fuel 38 cs = some x) : ∃ n : Nd, cs = ncells n ∧ n.1.size ≤ maxLen ∧ n.2.2.size ≤ maxLen := by
  obtain ⟨y0, y1, y2, k, _, hl, h0, h1, h2⟩ := Go.Deep.trod_struct3 Tryz.underlying38 h
  rw [cells_node] at hl
  rw [cells_string] at h0 h2
  rw [cells_int] at h1
  match cs, hl with
  | [a, b, c], _ =>
    simp only [List.drop_zero, List.drop_succ_cons, List.take_succ_cons, List.take_zero] at h0 h1 h2
    obtain ⟨s0, e0, _, z0⟩ := DataW.trod_string Tryz.underlying9 h0
    obtain ⟨i1, e1, _, _⟩ := DataW.trod_int Tryz.underlying3 h1
    obtain ⟨s2, e2, _, z2⟩ := DataW.trod_string Tryz.underlying9 h2
    simp only [List.cons.injEq, and_true] at e0 e1 e2
    exact ⟨(s0, i1, s2), by rw [e0, e1, e2]; rfl, z0, z2⟩

theorem open_nodes {H : Type} {enc : TypeId × Value → H} {W : World} {ao : Option Addr} {len cap : Nat} {d : DataW H} {ps : List MemPlace}
    (h : DataW.Trod enc Tryz.prog W 0 (fun _ => true) true 25 (.slice ao len cap) d ps) : ∃ ns : List Nd, ArgN W ao len cap ns ∧ len ≤ maxLen := by
  obtain ⟨fuel, hf⟩ := h
  rcases Go.Deep.open_slice Tryz.underlying25 hf with ⟨hcs, _⟩ | ⟨a, len', cap', m, k, D, Pl, hcs, _, hl, hm, hmm, _, hx⟩
  · have e : ao = none ∧ len = 0 ∧ cap = 0 := by simpa [Value.cells] using hcs
    obtain ⟨rfl, rfl, rfl⟩ := e
    exact ⟨[], ⟨rfl, fun _ => ⟨rfl, rfl⟩, Nat.le_refl _, fun ad h => by cases h⟩, Nat.zero_le _⟩
  · have e : ao = some a ∧ len = len' ∧ cap = cap' := by simpa [Value.cells] using hcs
    obtain ⟨rfl, rfl, rfl⟩ := e
    simp only [if_true] at hmm
    subst hmm
    have each : ∀ i, i < len → ∃ n : Nd, ∀ (j : Nat) u, (ncells n)[j]? = some u → W.cell? (a.add (i * 3 + j)) = some u := by
      intro i hi
      obtain ⟨cs', h1, h2⟩ := hx i (by omega)
      obtain ⟨n, rfl, _, _⟩ := node_cells h2
      rw [cells_node] at h1
      obtain ⟨_, _, hcell⟩ := World.cells?_some h1
      refine ⟨n, fun j u hu => ?_⟩
      have hj : j < 3 := by have := (List.getElem?_eq_some_iff.1 hu).1; simpa [ncells] using this
      have h3 := hcell j hj
      rw [Go.Deep.add_add] at h3
      rw [h3]
      exact hu
    obtain ⟨f, hf⟩ := Go.Deep.choose_lt (α := Nd) each
    refine ⟨(List.range len).map f, ⟨by simp, fun h => (by cases h), hl, fun ad had j u hu => ?_⟩, by omega⟩
    cases had
    have hj := (List.getElem?_eq_some_iff.1 hu).1
    rw [flat_len, List.length_map, List.length_range] at hj
    have hq : j / 3 < len := by omega
    have hn : ((List.range len).map f)[j / 3]? = some (f (j / 3)) := by simp [hq]
    obtain ⟨e1, e2, e3⟩ := flat_get hn
    have h4 := hf (j / 3) hq
    have hr : j = j / 3 * 3 + 0 ∨ j = j / 3 * 3 + 1 ∨ j = j / 3 * 3 + 2 := by omega
    rcases hr with hr | hr | hr
    · rw [hr] at hu ⊢
      rw [Nat.add_zero] at hu
      exact h4 0 u (by rw [e1] at hu; simpa [ncells] using hu)
    · rw [hr] at hu ⊢
      exact h4 1 u (by rw [e2] at hu; simpa [ncells] using hu)
    · rw [hr] at hu ⊢
      exact h4 2 u (by rw [e3] at hu; simpa [ncells] using hu)

end Go.Proofs.YtecjkkipglldlaaGreatDoor
