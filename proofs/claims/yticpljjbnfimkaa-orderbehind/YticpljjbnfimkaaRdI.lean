/- Items that are handed in, read: what a slice of texts, and an item, are made of. -/
import Derived.Test.YticpljjbnfimkaaRdN
import Derived.Test.YticpljjbnfimkaaXC
import Derived.SliceStrings
namespace Go.Proofs.Yticpljjbnfimkaa
open Go.RowKit Go.WideShapes Go.ChangeShapes

theorem cells_texts : Try.prog.cellsOf 25 = 1 := by kernel_rfl
theorem cells_nodes1 : Try.prog.cellsOf 31 = 1 := by kernel_rfl
theorem cells_item : Try.prog.cellsOf 33 = 3 := by kernel_rfl

/-- An item that was handed in. -/
structure ItArg (w : World) (i : It) (ra : Option Addr) (rn rc : Nat) (ta : Option Addr) (tn tc : Nat) : Prop where
  name : i.1.size ≤ maxLen
  refs : Arg w ra rn rc i.2.1
  rlen : rn ≤ maxLen
  tree : ArgN w ta tn tc i.2.2
  tlen : tn ≤ maxLen
theorem ItArg.below {w w' : World} {i : It} {ra : Option Addr} {rn rc : Nat} {ta : Option Addr} {tn tc : Nat} (h : ItArg w i ra rn rc ta tn tc) (hb : Below w.heap.size w w') : ItArg w' i ra rn rc ta tn tc :=
  ⟨h.name, h.refs.below hb, h.rlen, h.tree.below hb, h.tlen⟩

theorem texts_cells {H : Type} {enc : TypeId × Value → H} {W : World} {fuel : Nat} {u : Value} {x : DataW H × List MemPlace}
    (h : DataW.trod enc Try.prog W 0 (fun _ => true) true fuel 25 [u] = some x) : ∃ ao n c xs, u = .slice ao n c ∧ Arg W ao n c xs ∧ n ≤ maxLen := by
  rcases open_strings Try.underlying25 Try.underlying9 cells_string h with ⟨hcs, _⟩ | ⟨a, len', cap', ss, hcs, _, hl, hm, hz, _, hcell, _⟩
  · have e : u = .slice none 0 0 := by simpa using hcs
    exact ⟨none, 0, 0, [], e, ⟨rfl, fun _ => ⟨rfl, rfl⟩, Nat.le_refl _, fun ad h => by cases h⟩, Nat.zero_le _⟩
  · have e : u = .slice (some a) len' cap' := by simpa using hcs
    simp only [if_true] at hz
    refine ⟨some a, len', cap', ss.take len', e, ⟨by simp; omega, fun h => (by cases h), hl, fun ad had j v hv => ?_⟩, by omega⟩
    cases had
    have hj := (List.getElem?_eq_some_iff.1 hv).1
    rw [List.length_map, List.length_take] at hj
    have hjz : j < ss.length := by omega
    rw [hcell j hjz]
    rw [List.getElem?_map, List.getElem?_take_of_lt (by omega), List.getElem?_eq_getElem hjz] at hv
    have e3 : ss.getD j ByteArray.empty = ss[j] := by simp [List.getD, hjz]
    rw [e3]
    exact hv
theorem nodes_cells1 {H : Type} {enc : TypeId × Value → H} {W : World} {fuel : Nat} {u : Value} {x : DataW H × List MemPlace}
    (h : DataW.trod enc Try.prog W 0 (fun _ => true) true fuel 31 [u] = some x) : ∃ ao n c ns, u = .slice ao n c ∧ ArgN W ao n c ns ∧ n ≤ maxLen := by
  have hs : ∃ ao len cap, u = .slice ao len cap := by
    rcases Go.Deep.open_slice Try.underlying31 h with ⟨hcs, _⟩ | ⟨a, len', cap', m, k, D, Pl, hcs, _⟩
    · exact ⟨none, 0, 0, by simpa using hcs⟩
    · exact ⟨some a, len', cap', by simpa using hcs⟩
  obtain ⟨ao, len, cap, rfl⟩ := hs
  obtain ⟨ns, h1, h2⟩ := open_nodes (d := x.1) (ps := x.2) ⟨fuel, by simpa [Value.cells] using h⟩
  exact ⟨ao, len, cap, ns, rfl, h1, h2⟩
theorem item_cells {H : Type} {enc : TypeId × Value → H} {w : World} {fuel : Nat} {cs : List Value} {x : DataW H × List MemPlace}
    (h : DataW.trod enc Try.prog w 0 (fun _ => true) true fuel 33 cs = some x) : ∃ i ra rn rc ta tn tc, cs = [.string i.1, .slice ra rn rc, .slice ta tn tc] ∧ ItArg w i ra rn rc ta tn tc := by
  obtain ⟨y0, y1, y2, k, _, hl, h0, h1, h2⟩ := Go.Deep.trod_struct3 Try.underlying33 h
  rw [cells_item] at hl
  rw [cells_string] at h0
  rw [cells_texts] at h1
  rw [cells_nodes1] at h2
  match cs, hl with
  | [a, b, c], _ =>
    simp only [List.drop_zero, List.drop_succ_cons, List.take_succ_cons, List.take_zero] at h0 h1 h2
    obtain ⟨s0, e0, _, z0⟩ := DataW.trod_string Try.underlying9 h0
    obtain ⟨ra, rn, rc, xs, e1, a1, z1⟩ := texts_cells h1
    obtain ⟨ta, tn, tc, ns, e2, a2, z2⟩ := nodes_cells1 h2
    simp only [List.cons.injEq, and_true] at e0
    exact ⟨(s0, xs, ns), ra, rn, rc, ta, tn, tc, by rw [e0, e1, e2], z0, a1, z1, a2, z2⟩
set_option maxRecDepth 100000 in
theorem open_item {H : Type} {enc : TypeId × Value → H} {W : World} {v : Value} {d : DataW H} {ps : List MemPlace} {r : Reach} {base : Nat}
    (hv : Value.okWide Try.prog W r base 33 v) (h : DataW.Trod enc Try.prog W 0 (fun _ => true) true 33 v d ps) :
    ∃ i ra rn rc ta tn tc, v = .agg #[.string i.1, .slice ra rn rc, .slice ta tn tc] ∧ ItArg W i ra rn rc ta tn tc := by
  obtain ⟨cs, rfl, hcs⟩ := okWide_struct Try.underlying33 hv
  obtain ⟨fuel, hf⟩ := h
  obtain ⟨i, ra, rn, rc, ta, tn, tc, e, hi⟩ := item_cells hf
  refine ⟨i, ra, rn, rc, ta, tn, tc, ?_, hi⟩
  have e2 : cs.toList = [.string i.1, .slice ra rn rc, .slice ta tn tc] := by simpa [Value.cells] using e
  rw [← Array.toArray_toList (xs := cs), e2]
end Go.Proofs.Yticpljjbnfimkaa
