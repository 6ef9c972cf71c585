/- The walk of closure's Get. -/
import Derived.Test.YticpljjbnfimkaaJ12
import Derived.Test.YticpljjbnfimkaaJ7
import Derived.Laws.ResultCell
namespace Go.Proofs.Yticpljjbnfimkaa
open Go.RowKit

theorem get_first {is : List It} {x : ByteArray} {k : Nat} {i : It} (hi : is[k]? = some i) (hx : i.1 = x) (ha : ∀ (j : Nat) y, j < k → is[j]? = some y → y.1 ≠ x) : Hog.getK is x = some i := by
  obtain ⟨hk, rfl⟩ := List.getElem?_eq_some_iff.1 hi
  unfold Hog.getK
  rw [List.find?_eq_some_iff_getElem]
  exact ⟨by simpa using hx, k, hk, rfl, fun j hj => by simpa using ha j _ hj (List.getElem?_eq_getElem (by omega))⟩
theorem get_never {is : List It} {x : ByteArray} (ha : ∀ (j : Nat) y, j < is.length → is[j]? = some y → y.1 ≠ x) : Hog.getK is x = none := by
  rw [Hog.getK_none]
  intro h
  obtain ⟨i, hi, e⟩ := List.mem_map.1 h
  obtain ⟨j, hj⟩ := List.getElem?_of_mem hi
  exact ha j i (List.getElem?_eq_some_iff.1 hj).1 hj e

/-- A block that holds an item's cells. -/
def BoxI (w : World) (g : Nat) (nm : ByteArray) (u v : Value) : Prop := w.heap[g]? = some (.cells #[.string nm, u, v] 33 (0, 0))
theorem BoxI.facts {w : World} {g : Nat} {nm : ByteArray} {u v : Value} (h : BoxI w g nm u v) : (w.cell? ⟨g, 0, none⟩ = some (.string nm) ∧ w.cell? ⟨g, 1, none⟩ = some u ∧ w.cell? ⟨g, 2, none⟩ = some v) ∧
    (w.frozen? ⟨g, 0, none⟩ = false ∧ w.frozen? ⟨g, 1, none⟩ = false ∧ w.frozen? ⟨g, 2, none⟩ = false) ∧ g < w.heap.size :=
  ⟨⟨by rw [cell_of_row w g 0 _ _ (0, 0) h]; rfl, by rw [cell_of_row w g 1 _ _ (0, 0) h]; rfl, by rw [cell_of_row w g 2 _ _ (0, 0) h]; rfl⟩,
   ⟨frozen_of_row w g 0 _ _ h, frozen_of_row w g 1 _ _ h, frozen_of_row w g 2 _ _ h⟩, (Array.getElem?_eq_some_iff.1 h).1⟩
theorem BoxI.below {w w' : World} {g : Nat} {nm : ByteArray} {u v : Value} (h : BoxI w g nm u v) (hb : Below w.heap.size w w') : BoxI w' g nm u v := by
  unfold BoxI
  rw [hb.block g h.facts.2.2]
  exact h
theorem BoxI.made (w : World) (nm : ByteArray) (u v : Value) : BoxI (w.alloc (.cells #[.string nm, u, v] 33)) w.heap.size nm u v := heap_alloc_new w _
theorem BoxI.stored {w : World} {g : Nat} {nm : ByteArray} {u v : Value} (h : BoxI w g nm u v) (nm' : ByteArray) (u' v' : Value) : BoxI (((w.setCell ⟨g, 0, none⟩ (.string nm')).setCell ⟨g, 1, none⟩ u').setCell ⟨g, 2, none⟩ v') g nm' u' v' := by
  have h1 := heap_setCell_same w g 0 _ _ (.string nm') h
  have h2 := heap_setCell_same _ g 1 _ _ u' h1
  have h3 := heap_setCell_same _ g 2 _ _ v' h2
  unfold BoxI
  rw [h3]; rfl
theorem storedI_below {B : Nat} {w0 w : World} {g : Nat} (h : Below B w0 w) (hg : B ≤ g) (a b c : Value) : Below B w0 (((w.setCell ⟨g, 0, none⟩ a).setCell ⟨g, 1, none⟩ b).setCell ⟨g, 2, none⟩ c) :=
  ((h.setCell (p := ⟨g, 0, none⟩) hg _).setCell (p := ⟨g, 1, none⟩) hg _).setCell (p := ⟨g, 2, none⟩) hg _
theorem storedI_grown (w : World) (g : Nat) (a b c : Value) : w.grownBy (((w.setCell ⟨g, 0, none⟩ a).setCell ⟨g, 1, none⟩ b).setCell ⟨g, 2, none⟩ c) (some g) :=
  grown_trans (grown_setCell w g 0 a) (grown_trans (grown_setCell _ g 1 b) (grown_setCell _ g 2 c))
theorem results_item {fn : Func} {q u : Tmp} (h : fn.results = #[.cell q 33, .tmp u]) (tmps : Array Value) (w : World) (g : Nat) (nm : ByteArray) (x y : Value) (hp : tmps.getD q undef = .pointer (some ⟨g, 0, none⟩)) (hg : BoxI w g nm x y) :
    (results fn tmps).run Try.prog w = .ok (.tuple #[.agg #[.string nm, x, y], tmps.getD u undef]) w := by
  rw [results_cell_tmp h, hp]
  simp [asAddr, Result.andThen, run_loadVar_row w g 33 33 _ (0, 0) _ hg struct_item rfl size_of_item]

/-- What Get answers: the item, its lists copied. -/
def GotI (w w' : World) (i : It) (e : Ending) : Prop := ∃ ra rc ta tc base, e = .returned (.tuple #[.agg #[.string i.1, .slice ra i.2.1.length rc, .slice ta i.2.2.length tc], .bool true]) ∧
  Own w.heap.size w' (.slice ra i.2.1.length rc) i.2.1 ∧ OwnN base w' (.slice ta i.2.2.length tc) i.2.2 ∧ w.heap.size ≤ base ∧ base ≤ w'.heap.size ∧ (∀ k, (Value.slice ra i.2.1.length rc).ownBlock = some k → k < base) ∧ Below w.heap.size w w'
def NotI (w w' : World) (e : Ending) : Prop := e = .returned (.tuple #[.agg #[.string ByteArray.empty, .slice none 0 0, .slice none 0 0], .bool false]) ∧ Below w.heap.size w w'

end Go.Proofs.Yticpljjbnfimkaa
