/- The walks of the statements' own LendNodes and KeptNodes: nodes are lent with spare room that is marked, and looked at again. -/
import Derived.Test.YteablfekfijnhaaDoorJ6
namespace Go.Proofs.YteablfekfijnhaaDoor
open Go.RowKit

def lentNd : Nd := (⟨#[108, 101, 110, 116]⟩, 0, ⟨#[]⟩)
/-- In block g lie the nodes ns, and behind them k marks; there is room for three. -/
def LentN (w : World) (g k : Nat) (ns : List Nd) : Prop :=
  ∃ cur : Array Value, w.heap[g]? = some (.cells cur 37 (0, 0)) ∧ cur.size = (ns.length + 3) * 3 ∧ (∀ (j : Nat) x, (flat ns)[j]? = some x → cur[j]? = some x) ∧
    ∀ j, j < k → cur[ns.length * 3 + j * 3]? = some (.string lentNd.1) ∧ cur[ns.length * 3 + j * 3 + 1]? = some (.int .i64 0) ∧ cur[ns.length * 3 + j * 3 + 2]? = some (.string lentNd.2.2)

theorem LentN.cell {w : World} {g k : Nat} {ns : List Nd} (h : LentN w g k ns) (j : Nat) (hj : j < (ns.length + 3) * 3) : ∃ v, w.cell? ⟨g, j, none⟩ = some v := by
  obtain ⟨cur, hg, hs, _, hm⟩ := h
  exact ⟨cur[j], by rw [cell_of_row w g _ cur 37 (0, 0) hg]; exact Array.getElem?_eq_getElem (by omega)⟩
theorem LentN.free {w : World} {g k : Nat} {ns : List Nd} (h : LentN w g k ns) (j : Nat) : w.frozen? ⟨g, j, none⟩ = false := by
  obtain ⟨cur, hg, _⟩ := h
  exact frozen_of_row w g j cur 37 hg
theorem LentN.marked {w : World} {g k : Nat} {ns : List Nd} (h : LentN w g k ns) (j : Nat) (hj : j < k) : At w g (ns.length * 3 + j * 3) lentNd := by
  obtain ⟨cur, hg, hs, _, hm⟩ := h
  obtain ⟨h1, h2, h3⟩ := hm j hj
  refine ⟨?_, ?_, ?_⟩ <;> rw [cell_of_row w g _ cur 37 (0, 0) hg] <;> assumption
theorem LentN.mark {w : World} {g k : Nat} {ns : List Nd} (h : LentN w g k ns) (hk : k < 3) :
    LentN (((w.setCell ⟨g, ns.length * 3 + k * 3, none⟩ (.string lentNd.1)).setCell ⟨g, ns.length * 3 + k * 3 + 1, none⟩ (.int .i64 0)).setCell ⟨g, ns.length * 3 + k * 3 + 2, none⟩ (.string lentNd.2.2)) g (k + 1) ns := by
  obtain ⟨cur, hg, hs, hx, hm⟩ := h
  refine ⟨_, heap_setCell_same _ g _ _ 37 _ (heap_setCell_same _ g _ _ 37 _ (heap_setCell_same w g _ cur 37 _ hg)), by simp only [Array.size_setIfInBounds]; exact hs, fun j x hj => ?_, fun j hj => ?_⟩
  · have hjl := (List.getElem?_eq_some_iff.1 hj).1
    rw [flat_len] at hjl
    rw [Array.getElem?_setIfInBounds_ne (by omega), Array.getElem?_setIfInBounds_ne (by omega), Array.getElem?_setIfInBounds_ne (by omega)]
    exact hx j x hj
  · by_cases e : j = k
    · subst e
      refine ⟨?_, ?_, ?_⟩
      · rw [Array.getElem?_setIfInBounds_ne (by omega), Array.getElem?_setIfInBounds_ne (by omega), Array.getElem?_setIfInBounds_self_of_lt (by omega)]
      · rw [Array.getElem?_setIfInBounds_ne (by omega), Array.getElem?_setIfInBounds_self_of_lt (by simp only [Array.size_setIfInBounds]; omega)]
      · rw [Array.getElem?_setIfInBounds_self_of_lt (by simp only [Array.size_setIfInBounds]; omega)]
    · obtain ⟨h1, h2, h3⟩ := hm j (by omega)
      refine ⟨?_, ?_, ?_⟩ <;> rw [Array.getElem?_setIfInBounds_ne (by omega), Array.getElem?_setIfInBounds_ne (by omega), Array.getElem?_setIfInBounds_ne (by omega)] <;> assumption
theorem LentN.arg {w : World} {g k n : Nat} {ns : List Nd} (h : LentN w g k ns) (hn : n = ns.length) : ArgN w (some ⟨g, 0, none⟩) n (n + 3) ns := by
  subst hn
  obtain ⟨cur, hg, hs, hx, _⟩ := h
  refine ⟨rfl, by simp, by omega, fun ad e j u hu => ?_⟩
  cases e
  rw [addN_plain, Nat.zero_add, cell_of_row w g j cur 37 (0, 0) hg]
  exact hx j u hu
theorem LentN.below {w w' : World} {g k : Nat} {ns : List Nd} (h : LentN w g k ns) {B : Nat} (hb : Below B w w') (hB : g < B) : LentN w' g k ns := by
  obtain ⟨cur, hg, r⟩ := h
  exact ⟨cur, by rw [hb.block g hB]; exact hg, r⟩
theorem LentN.lt {w : World} {g k : Nat} {ns : List Nd} (h : LentN w g k ns) : g < w.heap.size := by
  obtain ⟨cur, hg, r⟩ := h
  exact (Array.getElem?_eq_some_iff.1 hg).1
theorem LentN.start {base : Nat} {w : World} {g : Nat} {ns : List Nd} {n : Nat} (hn : n = ns.length) (h : w.ownsRow base 37 3 (.slice (some ⟨g, 0, none⟩) n (n + 3)) n (flat ns)) : LentN w g 0 ns := by
  subst hn
  rcases h.2 with ⟨h', _⟩ | ⟨g', cap', cur, h', _, hg, _, _, hs, ht⟩
  · simp at h'
  · simp only [Value.slice.injEq, Option.some.injEq, Addr.mk.injEq, and_true, true_and] at h'
    obtain ⟨rfl, rfl⟩ := h'
    refine ⟨cur, hg, by omega, fun j x hj => ?_, fun j hj => by omega⟩
    rw [← ht, List.getElem?_take] at hj
    split at hj
    · simpa using hj
    · cases hj

end Go.Proofs.YteablfekfijnhaaDoor
