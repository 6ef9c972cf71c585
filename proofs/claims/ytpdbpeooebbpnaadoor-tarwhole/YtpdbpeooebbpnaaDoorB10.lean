/- The walks of the statements' own LendBytes, KeptBytes, OverBytes. -/
import Derived.Test.YtpdbpeooebbpnaaDoorB9
namespace Go.Proofs.YtpdbpeooebbpnaaDoor
open Go.RowKit

/-- In block g lie the bytes l, and behind them k marks; there is room for three. -/
def LentB (w : World) (g k : Nat) (l : List UInt8) : Prop :=
  ∃ cur : Array Value, w.heap[g]? = some (.cells cur 5 (0, 0)) ∧ cur.size = l.length + 3 ∧ (∀ (j : Nat) x, (bcells l)[j]? = some x → cur[j]? = some x) ∧
    ∀ j, j < k → cur[l.length + j]? = some (.int .u8 119)
theorem LentB.cell {w : World} {g k : Nat} {l : List UInt8} (h : LentB w g k l) (j : Nat) (hj : j < l.length + 3) : ∃ v, w.cell? ⟨g, j, none⟩ = some v := by
  obtain ⟨cur, hg, hs, _, hm⟩ := h
  exact ⟨cur[j], by rw [cell_of_row w g _ cur 5 (0, 0) hg]; exact Array.getElem?_eq_getElem (by omega)⟩
theorem LentB.free {w : World} {g k : Nat} {l : List UInt8} (h : LentB w g k l) (j : Nat) : w.frozen? ⟨g, j, none⟩ = false := by
  obtain ⟨cur, hg, _⟩ := h
  exact frozen_of_row w g j cur 5 hg
theorem LentB.marked {w : World} {g k : Nat} {l : List UInt8} (h : LentB w g k l) (j : Nat) (hj : j < k) : w.cell? ⟨g, l.length + j, none⟩ = some (.int .u8 119) := by
  obtain ⟨cur, hg, hs, _, hm⟩ := h
  rw [cell_of_row w g _ cur 5 (0, 0) hg]
  exact hm j hj
theorem LentB.mark {w : World} {g k : Nat} {l : List UInt8} (h : LentB w g k l) (hk : k < 3) : LentB (w.setCell ⟨g, l.length + k, none⟩ (.int .u8 119)) g (k + 1) l := by
  obtain ⟨cur, hg, hs, hx, hm⟩ := h
  refine ⟨_, heap_setCell_same w g _ cur 5 _ hg, by simp only [Array.size_setIfInBounds]; exact hs, fun j x hj => ?_, fun j hj => ?_⟩
  · have hjl := (List.getElem?_eq_some_iff.1 hj).1
    rw [bcells_len] at hjl
    rw [Array.getElem?_setIfInBounds_ne (by omega)]
    exact hx j x hj
  · by_cases e : j = k
    · subst e
      rw [Array.getElem?_setIfInBounds_self_of_lt (by omega)]
    · rw [Array.getElem?_setIfInBounds_ne (by omega)]
      exact hm j (by omega)
theorem LentB.arg {w : World} {g k n : Nat} {l : List UInt8} (h : LentB w g k l) (hn : n = l.length) : ArgB w (some ⟨g, 0, none⟩) n (n + 3) l := by
  subst hn
  obtain ⟨cur, hg, hs, hx, _⟩ := h
  refine ⟨rfl, by simp, by omega, fun ad e j u hu => ?_⟩
  cases e
  rw [addB_plain, Nat.zero_add, cell_of_row w g j cur 5 (0, 0) hg]
  exact hx j u hu
theorem LentB.below {w w' : World} {g k : Nat} {l : List UInt8} (h : LentB w g k l) {B : Nat} (hb : Below B w w') (hB : g < B) : LentB w' g k l := by
  obtain ⟨cur, hg, r⟩ := h
  exact ⟨cur, by rw [hb.block g hB]; exact hg, r⟩
theorem LentB.lt {w : World} {g k : Nat} {l : List UInt8} (h : LentB w g k l) : g < w.heap.size := by
  obtain ⟨cur, hg, r⟩ := h
  exact (Array.getElem?_eq_some_iff.1 hg).1
theorem LentB.start {base : Nat} {w : World} {g : Nat} {l : List UInt8} {n : Nat} (hn : n = l.length) (h : w.ownsRow base 5 1 (.slice (some ⟨g, 0, none⟩) n (n + 3)) n (bcells l)) : LentB w g 0 l := by
  subst hn
  rcases h.2 with ⟨h', _⟩ | ⟨g', cap', cur, h', _, hg, _, _, hs, ht⟩
  · simp at h'
  · simp only [Value.slice.injEq, Option.some.injEq, Addr.mk.injEq, and_true, true_and] at h'
    obtain ⟨rfl, rfl⟩ := h'
    refine ⟨cur, hg, by omega, fun j x hj => ?_, fun j hj => by omega⟩
    rw [← ht, List.getElem?_take] at hj
    split at hj
    · simpa using hj
    · cases hj

theorem OwnB.stored {base : Nat} {w : World} {g n cap : Nat} {l : List UInt8} (hn : n = l.length) (h : OwnB base w (.slice (some ⟨g, 0, none⟩) n cap) l) (k : Nat) (y : UInt8) : OwnB base (w.setCell ⟨g, k, none⟩ (.int .u8 y.toNat)) (.slice (some ⟨g, 0, none⟩) n cap) (l.set k y) := by
  subst hn
  have h2 := (World.ownsRow.stored h k (.int .u8 y.toNat)).1
  unfold OwnB
  have e : bcells (l.set k y) = (bcells l).set k (.int .u8 y.toNat) := by unfold bcells; rw [List.map_set]
  rw [e, List.length_set]
  exact h2

end Go.Proofs.YtpdbpeooebbpnaaDoor
