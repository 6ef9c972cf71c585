/- Appends of nodes; the walk of the statements' own awake of layer 2. -/
import Derived.Test.YtomomeckgiiapaaDoorN9
import Derived.Laws.AppendOwnNone
namespace Go.Proofs.YtomomeckgiiapaaDoor
open Go.RowKit

theorem Nods.take {w : World} {b o c k : Nat} {t : List Nd} (h : Run w b o t) (hk : k ≤ t.length) (hc : k ≤ c) : Nods w (.slice (some ⟨b, o, none⟩) k c) (t.take k) := by
  have hl : (t.take k).length = k := by rw [List.length_take]; omega
  refine .inr ⟨b, o, c, by rw [hl], by rw [hl]; exact hc, h.1, fun j n hn => ?_⟩
  rw [List.getElem?_take] at hn
  split at hn
  · exact h.2 j n hn
  · cases hn
theorem Run.one (w : World) (n : Nd) : Run (w.alloc (.cells #[.string n.1, .int .i64 n.2.1, .string n.2.2] 27)) w.heap.size 0 [n] := by
  refine ⟨by simp, fun j m hm => ?_⟩
  match j, hm with
  | 0, hm => simp at hm; subst hm; exact ⟨by simp, by simp, by simp⟩
  | j + 1, hm => simp at hm
theorem Run.two (w : World) (n m : Nd) : Run (w.alloc (.cells #[.string n.1, .int .i64 n.2.1, .string n.2.2, .string m.1, .int .i64 m.2.1, .string m.2.2] 27)) w.heap.size 0 [n, m] := by
  refine ⟨by simp, fun j x hx => ?_⟩
  match j, hx with
  | 0, hx => simp at hx; subst hx; exact ⟨by simp, by simp, by simp⟩
  | 1, hx => simp at hx; subst hx; exact ⟨by simp, by simp, by simp⟩
  | j + 2, hx => simp at hx
theorem Run.nods {w : World} {b o c : Nat} {t : List Nd} (h : Run w b o t) (hc : t.length ≤ c) : Nods w (.slice (some ⟨b, o, none⟩) t.length c) t := .inr ⟨b, o, c, rfl, hc, h⟩

def ndRoot : Nd := (ByteArray.empty, 1, ByteArray.empty)
def ndBC : Nd := (⟨#[98, 47, 99]⟩, 2, ByteArray.empty)
def ndAbc : Nd := (ByteArray.empty, 0, ⟨#[97, 98, 99]⟩)
theorem aw2_bad : badN [ndRoot, ndBC] = 1 := by decide +kernel
theorem aw2_one : badN [ndRoot] = -1 := by decide +kernel
theorem aw2_may : mayN [ndRoot] = true := by decide +kernel
theorem aw2_size : sizeN [ndAbc] = 3 := by decide +kernel
theorem aw2_small : ∀ n ∈ [ndRoot, ndBC], n.1.size < 999999 := by decide +kernel
theorem aw2_small1 : ∀ n ∈ [ndRoot], n.1.size < 999999 := by decide +kernel
theorem aw2_small0 : ∀ n ∈ ([] : List Nd), n.1.size < 999999 := by decide +kernel
theorem aw2_abc : ∀ n ∈ [ndAbc], n.2.2.size ≤ 1000 := by decide +kernel

end Go.Proofs.YtomomeckgiiapaaDoor
