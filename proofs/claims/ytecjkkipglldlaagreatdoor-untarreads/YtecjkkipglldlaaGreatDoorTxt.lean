/- A slice of texts in memory: what it holds, that it is one's own, and that it stays. -/
import Derived.Test.YtecjkkipglldlaaGreatDoorRows
import Derived.Test.YtecjkkipglldlaaGreatDoorJ1
import Derived.WalkKit
import Derived.WalkSpells
import Derived.WalkLawsBesides
import Derived.ChangeAgain
namespace Go.Proofs.YtecjkkipglldlaaGreatDoor
open Go.RowKit

/-- The slice v holds the texts xs. -/
def Txt (w : World) (v : Value) (xs : List ByteArray) : Prop :=
  (xs = [] ∧ ∃ a c, v = .slice a 0 c) ∨
  (∃ b o c, v = .slice (some ⟨b, o, none⟩) xs.length c ∧ xs.length ≤ c ∧ b < w.heap.size ∧ ∀ (j : Nat) x, xs[j]? = some x → w.cell? ⟨b, o + j, none⟩ = some (.string x))

/-- The slice v holds the texts xs in a row of its own, from block number base on. -/
def Own (base : Nat) (w : World) (v : Value) (xs : List ByteArray) : Prop := w.ownsRow base 9 1 v xs.length (xs.map Value.string)

theorem Own.nil (base : Nat) (w : World) : Own base w (.slice none 0 0) [] := World.ownsRow_nil w base 9 1

theorem Own.txt {base : Nat} {w : World} {v : Value} {xs : List ByteArray} (h : Own base w v xs) : Txt w v xs := by
  obtain ⟨_, h2⟩ := h
  rcases h2 with ⟨rfl, h0⟩ | ⟨g, cap, cur, rfl, hb, hg, hn, hm, hs, ht⟩
  · exact .inl ⟨List.eq_nil_of_length_eq_zero h0, _, _, rfl⟩
  · refine .inr ⟨g, 0, cap, rfl, hn, (Array.getElem?_eq_some_iff.1 hg).1, fun j x hx => ?_⟩
    have hj : (xs.map Value.string)[j]? = some (.string x) := by simp [hx]
    rw [← ht, List.getElem?_take] at hj
    split at hj
    · rw [World.cell?, hg]; simpa using hj
    · cases hj

theorem Txt.below {w w' : World} {v : Value} {xs : List ByteArray} (h : Txt w v xs) (hb : Below w.heap.size w w') : Txt w' v xs := by
  rcases h with h | ⟨b, o, c, rfl, hc, hlt, hcell⟩
  · exact .inl h
  · exact .inr ⟨b, o, c, rfl, hc, Nat.lt_of_lt_of_le hlt hb.size, fun j x hx => (hb.cell (p := ⟨b, o + j, none⟩) hlt).trans (hcell j x hx)⟩

theorem Own.below {base : Nat} {w w' : World} {v : Value} {xs : List ByteArray} (h : Own base w v xs) (hb : Below w.heap.size w w') : Own base w' v xs := by
  refine ⟨h.1, ?_⟩
  rcases h.2 with h2 | ⟨g, cap, cur, rfl, hbs, hg, r⟩
  · exact .inl h2
  · exact .inr ⟨g, cap, cur, rfl, hbs, by rw [hb.block g (Array.getElem?_eq_some_iff.1 hg).1]; exact hg, r⟩

theorem Own.base {base base' : Nat} {w : World} {v : Value} {xs : List ByteArray} (h : Own base w v xs) (hb : base' ≤ base) : Own base' w v xs := by
  refine ⟨h.1, ?_⟩
  rcases h.2 with h2 | ⟨g, cap, cur, e, hbs, r⟩
  · exact .inl h2
  · exact .inr ⟨g, cap, cur, e, Nat.le_trans hb hbs, r⟩

/-- A new row that holds just these texts. -/
theorem Own.made (w : World) (xs : List ByteArray) (hm : xs.length ≤ maxLen) :
    Own w.heap.size (w.alloc (.cells (xs.map Value.string).toArray 9)) (.slice (some ⟨w.heap.size, 0, none⟩) xs.length xs.length) xs :=
  ⟨by simp, .inr ⟨w.heap.size, xs.length, _, rfl, Nat.le_refl _, heap_alloc_new w _, Nat.le_refl _, hm, by simp, by simp [List.take_of_length_le]⟩⟩

/-- The world's shape stays below. -/
theorem shape_below {w w' : World} (h : w.ShapedOpen Tryz.prog) (hb : Below w.heap.size w w') : w'.ShapedOpen Tryz.prog :=
  h.keptBut (hb.frame fun _ => False) (fun _ hp => hp.elim)

theorem below_two {a b c : World} (h : Below a.heap.size a b) (k : Below b.heap.size b c) : Below a.heap.size a c := h.trans (k.mono h.size)

theorem hide {p : Prop} (h : p) : Hid p := h

theorem ret_bool {a b : Bool} (h : a = b) : Ending.returned (.bool a) = .returned (.bool b) := by rw [h]
theorem ret_str {a b : ByteArray} (h : a = b) : Ending.returned (.string a) = .returned (.string b) := by rw [h]
theorem ret_two {a b : ByteArray} {x y : Bool} (h : a = b) (k : x = y) : Ending.returned (.tuple #[.string a, .bool x]) = .returned (.tuple #[.string b, .bool y]) := by rw [h, k]

end Go.Proofs.YtecjkkipglldlaaGreatDoor
