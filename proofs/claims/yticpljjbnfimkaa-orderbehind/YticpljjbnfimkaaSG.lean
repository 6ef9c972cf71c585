/- A map from texts to numbers in memory: what it holds, what is found in it, and what a store leaves. -/
import Derived.Test.YticpljjbnfimkaaSA
import Derived.Maps.OwnOps
namespace Go.Proofs.Yticpljjbnfimkaa
open Go.RowKit

/-- Block m is a map that holds just what f tells. -/
structure MapF (w : World) (m : Nat) (f : ByteArray → Option Int) : Prop where
  ex : ∃ es clock, w.heap[m]? = some (.map es clock) ∧ (∀ (i : Nat) e, es.toList[i]? = some e → ∃ k z, e.key = .string k ∧ e.val = .int .i64 z ∧ f k = some z) ∧
    (∀ k z, f k = some z → ∃ (i : Nat) (e : MapEntry), es.toList[i]? = some e ∧ e.key = .string k) ∧ (∀ (i j : Nat) a b, es.toList[i]? = some a → es.toList[j]? = some b → a.key = b.key → i = j)
theorem MapF.same {w w' : World} {m : Nat} {f : ByteArray → Option Int} (h : MapF w m f) (e : w'.heap[m]? = w.heap[m]?) : MapF w' m f := by
  obtain ⟨es, c, h1, h2⟩ := h.ex
  exact ⟨es, c, e.trans h1, h2⟩
theorem MapF.lt {w : World} {m : Nat} {f : ByteArray → Option Int} (h : MapF w m f) : m < w.heap.size := by
  obtain ⟨es, c, h1, _⟩ := h.ex
  exact (Array.getElem?_eq_some_iff.1 h1).1
theorem MapF.below {w w' : World} {m : Nat} {f : ByteArray → Option Int} (h : MapF w m f) (hb : Below w.heap.size w w') : MapF w' m f := h.same (hb.block m h.lt)
theorem MapF.made (w : World) : MapF (w.alloc (.map #[] 0)) w.heap.size (fun _ => none) := ⟨#[], 0, heap_alloc_new w _, by simp, by simp, by simp⟩
theorem key_is (p : ByteArray) : MapKept.IsKey .string (.string p) := by simp [MapKept.IsKey]

/-- What is found at p, or 0. -/
def atF (f : ByteArray → Option Int) (p : ByteArray) : Int := (f p).getD 0
/-- What a store makes of it. -/
def putF (f : ByteArray → Option Int) (p : ByteArray) (z : Int) : ByteArray → Option Int := fun q => if q = p then some z else f q
theorem same_key (p : ByteArray) : Instr.sameBits 10000 (.string p) (.string p) = true := by
  have h : (p == p) = true := (MapKept.bytes_beq p p).2 rfl
  simp [Instr.sameBits, h]
end Go.Proofs.Yticpljjbnfimkaa
