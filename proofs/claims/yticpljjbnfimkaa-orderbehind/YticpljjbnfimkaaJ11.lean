/- Texts that stand together, joined: SG, SH. -/
import Derived.Test.YticpljjbnfimkaaSA
import Derived.Maps.OwnOps
import Derived.Test.YticpljjbnfimkaaJ7
import Derived.Test.YticpljjbnfimkaaJ3
/- A map from texts to numbers in memory: what it holds, what is found in it, and what a store leaves. -/
namespace Go.Proofs.Yticpljjbnfimkaa
open Go.RowKit

/-- Block m is a map that holds just what f tells. -/
structure MapF (w : World) (m : Nat) (f : ByteArray → Option Int) : Prop where
  ex : ∃ es clock, w.heap[m]? = some (.map es clock) ∧ (∀ (i : Nat) e, es.toList[i]? = some e → ∃ k z, e.key = .string k ∧ e.val = .int .i64 z ∧ f k = some z) ∧
    (∀ k z, f k = some z → ∃ (i : Nat) (e : MapEntry), es.toList[i]? = some e ∧ e.key = .string k) ∧ (∀ (i j : Nat) a b, es.toList[i]? = some a → es.toList[j]? = some b → a.key = b.key → i = j)
theorem MapF.same {w w' : World} {m : Nat} {f : ByteArray → Option Int} (h : MapF w m f) (e : w'.heap[m]? = w.heap[m]?) : MapF w' m f := by
  obtain ⟨es, c, h1, h2⟩ := h.ex
  exact ⟨es, c, e.trans h1, h2⟩
theorem MapF.lt {w : World} {m : Nat} {f : ByteArray → Option Int} (h : MapF w m f) : m < w.heap.size := by
  obtain ⟨es, c, h1, _⟩ := h.ex
  exact (Array.getElem?_eq_some_iff.1 h1).1
theorem MapF.below {w w' : World} {m : Nat} {f : ByteArray → Option Int} (h : MapF w m f) (hb : Below w.heap.size w w') : MapF w' m f := h.same (hb.block m h.lt)
theorem MapF.made (w : World) : MapF (w.alloc (.map #[] 0)) w.heap.size (fun _ => none) := ⟨#[], 0, heap_alloc_new w _, by simp, by simp, by simp⟩
theorem key_is (p : ByteArray) : MapKept.IsKey .string (.string p) := by simp [MapKept.IsKey]

/-- What is found at p, or 0. -/
def atF (f : ByteArray → Option Int) (p : ByteArray) : Int := (f p).getD 0
/-- What a store makes of it. -/
def putF (f : ByteArray → Option Int) (p : ByteArray) (z : Int) : ByteArray → Option Int := fun q => if q = p then some z else f q
theorem same_key (p : ByteArray) : Instr.sameBits 10000 (.string p) (.string p) = true := by
  have h : (p == p) = true := (MapKept.bytes_beq p p).2 rfl
  simp [Instr.sameBits, h]
end Go.Proofs.Yticpljjbnfimkaa
/- The walks of package scan: meet, and the two searches. -/
namespace Go.Proofs.Yticpljjbnfimkaa
open Go.RowKit

/-- The tally f has just the keys that are told; of each it tells whether it was seen; no number is greater than b. -/
structure Tal (keys seen : ByteArray → Bool) (b : Nat) (f : ByteArray → Option Int) : Prop where
  yes : ∀ q, keys q = true → ∃ z : Nat, f q = some (z : Int) ∧ z ≤ b ∧ (0 < z ↔ seen q = true)
  no : ∀ q, keys q = false → f q = none
theorem Tal.more {keys seen seen' : ByteArray → Bool} {b b' : Nat} {f : ByteArray → Option Int} (h : Tal keys seen b f) (hs : ∀ q, seen' q = seen q) (hb : b ≤ b') : Tal keys seen' b' f :=
  ⟨fun q hq => by
    obtain ⟨z, h1, h2, h3⟩ := h.yes q hq
    exact ⟨z, h1, by omega, by rw [hs]; exact h3⟩, h.no⟩
theorem Tal.miss {keys seen seen' : ByteArray → Bool} {b : Nat} {f : ByteArray → Option Int} {p : ByteArray} (h : Tal keys seen b f) (hp : f p = none) (hs : ∀ q, seen' q = (seen q || decide (q = p))) : Tal keys seen' (b + 1) f := by
  have hk : keys p = false := by
    cases hk : keys p with
    | false => rfl
    | true =>
      obtain ⟨z, h1, _⟩ := h.yes p hk
      rw [hp] at h1
      cases h1
  refine ⟨fun q hq => ?_, h.no⟩
  obtain ⟨z, h1, h2, h3⟩ := h.yes q hq
  have hne : q ≠ p := fun e => by rw [e, hk] at hq; cases hq
  exact ⟨z, h1, by omega, by rw [hs, decide_eq_false hne, Bool.or_false]; exact h3⟩
theorem Tal.hit {keys seen seen' : ByteArray → Bool} {b : Nat} {f : ByteArray → Option Int} {p : ByteArray} {z : Nat} (h : Tal keys seen b f) (hp : f p = some (z : Int)) (hs : ∀ q, seen' q = (seen q || decide (q = p))) : Tal keys seen' (b + 1) (putF f p ((z : Int) + 1)) := by
  refine ⟨fun q hq => ?_, fun q hq => ?_⟩
  · by_cases e : q = p
    · subst e
      obtain ⟨y, h1, h2, _⟩ := h.yes q hq
      rw [hp] at h1
      have : z = y := by have := Option.some.inj h1; omega
      subst this
      exact ⟨z + 1, by unfold putF; rw [if_pos rfl]; simp, by omega, by rw [hs, decide_eq_true rfl, Bool.or_true]; simp⟩
    · obtain ⟨y, h1, h2, h3⟩ := h.yes q hq
      exact ⟨y, by unfold putF; rw [if_neg e]; exact h1, by omega, by rw [hs, decide_eq_false e, Bool.or_false]; exact h3⟩
  · have hn := h.no q hq
    unfold putF
    rw [if_neg (fun e => by rw [e, hp] at hn; cases hn)]
    exact hn
theorem Tal.some {keys seen : ByteArray → Bool} {b : Nat} {f : ByteArray → Option Int} (h : Tal keys seen b f) {p : ByteArray} {y : Int} (hp : f p = some y) : ∃ z : Nat, y = z ∧ z ≤ b := by
  cases hk : keys p with
  | false => rw [h.no p hk] at hp; cases hp
  | true =>
    obtain ⟨z, h1, h2, _⟩ := h.yes p hk
    rw [hp] at h1
    exact ⟨z, Option.some.inj h1, h2⟩

/-- Was q met, ahead of this or among the first n pieces of s? -/
def metB (seen : ByteArray → Bool) (s : ByteArray) (n : Nat) (q : ByteArray) : Bool := seen q || Hog.metL q.data.toList s.data.toList n
theorem metB_step (seen : ByteArray → Bool) (s : ByteArray) {n : Nat} (hn : n + 8 ≤ s.size) (q : ByteArray) : metB seen s (n + 1) q = (metB seen s n q || decide (q = s.extract n (n + 8))) := by
  unfold metB
  rw [Hog.metL_step (by rw [← Hog.size_len]; exact hn), ← Bool.or_assoc]
  congr 1
  rw [Bool.eq_iff_iff, decide_eq_true_eq, decide_eq_true_eq, piece_mk, show n + 8 - n = 8 by omega]
  exact ⟨fun h => by rw [← h, Hog.data_mk], fun h => by rw [h, Hog.mk_data]⟩

end Go.Proofs.Yticpljjbnfimkaa
