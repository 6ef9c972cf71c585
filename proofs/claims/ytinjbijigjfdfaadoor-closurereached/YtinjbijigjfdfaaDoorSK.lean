/- The walks of package scan: standing. -/
import Derived.Test.YtinjbijigjfdfaaDoorSJ
import Derived.Test.YtinjbijigjfdfaaDoorX7
namespace Go.Proofs.YtinjbijigjfdfaaDoor
open Go.RowKit

/-- A name's hash, as a text. -/
def hashT (x : ByteArray) : ByteArray := Hog.mk (Hog.hashL x.data.toList)
/-- The hashes that are sought. -/
def keysOf (xs : List ByteArray) (q : ByteArray) : Bool := xs.any fun x => decide (hashT x = q)
theorem keys_step {xs : List ByteArray} {k : Nat} {x : ByteArray} (h : xs[k]? = some x) (q : ByteArray) : keysOf (xs.take (k + 1)) q = (keysOf (xs.take k) q || decide (hashT x = q)) := by
  obtain ⟨hk, rfl⟩ := List.getElem?_eq_some_iff.1 h
  unfold keysOf
  rw [List.take_succ_eq_append_getElem hk, List.any_append]
  simp
theorem tal_start : Tal (keysOf []) (fun _ => false) 0 (fun _ => none) := ⟨fun q h => by simp [keysOf] at h, fun _ _ => rfl⟩
theorem Tal.key {keys keys' : ByteArray → Bool} {f : ByteArray → Option Int} {p : ByteArray} (h : Tal keys (fun _ => false) 0 f) (hs : ∀ q, keys' q = (keys q || decide (p = q))) : Tal keys' (fun _ => false) 0 (putF f p 0) := by
  refine ⟨fun q hq => ?_, fun q hq => ?_⟩
  · by_cases e : q = p
    · exact ⟨0, by unfold putF; rw [if_pos e]; rfl, Nat.le_refl _, by simp⟩
    · rw [hs, decide_eq_false (fun e2 => e e2.symm), Bool.or_false] at hq
      obtain ⟨z, h1, h2, h3⟩ := h.yes q hq
      exact ⟨z, by unfold putF; rw [if_neg e]; exact h1, h2, h3⟩
  · rw [hs, Bool.or_eq_false_iff] at hq
    have e : ¬ q = p := fun e => by rw [e] at hq; simp at hq
    unfold putF
    rw [if_neg e]
    exact h.no q hq.1
/-- The names whose hash was seen. -/
def seenT (act : ByteArray → Bool) (xs : List ByteArray) : List ByteArray := xs.filter fun x => act (hashT x)
theorem seen_step {act : ByteArray → Bool} {xs : List ByteArray} {k : Nat} {x : ByteArray} (h : xs[k]? = some x) : seenT act (xs.take (k + 1)) = seenT act (xs.take k) ++ if act (hashT x) = true then [x] else [] := by
  obtain ⟨hk, rfl⟩ := List.getElem?_eq_some_iff.1 h
  unfold seenT
  rw [List.take_succ_eq_append_getElem hk, List.filter_append, List.filter_cons]
  simp
theorem seen_len (act : ByteArray → Bool) (xs : List ByteArray) (k : Nat) : (seenT act (xs.take k)).length ≤ k := Nat.le_trans (List.length_filter_le _ _) (List.length_take_le _ _)
/-- What is told: the names whose hash was seen, sorted, each once. -/
def toldT (act : ByteArray → Bool) (xs : List ByteArray) : List ByteArray := (Hog.pickT (plainT (seenT act xs))).map Hog.mk

theorem MapF.grown {w w' : World} {m : Nat} {f : ByteArray → Option Int} {row : Option Nat} (h : MapF w m f) (hg : w.grownBy w' row) (hr : some m ≠ row) : MapF w' m f := h.same (hg.block m h.lt hr)
theorem row_not_map {base : Nat} {w : World} {v : Value} {xs : List ByteArray} {m : Nat} {f : ByteArray → Option Int} (h : Own base w v xs) (hm : MapF w m f) : some m ≠ v.ownBlock := by
  obtain ⟨es, c, h1, _⟩ := hm.ex
  rcases h.2 with ⟨rfl, _⟩ | ⟨g, cap, cur, rfl, _, hg, _⟩
  · simp [Value.ownBlock]
  · intro e
    obtain rfl : m = g := by simpa [Value.ownBlock] using e
    rw [h1] at hg
    cases hg

theorem wpList_append_one {w : World} {ops : Array Oper} {rest : List Oper} {o : Oper} {a : Act} {Q : Exit → Act → World → Prop} (hgd : o.guard = none) (s x : Operand)
    (ho : o.op = .call { callee := .builtin .append, args := #[s, x], argTypes := #[28, 28] })
    (base : Nat) (v : Value) (xs : List ByteArray) (hs : a.eval s = v) (hown : Own base w v xs) (ad : Addr) (y : ByteArray) (hx : a.eval x = .slice (some ad) 1 1) (hu : Arg w (some ad) 1 1 [y])
    (q : Nat) (hq : xs.length = q) (zs : List ByteArray) (hz : xs ++ [y] = zs) (hlen : q < 999999) (hbase : base ≤ w.heap.size)
    (h : ∀ b c w', Own base w' (.slice b (q + 1) c) zs → w.grownBy w' v.ownBlock → wpList Tryd.prog ops Q rest (a.put o.dst (.slice b (q + 1) c)) w') : wpList Tryd.prog ops Q (o :: rest) a w := by
  subst hz
  refine wpList_append_whereT hgd s x ho base v xs hs hown ad 1 1 [y] hx hu (by simp; omega) hbase ?_
  intro b c w' h1 h2 _
  rw [hq] at h1 ⊢
  exact h b c w' h1 h2

end Go.Proofs.YtinjbijigjfdfaaDoor
