/- A map from paths to nodes in memory: what it holds, what is found in it, and what a store leaves. -/
import Derived.Test.YteablfekfijnhaaDoorJ3
import Derived.Maps.OwnOps
namespace Go.Proofs.YteablfekfijnhaaDoor
open Go.RowKit

/-- What stands at a path. -/
def lookN (t : List Nd) (p : ByteArray) : Option Nd := t.find? fun n => decide (n.1 = p)

/-- Block m is a map that holds just the nodes ns, each at its path, in this order. -/
def MapOf (w : World) (m : Nat) (ns : List Nd) : Prop :=
  ∃ es clock, w.heap[m]? = some (.map es clock) ∧ es.toList.map (fun e => (e.key, e.val)) = ns.map fun n => (Value.string n.1, nagg n)
theorem MapOf.same {w w' : World} {m : Nat} {ns : List Nd} (h : MapOf w m ns) (e : w'.heap[m]? = w.heap[m]?) : MapOf w' m ns := by
  obtain ⟨es, c, h1, h2⟩ := h
  exact ⟨es, c, e.trans h1, h2⟩
theorem MapOf.lt {w : World} {m : Nat} {ns : List Nd} (h : MapOf w m ns) : m < w.heap.size := by
  obtain ⟨es, c, h1, _⟩ := h
  exact (Array.getElem?_eq_some_iff.1 h1).1
theorem MapOf.below {w w' : World} {m : Nat} {ns : List Nd} (h : MapOf w m ns) (hb : Below w.heap.size w w') : MapOf w' m ns := h.same (hb.block m h.lt)
theorem MapOf.made (w : World) : MapOf (w.alloc (.map #[] 0)) w.heap.size [] := ⟨#[], 0, heap_alloc_new w _, rfl⟩

theorem find_now (p : ByteArray) : ∀ (es : List MapEntry) (ns : List Nd) (i : Nat), es.map (fun e => (e.key, e.val)) = ns.map (fun n => (Value.string n.1, nagg n)) →
    (lookN ns p = none ∧ Instr.findNow .string (.string p) es i = some none) ∨ ∃ n j, lookN ns p = some n ∧ Instr.findNow .string (.string p) es i = some (some (j, nagg n))
  | [], [], i, _ => .inl ⟨rfl, rfl⟩
  | [], n :: r, i, h => by simp at h
  | e :: es, [], i, h => by simp at h
  | e :: es, n :: r, i, h => by
    simp only [List.map_cons, List.cons.injEq, Prod.mk.injEq] at h
    obtain ⟨⟨h1, h2⟩, h3⟩ := h
    by_cases hp : n.1 = p
    · refine .inr ⟨n, i, by simp [lookN, hp], ?_⟩
      have hb : (p == p) = true := (MapKept.bytes_beq p p).2 rfl
      simp [Instr.findNow, Instr.sameNow, h1, h2, hp, hb]
    · have hb : (p == n.1) = false := Bool.eq_false_iff.2 fun e => hp ((MapKept.bytes_beq p n.1).1 e).symm
      rcases find_now p es r (i + 1) h3 with ⟨k1, k2⟩ | ⟨m, j, k1, k2⟩
      · exact .inl ⟨by simpa [lookN, hp] using k1, by simp [Instr.findNow, Instr.sameNow, h1, hb, k2]⟩
      · exact .inr ⟨m, j, by simpa [lookN, hp] using k1, by simp [Instr.findNow, Instr.sameNow, h1, hb, k2]⟩

theorem is_key (p : ByteArray) : MapKept.IsKey .string (.string p) := by simp [MapKept.IsKey]

/-- What is found at p, or the empty node. -/
def atN (ns : List Nd) (p : ByteArray) : Nd := (lookN ns p).getD (ByteArray.empty, 0, ByteArray.empty)
theorem map_look {w : World} {m : Nat} {ns : List Nd} (h : MapOf w m ns) (p : ByteArray) (c : Bool) :
    (Instr.lookup 58 (.map (some m)) (.string p) c).run Tryd.prog w = .ok (if c then .tuple #[nagg (atN ns p), .bool (lookN ns p).isSome] else nagg (atN ns p)) w := by
  obtain ⟨es, clock, hb, he⟩ := h
  rcases find_now p es.toList ns 0 he with ⟨k1, k2⟩ | ⟨n, j, k1, k2⟩
  · simp [Instr.lookup, run_underlying Tryd.underlying58, MapKept.run_getObj_map hb, MapKept.run_checkKey Tryd.underlying9 (is_key p), MapKept.run_findKey Tryd.underlying9 k2, atN, k1, nagg, Result.andThen]
    rfl
  · simp [Instr.lookup, run_underlying Tryd.underlying58, MapKept.run_getObj_map hb, MapKept.run_checkKey Tryd.underlying9 (is_key p), MapKept.run_findKey Tryd.underlying9 k2, atN, k1, Result.andThen]

theorem map_store {w : World} {m : Nat} {ns : List Nd} (h : MapOf w m ns) (n : Nd) (hn : lookN ns n.1 = none) :
    ∃ w', (Instr.mapUpdate 58 (.map (some m)) (.string n.1) (nagg n)).run Tryd.prog w = .ok () w' ∧ MapOf w' m (ns ++ [n]) ∧ w.grownBy w' (some m) := by
  obtain ⟨es, clock, hb, he⟩ := h
  rcases find_now n.1 es.toList ns 0 he with ⟨k1, k2⟩ | ⟨x, j, k1, k2⟩
  · refine ⟨ChangeMaps.setBlock w m (.map (es.push ⟨.string n.1, nagg n, clock⟩) (clock + 1)), ?_, ⟨_, _, ChangeMaps.heap_setBlock_same hb _, by simp [he]⟩, ⟨rfl, rfl, rfl, by simp [ChangeMaps.setBlock], fun i _ hi => ChangeMaps.heap_setBlock_other hb _ (fun e => hi (by rw [e]))⟩⟩
    simp [Instr.mapUpdate, run_underlying Tryd.underlying58, MapKept.run_getObj_map hb, MapKept.run_checkKey Tryd.underlying9 (is_key n.1), MapKept.run_findKey Tryd.underlying9 k2, MapKept.run_setObj_map _ hb, Result.andThen, ChangeMaps.setBlock]
  · rw [hn] at k1
    cases k1
end Go.Proofs.YteablfekfijnhaaDoor
