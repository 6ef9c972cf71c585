/- A map from texts to numbers in memory: what it holds, what is found in it, and what a store leaves. -/
import Derived.Test.YtinjbijigjfdfaaDoorSA
import Derived.Maps.OwnOps
namespace Go.Proofs.YtinjbijigjfdfaaDoor
open Go.RowKit

/-- Block m is a map that holds just what f tells. -/
structure MapF (w : World) (m : Nat) (f : ByteArray → Option Int) : Prop where
  ex : ∃ es clock, w.heap[m]? = some (.map es clock) ∧ (∀ (i : Nat) e, es.toList[i]? = some e → ∃ k z, e.key = .string k ∧ e.val = .int .i64 z ∧ f k = some z) ∧
    (∀ k z, f k = some z → ∃ (i : Nat) (e : MapEntry), es.toList[i]? = some e ∧ e.key = .string k) ∧ (∀ (i j : Nat) a b, es.toList[i]? = some a → es.toList[j]? = some b → a.key = b.key → i = j)
theorem MapF.same {w w' : World} {m : Nat} {f : ByteArray → Option Int} (h : MapF w m f) (e : w'.heap[m]? = w.heap[m]?) : MapF w' m f := by
  obtain ⟨es, c, h1, h2⟩ := h.ex
  exact ⟨es, c, e.trans h1, h2⟩
theorem MapF.lt {w : World} {m : Nat} {f : ByteArray → Option Int} (h : MapF w m f) : m < w.heap.size := by
  obtain ⟨es, c, h1, _⟩ := h.ex
  exact (Array.getElem?_eq_some_iff.1 h1).1
theorem MapF.below {w w' : World} {m : Nat} {f : ByteArray → Option Int} (h : MapF w m f) (hb : Below w.heap.size w w') : MapF w' m f := h.same (hb.block m h.lt)
theorem MapF.made (w : World) : MapF (w.alloc (.map #[] 0)) w.heap.size (fun _ => none) := ⟨#[], 0, heap_alloc_new w _, by simp, by simp, by simp⟩
theorem key_is (p : ByteArray) : MapKept.IsKey .string (.string p) := by simp [MapKept.IsKey]

/-- What is found at p, or 0. -/
def atF (f : ByteArray → Option Int) (p : ByteArray) : Int := (f p).getD 0
theorem mapF_look {w : World} {m : Nat} {f : ByteArray → Option Int} (h : MapF w m f) (p : ByteArray) (c : Bool) :
    (Instr.lookup 55 (.map (some m)) (.string p) c).run Tryd.prog w = .ok (if c then .tuple #[.int .i64 (atF f p), .bool (f p).isSome] else .int .i64 (atF f p)) w := by
  obtain ⟨es, clock, hb, h1, h2, _⟩ := h.ex
  rcases MapKept.findNow_spec (key_is p) es.toList 0 (fun x hx => by
    obtain ⟨i, hi⟩ := List.getElem?_of_mem hx
    obtain ⟨k, z, hk, _⟩ := h1 i x hi
    rw [hk]; exact key_is k) with ⟨k1, k2⟩ | ⟨j, e, k1, k2, k3⟩
  · have hf : f p = none := by
      cases hf : f p with
      | none => rfl
      | some z =>
        obtain ⟨i, e, hi, he⟩ := h2 p z hf
        exact absurd he (k2 e (List.mem_of_getElem? hi))
    simp [Instr.lookup, run_underlying Tryd.underlying55, MapKept.run_getObj_map hb, MapKept.run_checkKey Tryd.underlying9 (key_is p), MapKept.run_findKey Tryd.underlying9 k1, atF, hf, Result.andThen]
  · obtain ⟨k, z, hk, hv, hf⟩ := h1 j e k2
    rw [k3] at hk
    cases hk
    rw [hv] at k1
    simp [Instr.lookup, run_underlying Tryd.underlying55, MapKept.run_getObj_map hb, MapKept.run_checkKey Tryd.underlying9 (key_is p), MapKept.run_findKey Tryd.underlying9 k1, atF, hf, Result.andThen]

/-- What a store makes of it. -/
def putF (f : ByteArray → Option Int) (p : ByteArray) (z : Int) : ByteArray → Option Int := fun q => if q = p then some z else f q
theorem same_key (p : ByteArray) : Instr.sameBits 10000 (.string p) (.string p) = true := by
  have h : (p == p) = true := (MapKept.bytes_beq p p).2 rfl
  simp [Instr.sameBits, h]
theorem mapF_store {w : World} {m : Nat} {f : ByteArray → Option Int} (h : MapF w m f) (p : ByteArray) (z : Int) :
    ∃ w', (Instr.mapUpdate 55 (.map (some m)) (.string p) (.int .i64 z)).run Tryd.prog w = .ok () w' ∧ MapF w' m (putF f p z) ∧ w.grownBy w' (some m) := by
  obtain ⟨es, clock, hb, h1, h2, h3⟩ := h.ex
  rcases MapKept.findNow_spec (key_is p) es.toList 0 (fun x hx => by
    obtain ⟨i, hi⟩ := List.getElem?_of_mem hx
    obtain ⟨k, z, hk, _⟩ := h1 i x hi
    rw [hk]; exact key_is k) with ⟨k1, k2⟩ | ⟨j, e, k1, k2, k3⟩
  · refine ⟨ChangeMaps.setBlock w m (.map (es.push ⟨.string p, .int .i64 z, clock⟩) (clock + 1)), ?_, ⟨_, _, ChangeMaps.heap_setBlock_same hb _, ?_, ?_, ?_⟩, ⟨rfl, rfl, rfl, by simp [ChangeMaps.setBlock], fun i _ hi => ChangeMaps.heap_setBlock_other hb _ (fun e => hi (by rw [e]))⟩⟩
    · simp [Instr.mapUpdate, run_underlying Tryd.underlying55, MapKept.run_getObj_map hb, MapKept.run_checkKey Tryd.underlying9 (key_is p), MapKept.run_findKey Tryd.underlying9 k1, MapKept.run_setObj_map _ hb, Result.andThen, ChangeMaps.setBlock]
    · intro i e hi
      rw [Array.toList_push] at hi
      by_cases hl : i < es.toList.length
      · rw [List.getElem?_append_left hl] at hi
        obtain ⟨k, y, hk, hv, hf⟩ := h1 i e hi
        refine ⟨k, y, hk, hv, ?_⟩
        unfold putF
        rw [if_neg (fun ek => k2 e (List.mem_of_getElem? hi) (by rw [hk, ek]))]
        exact hf
      · rw [List.getElem?_append_right (by omega)] at hi
        have hi0 : i - es.toList.length = 0 := by
          have := (List.getElem?_eq_some_iff.1 hi).1
          simpa using this
        rw [hi0] at hi
        simp at hi
        subst hi
        exact ⟨p, z, rfl, rfl, by unfold putF; rw [if_pos rfl]⟩
    · intro k y hf
      unfold putF at hf
      rw [Array.toList_push]
      by_cases ek : k = p
      · subst ek
        exact ⟨es.toList.length, _, by rw [List.getElem?_append_right (Nat.le_refl _)]; simp; rfl, rfl⟩
      · rw [if_neg ek] at hf
        obtain ⟨i, e, hi, he⟩ := h2 k y hf
        exact ⟨i, e, by rw [List.getElem?_append_left (List.getElem?_eq_some_iff.1 hi).1]; exact hi, he⟩
    · intro i j a b ha hbb hk
      rw [Array.toList_push] at ha hbb
      have key : ∀ (i : Nat) x, (es.toList ++ [⟨.string p, .int .i64 z, clock⟩])[i]? = some x → (es.toList[i]? = some x ∧ x.key ≠ .string p) ∨ (i = es.toList.length ∧ x.key = .string p) := fun i x hx => by
        by_cases hl : i < es.toList.length
        · rw [List.getElem?_append_left hl] at hx
          exact .inl ⟨hx, k2 x (List.mem_of_getElem? hx)⟩
        · rw [List.getElem?_append_right (by omega)] at hx
          have hi0 := (List.getElem?_eq_some_iff.1 hx).1
          simp at hi0
          have hes : es.toList.length = es.size := by simp
          refine .inr ⟨by omega, ?_⟩
          rw [show i - es.toList.length = 0 by omega] at hx
          simp at hx
          rw [← hx]
      rcases key i a ha with ⟨q1, q2⟩ | ⟨q1, q2⟩
      · rcases key j b hbb with ⟨r1, r2⟩ | ⟨r1, r2⟩
        · exact h3 i j a b q1 r1 hk
        · exact absurd (hk.trans r2) q2
      · rcases key j b hbb with ⟨r1, r2⟩ | ⟨r1, r2⟩
        · exact absurd (hk.symm.trans q2) r2
        · omega
  · have hj := (List.getElem?_eq_some_iff.1 k2).1
    have ekey : es[j]? = some e := by rw [← Array.getElem?_toList]; exact k2
    have get : ∀ (i : Nat), (es.modify j fun e => { e with key := .string p, val := .int .i64 z }).toList[i]? = if j = i then (es.toList[i]?).map (fun e => { e with key := .string p, val := .int .i64 z }) else es.toList[i]? := fun i => by
      rw [Array.getElem?_toList, Array.getElem?_modify, Array.getElem?_toList]
    refine ⟨ChangeMaps.setBlock w m (.map (es.modify j fun e => { e with key := .string p, val := .int .i64 z }) clock), ?_, ⟨_, _, ChangeMaps.heap_setBlock_same hb _, ?_, ?_, ?_⟩, ⟨rfl, rfl, rfl, by simp [ChangeMaps.setBlock], fun i _ hi => ChangeMaps.heap_setBlock_other hb _ (fun e => hi (by rw [e]))⟩⟩
    · simp [Instr.mapUpdate, run_underlying Tryd.underlying55, MapKept.run_getObj_map hb, MapKept.run_checkKey Tryd.underlying9 (key_is p), MapKept.run_findKey Tryd.underlying9 k1, MapKept.run_setObj_map _ hb, Result.andThen, ChangeMaps.setBlock, ekey, k3, Instr.keyThatStays, same_key]
    · intro i x hi
      rw [get i] at hi
      by_cases ej : j = i
      · subst ej
        rw [if_pos rfl, k2] at hi
        simp at hi
        subst hi
        exact ⟨p, z, rfl, rfl, by unfold putF; rw [if_pos rfl]⟩
      · rw [if_neg ej] at hi
        obtain ⟨k, y, hk, hv, hf⟩ := h1 i x hi
        refine ⟨k, y, hk, hv, ?_⟩
        unfold putF
        rw [if_neg (fun ek => ej (h3 j i e x k2 hi (by rw [k3, hk, ek])))]
        exact hf
    · intro k y hf
      unfold putF at hf
      by_cases ek : k = p
      · subst ek
        exact ⟨j, _, by rw [get j, if_pos rfl, k2]; rfl, rfl⟩
      · rw [if_neg ek] at hf
        obtain ⟨i, x, hi, he⟩ := h2 k y hf
        refine ⟨i, x, ?_, he⟩
        rw [get i, if_neg (fun ej => ek ?_)]
        · exact hi
        · subst ej
          rw [k2] at hi
          cases hi
          rw [k3] at he
          cases he
          rfl
    · intro i i' a b ha hbb hk
      have key : ∀ (i : Nat) x, (es.modify j fun e => { e with key := .string p, val := .int .i64 z }).toList[i]? = some x → ∃ y, es.toList[i]? = some y ∧ y.key = x.key := fun i x hx => by
        rw [get i] at hx
        by_cases ej : j = i
        · subst ej
          rw [if_pos rfl, k2] at hx
          simp at hx
          exact ⟨e, k2, by rw [k3, ← hx]⟩
        · rw [if_neg ej] at hx
          exact ⟨x, hx, rfl⟩
      obtain ⟨y, q1, q2⟩ := key i a ha
      obtain ⟨y', r1, r2⟩ := key i' b hbb
      exact h3 i i' y y' q1 r1 (by rw [q2, r2, hk])
end Go.Proofs.YtinjbijigjfdfaaDoor
