/- Texts that stand together, joined: SG, SH, SI, SJ, SK, SL. -/
import Derived.Test.YtinjbijigjfdfaaGreatDoorSA
import Derived.Maps.OwnOps
import Derived.Test.YtinjbijigjfdfaaGreatDoorJ7
import Derived.Test.YtinjbijigjfdfaaGreatDoorJ3
import Derived.Test.YtinjbijigjfdfaaGreatDoorJ8
import Derived.Sort.OwnSorted
import Derived.Lib.OwnBridge
import Derived.Lib.RowBridge
import Derived.Test.YtinjbijigjfdfaaGreatDoorJ14
/- A map from texts to numbers in memory: what it holds, what is found in it, and what a store leaves. -/
namespace Go.Proofs.YtinjbijigjfdfaaGreatDoor
open Go.RowKit

/-- Block m is a map that holds just what f tells. -/
structure MapF (w : World) (m : Nat) (f : ByteArray → Option Int) : Prop where
  ex : ∃ es clock, w.heap[m]? = some (.map es clock) ∧ (∀ (i : Nat) e, es.toList[i]? = some e → ∃ k z, e.key = .string k ∧ e.val = .int .i64 z ∧ f k = some z) ∧
    (∀ k z, f k = some z → ∃ (i : Nat) (e : MapEntry), es.toList[i]? = some e ∧ e.key = .string k) ∧ (∀ (i j : Nat) a b, es.toList[i]? = some a → es.toList[j]? = some b → a.key = b.key → i = j)
theorem MapF.same {w w' : World} {m : Nat} {f : ByteArray → Option Int} (h : MapF w m f) (e : w'.heap[m]? = w.heap[m]?) : MapF w' m f := by
  obtain ⟨es, c, h1, h2⟩ := h.ex
  exact ⟨es, c, e.trans h1, h2⟩
theorem MapF.lt {w : World} {m : Nat} {f : ByteArray → Option Int} (h : MapF w m f) : m < w.heap.size := by
  obtain ⟨es, c, h1, _⟩ := h.ex
  exact (Array.getElem?_eq_some_iff.1 h1).1
theorem MapF.below {w w' : World} {m : Nat} {f : ByteArray → Option Int} (h : MapF w m f) (hb : Below w.heap.size w w') : MapF w' m f := h.same (hb.block m h.lt)
theorem MapF.made (w : World) : MapF (w.alloc (.map #[] 0)) w.heap.size (fun _ => none) := ⟨#[], 0, heap_alloc_new w _, by simp, by simp, by simp⟩
theorem key_is (p : ByteArray) : MapKept.IsKey .string (.string p) := by simp [MapKept.IsKey]

/-- What is found at p, or 0. -/
def atF (f : ByteArray → Option Int) (p : ByteArray) : Int := (f p).getD 0
theorem mapF_look {w : World} {m : Nat} {f : ByteArray → Option Int} (h : MapF w m f) (p : ByteArray) (c : Bool) :
    (Instr.lookup 88 (.map (some m)) (.string p) c).run Tryz.prog w = .ok (if c then .tuple #[.int .i64 (atF f p), .bool (f p).isSome] else .int .i64 (atF f p)) w := by
  obtain ⟨es, clock, hb, h1, h2, _⟩ := h.ex
  rcases MapKept.findNow_spec (key_is p) es.toList 0 (fun x hx => by
    obtain ⟨i, hi⟩ := List.getElem?_of_mem hx
    obtain ⟨k, z, hk, _⟩ := h1 i x hi
    rw [hk]; exact key_is k) with ⟨k1, k2⟩ | ⟨j, e, k1, k2, k3⟩
  · have hf : f p = none := by
      cases hf : f p with
      | none => rfl
      | some z =>
        obtain ⟨i, e, hi, he⟩ := h2 p z hf
        exact absurd he (k2 e (List.mem_of_getElem? hi))
    simp [Instr.lookup, run_underlying Tryz.underlying88, MapKept.run_getObj_map hb, MapKept.run_checkKey Tryz.underlying9 (key_is p), MapKept.run_findKey Tryz.underlying9 k1, atF, hf, Result.andThen]
  · obtain ⟨k, z, hk, hv, hf⟩ := h1 j e k2
    rw [k3] at hk
    cases hk
    rw [hv] at k1
    simp [Instr.lookup, run_underlying Tryz.underlying88, MapKept.run_getObj_map hb, MapKept.run_checkKey Tryz.underlying9 (key_is p), MapKept.run_findKey Tryz.underlying9 k1, atF, hf, Result.andThen]

/-- What a store makes of it. -/
def putF (f : ByteArray → Option Int) (p : ByteArray) (z : Int) : ByteArray → Option Int := fun q => if q = p then some z else f q
theorem same_key (p : ByteArray) : Instr.sameBits 10000 (.string p) (.string p) = true := by
  have h : (p == p) = true := (MapKept.bytes_beq p p).2 rfl
  simp [Instr.sameBits, h]
theorem mapF_store {w : World} {m : Nat} {f : ByteArray → Option Int} (h : MapF w m f) (p : ByteArray) (z : Int) :
    ∃ w', (Instr.mapUpdate 88 (.map (some m)) (.string p) (.int .i64 z)).run Tryz.prog w = .ok () w' ∧ MapF w' m (putF f p z) ∧ w.grownBy w' (some m) := by
  obtain ⟨es, clock, hb, h1, h2, h3⟩ := h.ex
  rcases MapKept.findNow_spec (key_is p) es.toList 0 (fun x hx => by
    obtain ⟨i, hi⟩ := List.getElem?_of_mem hx
    obtain ⟨k, z, hk, _⟩ := h1 i x hi
    rw [hk]; exact key_is k) with ⟨k1, k2⟩ | ⟨j, e, k1, k2, k3⟩
  · refine ⟨ChangeMaps.setBlock w m (.map (es.push ⟨.string p, .int .i64 z, clock⟩) (clock + 1)), ?_, ⟨_, _, ChangeMaps.heap_setBlock_same hb _, ?_, ?_, ?_⟩, ⟨rfl, rfl, rfl, by simp [ChangeMaps.setBlock], fun i _ hi => ChangeMaps.heap_setBlock_other hb _ (fun e => hi (by rw [e]))⟩⟩
    · simp [Instr.mapUpdate, run_underlying Tryz.underlying88, MapKept.run_getObj_map hb, MapKept.run_checkKey Tryz.underlying9 (key_is p), MapKept.run_findKey Tryz.underlying9 k1, MapKept.run_setObj_map _ hb, Result.andThen, ChangeMaps.setBlock]
    · intro i e hi
      rw [Array.toList_push] at hi
      by_cases hl : i < es.toList.length
      · rw [List.getElem?_append_left hl] at hi
        obtain ⟨k, y, hk, hv, hf⟩ := h1 i e hi
        refine ⟨k, y, hk, hv, ?_⟩
        unfold putF
        rw [if_neg (fun ek => k2 e (List.mem_of_getElem? hi) (by rw [hk, ek]))]
        exact hf
      · rw [List.getElem?_append_right (by omega)] at hi
        have hi0 : i - es.toList.length = 0 := by
          have := (List.getElem?_eq_some_iff.1 hi).1
          simpa using this
        rw [hi0] at hi
        simp at hi
        subst hi
        exact ⟨p, z, rfl, rfl, by unfold putF; rw [if_pos rfl]⟩
    · intro k y hf
      unfold putF at hf
      rw [Array.toList_push]
      by_cases ek : k = p
      · subst ek
        exact ⟨es.toList.length, _, by rw [List.getElem?_append_right (Nat.le_refl _)]; simp; rfl, rfl⟩
      · rw [if_neg ek] at hf
        obtain ⟨i, e, hi, he⟩ := h2 k y hf
        exact ⟨i, e, by rw [List.getElem?_append_left (List.getElem?_eq_some_iff.1 hi).1]; exact hi, he⟩
    · intro i j a b ha hbb hk
      rw [Array.toList_push] at ha hbb
      have key : ∀ (i : Nat) x, (es.toList ++ [⟨.string p, .int .i64 z, clock⟩])[i]? = some x → (es.toList[i]? = some x ∧ x.key ≠ .string p) ∨ (i = es.toList.length ∧ x.key = .string p) := fun i x hx => by
        by_cases hl : i < es.toList.length
        · rw [List.getElem?_append_left hl] at hx
          exact .inl ⟨hx, k2 x (List.mem_of_getElem? hx)⟩
        · rw [List.getElem?_append_right (by omega)] at hx
          have hi0 := (List.getElem?_eq_some_iff.1 hx).1
          simp at hi0
          have hes : es.toList.length = es.size := by simp
          refine .inr ⟨by omega, ?_⟩
          rw [show i - es.toList.length = 0 by omega] at hx
          simp at hx
          rw [← hx]
      rcases key i a ha with ⟨q1, q2⟩ | ⟨q1, q2⟩
      · rcases key j b hbb with ⟨r1, r2⟩ | ⟨r1, r2⟩
        · exact h3 i j a b q1 r1 hk
        · exact absurd (hk.trans r2) q2
      · rcases key j b hbb with ⟨r1, r2⟩ | ⟨r1, r2⟩
        · exact absurd (hk.symm.trans q2) r2
        · omega
  · have hj := (List.getElem?_eq_some_iff.1 k2).1
    have ekey : es[j]? = some e := by rw [← Array.getElem?_toList]; exact k2
    have get : ∀ (i : Nat), (es.modify j fun e => { e with key := .string p, val := .int .i64 z }).toList[i]? = if j = i then (es.toList[i]?).map (fun e => { e with key := .string p, val := .int .i64 z }) else es.toList[i]? := fun i => by
      rw [Array.getElem?_toList, Array.getElem?_modify, Array.getElem?_toList]
    refine ⟨ChangeMaps.setBlock w m (.map (es.modify j fun e => { e with key := .string p, val := .int .i64 z }) clock), ?_, ⟨_, _, ChangeMaps.heap_setBlock_same hb _, ?_, ?_, ?_⟩, ⟨rfl, rfl, rfl, by simp [ChangeMaps.setBlock], fun i _ hi => ChangeMaps.heap_setBlock_other hb _ (fun e => hi (by rw [e]))⟩⟩
    · simp [Instr.mapUpdate, run_underlying Tryz.underlying88, MapKept.run_getObj_map hb, MapKept.run_checkKey Tryz.underlying9 (key_is p), MapKept.run_findKey Tryz.underlying9 k1, MapKept.run_setObj_map _ hb, Result.andThen, ChangeMaps.setBlock, ekey, k3, Instr.keyThatStays, same_key]
    · intro i x hi
      rw [get i] at hi
      by_cases ej : j = i
      · subst ej
        rw [if_pos rfl, k2] at hi
        simp at hi
        subst hi
        exact ⟨p, z, rfl, rfl, by unfold putF; rw [if_pos rfl]⟩
      · rw [if_neg ej] at hi
        obtain ⟨k, y, hk, hv, hf⟩ := h1 i x hi
        refine ⟨k, y, hk, hv, ?_⟩
        unfold putF
        rw [if_neg (fun ek => ej (h3 j i e x k2 hi (by rw [k3, hk, ek])))]
        exact hf
    · intro k y hf
      unfold putF at hf
      by_cases ek : k = p
      · subst ek
        exact ⟨j, _, by rw [get j, if_pos rfl, k2]; rfl, rfl⟩
      · rw [if_neg ek] at hf
        obtain ⟨i, x, hi, he⟩ := h2 k y hf
        refine ⟨i, x, ?_, he⟩
        rw [get i, if_neg (fun ej => ek ?_)]
        · exact hi
        · subst ej
          rw [k2] at hi
          cases hi
          rw [k3] at he
          cases he
          rfl
    · intro i i' a b ha hbb hk
      have key : ∀ (i : Nat) x, (es.modify j fun e => { e with key := .string p, val := .int .i64 z }).toList[i]? = some x → ∃ y, es.toList[i]? = some y ∧ y.key = x.key := fun i x hx => by
        rw [get i] at hx
        by_cases ej : j = i
        · subst ej
          rw [if_pos rfl, k2] at hx
          simp at hx
          exact ⟨e, k2, by rw [k3, ← hx]⟩
        · rw [if_neg ej] at hx
          exact ⟨x, hx, rfl⟩
      obtain ⟨y, q1, q2⟩ := key i a ha
      obtain ⟨y', r1, r2⟩ := key i' b hbb
      exact h3 i i' y y' q1 r1 (by rw [q2, r2, hk])
end Go.Proofs.YtinjbijigjfdfaaGreatDoor
/- The walks of package scan: meet, and the two searches. -/
namespace Go.Proofs.YtinjbijigjfdfaaGreatDoor
open Go.RowKit

/-- The tally f has just the keys that are told; of each it tells whether it was seen; no number is greater than b. -/
structure Tal (keys seen : ByteArray → Bool) (b : Nat) (f : ByteArray → Option Int) : Prop where
  yes : ∀ q, keys q = true → ∃ z : Nat, f q = some (z : Int) ∧ z ≤ b ∧ (0 < z ↔ seen q = true)
  no : ∀ q, keys q = false → f q = none
theorem Tal.more {keys seen seen' : ByteArray → Bool} {b b' : Nat} {f : ByteArray → Option Int} (h : Tal keys seen b f) (hs : ∀ q, seen' q = seen q) (hb : b ≤ b') : Tal keys seen' b' f :=
  ⟨fun q hq => by
    obtain ⟨z, h1, h2, h3⟩ := h.yes q hq
    exact ⟨z, h1, by omega, by rw [hs]; exact h3⟩, h.no⟩
theorem Tal.miss {keys seen seen' : ByteArray → Bool} {b : Nat} {f : ByteArray → Option Int} {p : ByteArray} (h : Tal keys seen b f) (hp : f p = none) (hs : ∀ q, seen' q = (seen q || decide (q = p))) : Tal keys seen' (b + 1) f := by
  have hk : keys p = false := by
    cases hk : keys p with
    | false => rfl
    | true =>
      obtain ⟨z, h1, _⟩ := h.yes p hk
      rw [hp] at h1
      cases h1
  refine ⟨fun q hq => ?_, h.no⟩
  obtain ⟨z, h1, h2, h3⟩ := h.yes q hq
  have hne : q ≠ p := fun e => by rw [e, hk] at hq; cases hq
  exact ⟨z, h1, by omega, by rw [hs, decide_eq_false hne, Bool.or_false]; exact h3⟩
theorem Tal.hit {keys seen seen' : ByteArray → Bool} {b : Nat} {f : ByteArray → Option Int} {p : ByteArray} {z : Nat} (h : Tal keys seen b f) (hp : f p = some (z : Int)) (hs : ∀ q, seen' q = (seen q || decide (q = p))) : Tal keys seen' (b + 1) (putF f p ((z : Int) + 1)) := by
  refine ⟨fun q hq => ?_, fun q hq => ?_⟩
  · by_cases e : q = p
    · subst e
      obtain ⟨y, h1, h2, _⟩ := h.yes q hq
      rw [hp] at h1
      have : z = y := by have := Option.some.inj h1; omega
      subst this
      exact ⟨z + 1, by unfold putF; rw [if_pos rfl]; simp, by omega, by rw [hs, decide_eq_true rfl, Bool.or_true]; simp⟩
    · obtain ⟨y, h1, h2, h3⟩ := h.yes q hq
      exact ⟨y, by unfold putF; rw [if_neg e]; exact h1, by omega, by rw [hs, decide_eq_false e, Bool.or_false]; exact h3⟩
  · have hn := h.no q hq
    unfold putF
    rw [if_neg (fun e => by rw [e, hp] at hn; cases hn)]
    exact hn
theorem Tal.some {keys seen : ByteArray → Bool} {b : Nat} {f : ByteArray → Option Int} (h : Tal keys seen b f) {p : ByteArray} {y : Int} (hp : f p = some y) : ∃ z : Nat, y = z ∧ z ≤ b := by
  cases hk : keys p with
  | false => rw [h.no p hk] at hp; cases hp
  | true =>
    obtain ⟨z, h1, h2, _⟩ := h.yes p hk
    rw [hp] at h1
    exact ⟨z, Option.some.inj h1, h2⟩

theorem wpList_lookF {w : World} {ops : Array Oper} {rest : List Oper} {o : Oper} {a : Act} {Q : Exit → Act → World → Prop} (hg : o.guard = none) (m x : Operand) (hop : o.op = Op.lookup 88 m x true)
    (b : Nat) (f : ByteArray → Option Int) (hm : a.eval m = .map (some b)) (hown : MapF w b f) (key : ByteArray) (hx : a.eval x = .string key) (z : Int) (k : Bool) (hz : atF f key = z) (hk : (f key).isSome = k)
    (hK : wpList Tryz.prog ops Q rest (a.put o.dst (.tuple #[.int .i64 z, .bool k])) w) : wpList Tryz.prog ops Q (o :: rest) a w := by
  refine wpList_plain hg fun K hK' => ?_
  have hrun := mapF_look hown key true
  rw [if_pos rfl, hz, hk] at hrun
  unfold Oper.wp
  simp [execOp, hop, hm, hx, hrun, Result.andThen]
  exact hK' _ _ hK
theorem wpList_getF {w : World} {ops : Array Oper} {rest : List Oper} {o : Oper} {a : Act} {Q : Exit → Act → World → Prop} (hg : o.guard = none) (m x : Operand) (hop : o.op = Op.lookup 88 m x false)
    (b : Nat) (f : ByteArray → Option Int) (hm : a.eval m = .map (some b)) (hown : MapF w b f) (key : ByteArray) (hx : a.eval x = .string key) (z : Int) (hz : atF f key = z)
    (hK : wpList Tryz.prog ops Q rest (a.put o.dst (.int .i64 z)) w) : wpList Tryz.prog ops Q (o :: rest) a w := by
  refine wpList_plain hg fun K hK' => ?_
  have hrun := mapF_look hown key false
  rw [if_neg (by simp), hz] at hrun
  unfold Oper.wp
  simp [execOp, hop, hm, hx, hrun, Result.andThen]
  exact hK' _ _ hK
theorem wpList_putF {w : World} {ops : Array Oper} {rest : List Oper} {o : Oper} {a : Act} {Q : Exit → Act → World → Prop} (hg : o.guard = none) (m x y : Operand) (hop : o.op = Op.mapUpdate 88 m x y)
    (b : Nat) (f : ByteArray → Option Int) (hm : a.eval m = .map (some b)) (hown : MapF w b f) (key : ByteArray) (hx : a.eval x = .string key) (z : Int) (hy : a.eval y = .int .i64 z)
    (hK : ∀ w', MapF w' b (putF f key z) → w.grownBy w' (some b) → wpList Tryz.prog ops Q rest (a.put o.dst undef) w') : wpList Tryz.prog ops Q (o :: rest) a w := by
  refine wpList_plain hg fun K hK' => ?_
  obtain ⟨w', hrun, r1, r2⟩ := mapF_store hown key z
  unfold Oper.wp
  simp [execOp, hop, hm, hx, hy, hrun, Result.andThen]
  exact hK' _ _ (hK w' r1 r2)

/-- Was q met, ahead of this or among the first n pieces of s? -/
def metB (seen : ByteArray → Bool) (s : ByteArray) (n : Nat) (q : ByteArray) : Bool := seen q || Hog.metL q.data.toList s.data.toList n
theorem metB_step (seen : ByteArray → Bool) (s : ByteArray) {n : Nat} (hn : n + 8 ≤ s.size) (q : ByteArray) : metB seen s (n + 1) q = (metB seen s n q || decide (q = s.extract n (n + 8))) := by
  unfold metB
  rw [Hog.metL_step (by rw [← Hog.size_len]; exact hn), ← Bool.or_assoc]
  congr 1
  rw [Bool.eq_iff_iff, decide_eq_true_eq, decide_eq_true_eq, piece_mk, show n + 8 - n = 8 by omega]
  exact ⟨fun h => by rw [← h, Hog.data_mk], fun h => by rw [h, Hog.mk_data]⟩

set_option maxRecDepth 100000 in
set_option maxHeartbeats 1000000 in
theorem meet_ok (m b : Nat) (s : ByteArray) (keys seen : ByteArray → Bool) (w : World) (hs : s.size < 1000000) (hb : b < 1000000000000) (h : ∃ f, MapF w m f ∧ Tal keys seen b f) :
    Calls Tryz.prog 68 #[.map (some m), .string s] w fun e w' => e = .returned (.tuple #[]) ∧ (∃ f, MapF w' m f ∧ Tal keys (metB seen s (s.size + 1 - 8)) (b + s.size) f) ∧ w.grownBy w' (some m) := by
  have HF := hide h
  have hsi : (s.size : Int) < 1000000 := by omega
  clear h
  go_enter Tryz.func68, Tryz.ntmps68
  go_wp2
  go_loopw [4] (fun i wr => ∃ k : Nat, 8 ≤ k ∧ k ≤ s.size + 8 ∧ Hid (k = 8 ∨ k ≤ s.size + 1) ∧ i = .int .i64 k ∧ Hid (∃ f, MapF wr m f ∧ Tal keys (metB seen s (k - 8)) (b + (k - 8)) f) ∧ Hid (w.grownBy wr (some m))) (fun i _ => s.size + 8 - (intOf i).toNat)
  case atStart =>
    refine ⟨8, Nat.le_refl _, by omega, .inl rfl, rfl, ?_, grown_refl _ _⟩
    obtain ⟨f, h1, h2⟩ := HF.out
    exact ⟨f, h1, h2.more (fun q => by unfold metB; rw [Nat.sub_self, Hog.metL_zero, Bool.or_false]) (by omega)⟩
  case round =>
    obtain ⟨k, hk8, hk, hke, rfl, hex, hgr⟩ := hrel
    by_cases hlt : k ≤ s.size
    · obtain ⟨f, h1, h2⟩ := hex.out
      have hki : (k : Int) ≤ (s.size : Int) := by omega
      have hk8i : (8 : Int) ≤ (k : Int) := by omega
      have e8 : k - 8 + 8 = k := by omega
      have hst := metB_step seen s (n := k - 8) (by omega)
      rw [e8] at hst
      have HST := hide hst
      have HM := hide h1
      have HT := hide h2
      clear h1 h2 hex e8 hst
      cases hf : f (s.extract (k - 8) k) with
      | none =>
        have HN := hide hf
        have z1 : Hid (atF f (s.extract (k - 8) k) = 0) := by unfold atF; rw [hf]; exact hide rfl
        have z2 : Hid ((f (s.extract (k - 8) k)).isSome = false) := by rw [hf]; exact hide rfl
        clear hf
        go_wp2_with (at_lookup; refine wpList_lookF rfl _ _ rfl m f rfl HM.out (s.extract (k - 8) k) rfl 0 false z1.out z2.out ?_)
        go_roundw
        case rel =>
          refine ⟨k + 1, by omega, by omega, .inr (by omega), by go_num, ⟨f, HM.out, ?_⟩, hgr⟩
          rw [show k + 1 - 8 = k - 8 + 1 by omega]
          exact HT.out.miss HN.out HST.out
        case measure => simp [intOf]; omega
      | some y =>
        obtain ⟨z, rfl, hz⟩ := HT.out.some hf
        have hzi : (z : Int) ≤ 2000000000000 := by omega
        have hz0 : (0 : Int) ≤ (z : Int) := by omega
        have HN := hide hf
        have z1 : Hid (atF f (s.extract (k - 8) k) = (z : Int)) := by unfold atF; rw [hf]; exact hide rfl
        have z2 : Hid ((f (s.extract (k - 8) k)).isSome = true) := by rw [hf]; exact hide rfl
        clear hf
        go_wp2_with (first
          | (at_lookup; refine wpList_lookF rfl _ _ rfl m f rfl HM.out (s.extract (k - 8) k) rfl (z : Int) true z1.out z2.out ?_)
          | (at_mapUpdate; refine wpList_putF rfl _ _ _ rfl m f rfl HM.out (s.extract (k - 8) k) rfl ((z : Int) + 1) rfl ?_; intro w1 hm1 hg1; have HM1 := hide hm1; have HG1 := hide hg1; clear hm1 hg1)
          | go_in)
        go_roundw
        case rel =>
          refine ⟨k + 1, by omega, by omega, .inr (by omega), by go_num, ⟨_, HM1.out, ?_⟩, grown_trans hgr.out HG1.out⟩
          rw [show k + 1 - 8 = k - 8 + 1 by omega]
          exact HT.out.hit HN.out HST.out
        case measure => simp [intOf]; omega
    · have hki : (s.size : Int) < (k : Int) := by omega
      go_wp2
      go_end0
      refine ⟨rfl, ?_, hgr.out⟩
      obtain ⟨f, h1, h2⟩ := hex.out
      refine ⟨f, h1, h2.more (fun q => ?_) (by omega)⟩
      rw [show k - 8 = s.size + 1 - 8 by have := hke.out; omega]
end Go.Proofs.YtinjbijigjfdfaaGreatDoor
/- The walks of package scan: the two searches. -/
namespace Go.Proofs.YtinjbijigjfdfaaGreatDoor
open Go.RowKit

/-- Does the text q, of eight bytes, stand in s? -/
def hitB (s q : ByteArray) : Bool := decide (q.data.toList.length = 8) && Hog.hasL q.data.toList s.data.toList
theorem metB_whole (seen : ByteArray → Bool) (s q : ByteArray) : metB seen s (s.size + 1 - 8) q = (seen q || hitB s q) := by
  unfold metB hitB
  rw [Hog.size_len, Hog.metL_has]

/-- What a search does: from a tally in which nothing was seen it makes one that tells of what act tells. -/
def Searches (F : Nat) (lb : Array Value) (act : ByteArray → Bool) (w0 : World) : Prop :=
  ∀ (w : World) (m : Nat) (keys : ByteArray → Bool), Below w0.heap.size w0 w → w0.heap.size ≤ m → (∃ f, MapF w m f ∧ Tal keys (fun _ => false) 0 f) →
    Calls Tryz.prog F (#[.map (some m)] ++ lb) w fun e w' => e = .returned (.tuple #[]) ∧ (∃ f, MapF w' m f ∧ ∃ b, Tal keys act b f) ∧ w.grownBy w' (some m)

/-- Does q, of eight bytes, stand in the data of a node? -/
def hitN (ns : List Nd) (q : ByteArray) : Bool := ns.any fun n => hitB n.2.2 q
theorem hitN_step {ns : List Nd} {k : Nat} {n : Nd} (h : ns[k]? = some n) (q : ByteArray) : hitN (ns.take (k + 1)) q = (hitN (ns.take k) q || hitB n.2.2 q) := by
  obtain ⟨hk, rfl⟩ := List.getElem?_eq_some_iff.1 h
  unfold hitN
  rw [List.take_succ_eq_append_getElem hk, List.any_append]
  simp

set_option maxRecDepth 100000 in
set_option maxHeartbeats 1000000 in
theorem tree1_none (B : Nat) (a : Option Addr) (c : Nat) (w0 : World) (hB : B < w0.heap.size) (hc : w0.cell? ⟨B, 0, none⟩ = some (.slice a 0 c)) :
    Searches 67 #[.pointer (some ⟨B, 0, none⟩)] (hitN []) w0 := by
  intro w m keys hb _ hf
  have hcw := (hb.cell (p := ⟨B, 0, none⟩) hB).trans hc
  have HF := hide hf
  clear hf hb
  show Calls Tryz.prog 67 #[.map (some m), .pointer (some ⟨B, 0, none⟩)] w _
  go_enter Tryz.func67, Tryz.ntmps67
  go_wp2
  go_loop [7] (fun i => i = .int .i64 0) (fun _ => 0)
  case atStart => rfl
  case round =>
    subst hrel
    go_wp2
    go_end0
    obtain ⟨f, h1, h2⟩ := HF.out
    exact ⟨rfl, ⟨f, h1, 0, h2.more (fun q => rfl) (Nat.le_refl _)⟩, grown_refl _ _⟩
set_option maxRecDepth 100000 in
set_option maxHeartbeats 1000000 in
theorem tree1_some (B b o c n : Nat) (ns : List Nd) (w0 : World) (hB : B < w0.heap.size) (hn : ns.length = n) (hl : n < 900000) (hz : ∀ x ∈ ns, x.2.2.size < 1000000) (hc : w0.cell? ⟨B, 0, none⟩ = some (.slice (some ⟨b, o, none⟩) n c)) (hr : Run w0 b o ns) :
    Searches 67 #[.pointer (some ⟨B, 0, none⟩)] (hitN ns) w0 := by
  intro w m keys hb hm hf
  have hcw := (hb.cell (p := ⟨B, 0, none⟩) hB).trans hc
  have HR := hide (hr.below hb hr.1)
  have hbm : b < m := Nat.lt_of_lt_of_le hr.1 hm
  have HF := hide hf
  have HN := hide hn
  have HZ := hide hz
  clear hf hb hn hz hr
  show Calls Tryz.prog 67 #[.map (some m), .pointer (some ⟨B, 0, none⟩)] w _
  go_enter Tryz.func67, Tryz.ntmps67
  go_wp2
  go_loopw [7] (fun i wr => ∃ k : Nat, k ≤ n ∧ i = .int .i64 k ∧ Hid (∃ f, MapF wr m f ∧ Tal keys (hitN (ns.take k)) (k * 1000000) f) ∧ Hid (w.grownBy wr (some m))) (fun i _ => n - (intOf i).toNat)
  case atStart =>
    obtain ⟨f, h1, h2⟩ := HF.out
    exact ⟨0, Nat.zero_le _, rfl, ⟨f, h1, h2.more (fun q => rfl) (by omega)⟩, grown_refl _ _⟩
  case round =>
    obtain ⟨k, hk, rfl, hex, hgr⟩ := hrel
    by_cases hlt : k < n
    · obtain ⟨x, hx⟩ : ∃ x, ns[k]? = some x := ⟨ns[k]'(by have := HN.out; omega), List.getElem?_eq_some_iff.2 ⟨_, rfl⟩⟩
      obtain ⟨g1, g2, g3⟩ := (HR.out.grown hgr.out (fun e => by cases e; omega)).2 k x hx
      have hki : (k : Int) < (n : Int) := by omega
      have HX := hide hx
      have hxz := HZ.out x (List.mem_of_getElem? hx)
      have hbw : b < wr.heap.size := by have := hgr.out.size; have := HR.out.1; omega
      have HM : Hid (∃ f, MapF (wr.alloc (.cells #[.string x.1, .int .i64 x.2.1, .string x.2.2] 62)) m f ∧ Tal keys (hitN (ns.take k)) (k * 1000000) f) := by
        obtain ⟨f, h1, h2⟩ := hex.out
        exact ⟨f, h1.below (below_box _ _), h2⟩
      have hm1 : k * 1000000 < 1000000000000 := by omega
      clear hx hex
      go_wp2_with fail
      refine (meet_ok m (k * 1000000) x.2.2 keys (hitN (ns.take k)) _ hxz hm1 HM.out).mono ?_
      rintro e w1 ⟨rfl, hf1, hg1⟩
      have HF1 := hide hf1
      have HG1 := hide (grown_trans hgr.out (grown_trans (grown_box _ _ _) hg1))
      clear hf1 hg1 g1 g2 g3 HM
      go_wp2
      go_roundw
      case rel =>
        obtain ⟨f, h1, h2⟩ := HF1.out
        exact ⟨k + 1, by omega, by go_num, ⟨f, h1, h2.more (fun q => by rw [metB_whole, hitN_step HX.out]) (by omega)⟩, HG1⟩
      case measure => simp [intOf]; omega
    · have hki : (n : Int) ≤ (k : Int) := by omega
      have HK : Hid (k = n) := by show k = n; omega
      go_wp2
      go_end0
      obtain ⟨f, h1, h2⟩ := hex.out
      refine ⟨rfl, ⟨f, h1, k * 1000000, ?_⟩, hgr.out⟩
      have e : ns.take k = ns := by rw [HK.out, ← HN.out, List.take_length]
      rw [e] at h2
      exact h2
theorem tree1_ok (B : Nat) (v : Value) (ns : List Nd) (w0 : World) (hB : B < w0.heap.size) (hl : ns.length < 900000) (hz : ∀ x ∈ ns, x.2.2.size < 1000000) (hc : w0.cell? ⟨B, 0, none⟩ = some v) (hv : Nods w0 v ns) :
    Searches 67 #[.pointer (some ⟨B, 0, none⟩)] (hitN ns) w0 := by
  rcases hv with ⟨rfl, a, c, rfl⟩ | ⟨b, o, c, rfl, _, hr⟩
  · exact tree1_none B a c w0 hB hc
  · exact tree1_some B b o c ns.length ns w0 hB rfl hl hz hc hr
end Go.Proofs.YtinjbijigjfdfaaGreatDoor
/- slices.Sort and slices.Compact at texts of one's own. -/
namespace Go.Proofs.YtinjbijigjfdfaaGreatDoor
open Go.RowKit

theorem enc_mk (l : List UInt8) : encStr l = .string (Hog.mk l) := rfl
theorem enc_texts (xs : List ByteArray) : xs.map Value.string = (xs.map fun x => x.data.toList).map encStr := by
  rw [List.map_map]
  refine List.map_congr_left fun x _ => ?_
  show Value.string x = .string (Hog.mk x.data.toList)
  rw [Hog.data_mk]
theorem enc_lists (ss : List (List UInt8)) : ss.map encStr = (ss.map Hog.mk).map Value.string := by rw [List.map_map]; rfl
/-- The texts, as lists of bytes. -/
def plainT (xs : List ByteArray) : List (List UInt8) := xs.map fun x => x.data.toList
theorem plain_mk (ss : List (List UInt8)) : plainT (ss.map Hog.mk) = ss := by
  unfold plainT
  rw [List.map_map]
  have : (fun x : ByteArray => x.data.toList) ∘ Hog.mk = id := by funext l; exact Hog.mk_data l
  rw [this, List.map_id]
theorem mk_plain (xs : List ByteArray) : (plainT xs).map Hog.mk = xs := by
  unfold plainT
  rw [List.map_map]
  have : Hog.mk ∘ (fun x : ByteArray => x.data.toList) = id := by funext l; exact Hog.data_mk l
  rw [this, List.map_id]
def sortedL (ss : List (List UInt8)) : List (List UInt8) := ss.mergeSort fun x y => decide (x ≤ y)
theorem sortedL_len (ss : List (List UInt8)) : (sortedL ss).length = ss.length := List.length_mergeSort ss

theorem sortT_ok (v : Value) (xs ys : List ByteArray) (base : Nat) (w : World) (h : Own base w v xs) (hl : xs.length < 1000000) (hy : (sortedL (plainT xs)).map Hog.mk = ys) :
    Calls Tryz.prog 25 #[v] w fun e w' => e = .returned (.tuple #[]) ∧ Own base w' v ys ∧ w.grownBy w' v.ownBlock := by
  have hlen : (plainT xs).length = xs.length := by simp [plainT]
  rcases id h.2 with ⟨rfl, h0⟩ | ⟨g, cap, cur, rfl, hbase, hb, h1, h2, h3, h4⟩
  · refine (Tryz.slices_Sort_string_none none 0 w).mono ?_
    rintro e w' ⟨rfl, rfl⟩
    have hx : xs = [] := List.eq_nil_of_length_eq_zero h0
    subst hx
    have : ys = [] := by rw [← hy]; simp [sortedL, plainT]
    subst this
    exact ⟨rfl, h, grown_refl _ _⟩
  · rw [Nat.mul_one, enc_texts] at h4
    have hH := holds_of_block (ss := plainT xs) hb (by rw [hlen]; exact h4)
    have hc := Tryz.slices_Sort_string g 0 cap (plainT xs) w hH (Array.getElem?_eq_some_iff.1 hb).1 (by rw [hlen]; omega)
    rw [hlen] at hc
    refine hc.mono ?_
    rintro e w' ⟨rfl, n, os, rfl⟩
    refine ⟨rfl, ?_, grownBy_sorted _⟩
    have hs := ownsRow_sorted (n := n) (os := os) (ss := plainT xs) (ts := sortedL (plainT xs)) (sortedL_len _) hbase hb (by rw [hlen]; exact h1) h2 h3
    rw [hlen, enc_lists, hy] at hs
    have hyl : ys.length = xs.length := by rw [← hy, List.length_map, sortedL_len, hlen]
    unfold Own
    rw [hyl]
    exact hs
theorem compactT_ok (v : Value) (xs ys : List ByteArray) (base : Nat) (w : World) (h : Own base w v xs) (hl : xs.length < 1000000) (hy : (Lib.compact (plainT xs)).map Hog.mk = ys) :
    Calls Tryz.prog 81 #[v] w fun e w' => ∃ a c, e = .returned (.slice a ys.length c) ∧ Own base w' (.slice a ys.length c) ys ∧ w.grownBy w' v.ownBlock := by
  have hlen : (plainT xs).length = xs.length := by simp [plainT]
  rcases id h.2 with ⟨rfl, h0⟩ | ⟨g, cap, cur, rfl, hbase, hb, h1, h2, h3, h4⟩
  · refine (Tryz.slices_Compact_string_empty none 0 w).mono ?_
    rintro e w' ⟨rfl, rfl⟩
    have hx : xs = [] := List.eq_nil_of_length_eq_zero h0
    subst hx
    have : ys = [] := by rw [← hy]; rfl
    subst this
    exact ⟨none, 0, rfl, h, grown_refl _ _⟩
  · rw [Nat.mul_one, enc_texts] at h4
    have hH := holds_of_block (ss := plainT xs) hb (by rw [hlen]; exact h4)
    have hc := Tryz.slices_Compact_string g 0 cap (plainT xs) w hH (by rw [hlen]; omega) (by rw [hlen]; exact h1)
    rw [hlen] at hc
    have hle := Lib.compact_length_le (plainT xs)
    have hyl : ys.length = (Lib.compact (plainT xs)).length := by rw [← hy, List.length_map]
    refine hc.mono ?_
    rintro e w' ⟨rfl, q, rfl⟩
    have h5 : w.ownsRow base 9 1 (.slice (some ⟨g, 0, none⟩) xs.length cap) xs.length ((plainT xs).map encStr) := by
      have := h
      unfold Own at this
      rw [enc_texts] at this
      exact this
    have hk := Lib.ownsRow_putRow (q := q) (k := (Lib.compact (plainT xs)).length) (ys := Lib.compact (plainT xs) ++ List.replicate (xs.length - (Lib.compact (plainT xs)).length) []) h5 (by simp; omega) (by omega)
    rw [List.take_left, enc_lists, hy] at hk
    refine ⟨some ⟨g, 0, none⟩, cap, by rw [hyl], by unfold Own; rw [hyl]; exact hk, ?_⟩
    have := grownBy_sorted (w := w) (g := g) (n := q) (os := #[]) (Lib.compact (plainT xs) ++ List.replicate (xs.length - (Lib.compact (plainT xs)).length) []).toArray
    rwa [Sort.grow_empty] at this
end Go.Proofs.YtinjbijigjfdfaaGreatDoor
/- The walks of package scan: standing. -/
namespace Go.Proofs.YtinjbijigjfdfaaGreatDoor
open Go.RowKit

/-- A name's hash, as a text. -/
def hashT (x : ByteArray) : ByteArray := Hog.mk (Hog.hashL x.data.toList)
/-- The hashes that are sought. -/
def keysOf (xs : List ByteArray) (q : ByteArray) : Bool := xs.any fun x => decide (hashT x = q)
theorem keys_step {xs : List ByteArray} {k : Nat} {x : ByteArray} (h : xs[k]? = some x) (q : ByteArray) : keysOf (xs.take (k + 1)) q = (keysOf (xs.take k) q || decide (hashT x = q)) := by
  obtain ⟨hk, rfl⟩ := List.getElem?_eq_some_iff.1 h
  unfold keysOf
  rw [List.take_succ_eq_append_getElem hk, List.any_append]
  simp
theorem tal_start : Tal (keysOf []) (fun _ => false) 0 (fun _ => none) := ⟨fun q h => by simp [keysOf] at h, fun _ _ => rfl⟩
theorem Tal.key {keys keys' : ByteArray → Bool} {f : ByteArray → Option Int} {p : ByteArray} (h : Tal keys (fun _ => false) 0 f) (hs : ∀ q, keys' q = (keys q || decide (p = q))) : Tal keys' (fun _ => false) 0 (putF f p 0) := by
  refine ⟨fun q hq => ?_, fun q hq => ?_⟩
  · by_cases e : q = p
    · exact ⟨0, by unfold putF; rw [if_pos e]; rfl, Nat.le_refl _, by simp⟩
    · rw [hs, decide_eq_false (fun e2 => e e2.symm), Bool.or_false] at hq
      obtain ⟨z, h1, h2, h3⟩ := h.yes q hq
      exact ⟨z, by unfold putF; rw [if_neg e]; exact h1, h2, h3⟩
  · rw [hs, Bool.or_eq_false_iff] at hq
    have e : ¬ q = p := fun e => by rw [e] at hq; simp at hq
    unfold putF
    rw [if_neg e]
    exact h.no q hq.1
/-- The names whose hash was seen. -/
def seenT (act : ByteArray → Bool) (xs : List ByteArray) : List ByteArray := xs.filter fun x => act (hashT x)
theorem seen_step {act : ByteArray → Bool} {xs : List ByteArray} {k : Nat} {x : ByteArray} (h : xs[k]? = some x) : seenT act (xs.take (k + 1)) = seenT act (xs.take k) ++ if act (hashT x) = true then [x] else [] := by
  obtain ⟨hk, rfl⟩ := List.getElem?_eq_some_iff.1 h
  unfold seenT
  rw [List.take_succ_eq_append_getElem hk, List.filter_append, List.filter_cons]
  simp
theorem seen_len (act : ByteArray → Bool) (xs : List ByteArray) (k : Nat) : (seenT act (xs.take k)).length ≤ k := Nat.le_trans (List.length_filter_le _ _) (List.length_take_le _ _)
/-- What is told: the names whose hash was seen, sorted, each once. -/
def toldT (act : ByteArray → Bool) (xs : List ByteArray) : List ByteArray := (Hog.pickT (plainT (seenT act xs))).map Hog.mk

theorem MapF.grown {w w' : World} {m : Nat} {f : ByteArray → Option Int} {row : Option Nat} (h : MapF w m f) (hg : w.grownBy w' row) (hr : some m ≠ row) : MapF w' m f := h.same (hg.block m h.lt hr)
theorem row_not_map {base : Nat} {w : World} {v : Value} {xs : List ByteArray} {m : Nat} {f : ByteArray → Option Int} (h : Own base w v xs) (hm : MapF w m f) : some m ≠ v.ownBlock := by
  obtain ⟨es, c, h1, _⟩ := hm.ex
  rcases h.2 with ⟨rfl, _⟩ | ⟨g, cap, cur, rfl, _, hg, _⟩
  · simp [Value.ownBlock]
  · intro e
    obtain rfl : m = g := by simpa [Value.ownBlock] using e
    rw [h1] at hg
    cases hg

theorem wpList_append_one {w : World} {ops : Array Oper} {rest : List Oper} {o : Oper} {a : Act} {Q : Exit → Act → World → Prop} (hgd : o.guard = none) (s x : Operand)
    (ho : o.op = .call { callee := .builtin .append, args := #[s, x], argTypes := #[23, 23] })
    (base : Nat) (v : Value) (xs : List ByteArray) (hs : a.eval s = v) (hown : Own base w v xs) (ad : Addr) (y : ByteArray) (hx : a.eval x = .slice (some ad) 1 1) (hu : Arg w (some ad) 1 1 [y])
    (q : Nat) (hq : xs.length = q) (zs : List ByteArray) (hz : xs ++ [y] = zs) (hlen : q < 999999) (hbase : base ≤ w.heap.size)
    (h : ∀ b c w', Own base w' (.slice b (q + 1) c) zs → w.grownBy w' v.ownBlock → wpList Tryz.prog ops Q rest (a.put o.dst (.slice b (q + 1) c)) w') : wpList Tryz.prog ops Q (o :: rest) a w := by
  subst hz
  refine wpList_append_whereT hgd s x ho base v xs hs hown ad 1 1 [y] hx hu (by simp; omega) hbase ?_
  intro b c w' h1 h2 _
  rw [hq] at h1 ⊢
  exact h b c w' h1 h2

end Go.Proofs.YtinjbijigjfdfaaGreatDoor
/- The walks of package scan: standing, over either search; Text, Tree. -/
namespace Go.Proofs.YtinjbijigjfdfaaGreatDoor
open Go.RowKit

set_option maxRecDepth 100000 in
set_option maxHeartbeats 2000000 in
theorem standingT_ok (B b o c n : Nat) (xs R : List ByteArray) (act : ByteArray → Bool) (w : World) (hn : xs.length = n) (hl : n < 900000) (hz : ∀ x ∈ xs, x.size ≤ maxLen) (hb : b < w.heap.size)
    (hx : ∀ (j : Nat) x, xs[j]? = some x → w.cell? ⟨b, o + j, none⟩ = some (.string x)) (hS : Searches 67 #[.pointer (some ⟨B, 0, none⟩)] act w) (hR : toldT act xs = R) :
    Calls Tryz.prog 66 #[.slice (some ⟨b, o, none⟩) n c, .func (.func 67) #[] #[.pointer (some ⟨B, 0, none⟩)]] w fun e w' => ∃ a c', e = .returned (.slice a R.length c') ∧ Own w.heap.size w' (.slice a R.length c') R ∧ Below w.heap.size w w' := by
  have HX := hide hx
  have HN := hide hn
  have HZ := hide hz
  have HS := hide hS
  have HR := hide hR
  clear hx hn hz hS hR
  have hmm := @run_makeMap Tryz.prog
  go_enter Tryz.func66, Tryz.ntmps66
  go_wp2
  clear hmm
  go_loopw [14] (fun i wr => ∃ k : Nat, k ≤ n ∧ i = .int .i64 k ∧ Hid (∃ f, MapF wr w.heap.size f ∧ Tal (keysOf (xs.take k)) (fun _ => false) 0 f) ∧ Hid (Below w.heap.size w wr)) (fun i _ => n - (intOf i).toNat)
  case atStart => exact ⟨0, Nat.zero_le _, rfl, ⟨_, MapF.made w, tal_start⟩, below_box _ _⟩
  case round =>
    obtain ⟨k, hk, rfl, hex, hbl⟩ := hrel
    by_cases hlt : k < n
    · obtain ⟨x, hx⟩ : ∃ x, xs[k]? = some x := ⟨xs[k]'(by have := HN.out; omega), List.getElem?_eq_some_iff.2 ⟨_, rfl⟩⟩
      have hcell := (hbl.out.cell (p := ⟨b, o + k, none⟩) hb).trans (HX.out k x hx)
      have hki : (k : Int) < (n : Int) := by omega
      have hxz := HZ.out x (List.mem_of_getElem? hx)
      have HXK := hide hx
      clear hx
      go_wp2_with fail
      refine (hash_ok x (hashT x) wr (by unfold maxLen at hxz; omega) rfl).mono ?_
      rintro e w1 ⟨rfl, hb1⟩
      obtain ⟨f, hf1, hf2⟩ := hex.out
      have HM := hide (hf1.below hb1)
      have HT := hide hf2
      have HB1 := hide (below_two hbl.out hb1)
      clear hb1 hf1 hf2 hcell
      go_wp2_with (at_mapUpdate; refine wpList_putF rfl _ _ _ rfl w.heap.size f rfl HM.out (hashT x) rfl 0 rfl ?_; intro w2 hm2 hg2; have HM2 := hide hm2; have HB2 := hide (HB1.out.grown hg2 HB1.out.size (fun j e => by cases e; exact Nat.le_refl _)); clear hm2 hg2)
      go_roundw
      case rel => exact ⟨k + 1, by omega, by go_num, ⟨_, HM2.out, HT.out.key (keys_step HXK.out)⟩, HB2⟩
      case measure => simp [intOf]; omega
    · have hki : (n : Int) ≤ (k : Int) := by omega
      have HF : Hid (∃ f, MapF wr w.heap.size f ∧ Tal (keysOf xs) (fun _ => false) 0 f) := by
        obtain ⟨f, h1, h2⟩ := hex.out
        refine ⟨f, h1, ?_⟩
        have e : xs.take k = xs := by rw [show k = xs.length by have := HN.out; omega, List.take_length]
        rw [e] at h2
        exact h2
      have HCS := hide (HS.out wr w.heap.size (keysOf xs) hbl.out (Nat.le_refl _) HF.out)
      clear hex HF
      go_wp2_with fail
      refine HCS.out.mono ?_
      rintro e w3 ⟨rfl, hf3, hg3⟩
      have HF3 := hide hf3
      have HB3 := hide (hbl.out.grown hg3 hbl.out.size (fun j e => by cases e; exact Nat.le_refl _))
      clear hf3 hg3 HCS hki hlt hk
      go_wp2
      go_loopw [8, 27] (fun v i wr => ∃ (k q : Nat) (a : Option Addr) (c2 : Nat), k ≤ n ∧ q ≤ k ∧ v = .slice a q c2 ∧ i = .int .i64 k ∧ Hid ((seenT act (xs.take k)).length = q) ∧ Hid (Own w.heap.size wr (.slice a q c2) (seenT act (xs.take k))) ∧ Hid (∃ f, MapF wr w.heap.size f ∧ ∃ d, Tal (keysOf xs) act d f) ∧ Hid (Below w.heap.size w wr)) (fun _ i _ => n - (intOf i).toNat)
      case atStart => exact ⟨0, 0, none, 0, Nat.zero_le _, Nat.le_refl _, rfl, rfl, rfl, Own.nil _ _, HF3, HB3⟩
      case round =>
        obtain ⟨k, q, a, c2, hk, hq, rfl, rfl, hlen, hown, hex, hbl⟩ := hrel
        by_cases hlt : k < n
        · obtain ⟨x, hx⟩ : ∃ x, xs[k]? = some x := ⟨xs[k]'(by have := HN.out; omega), List.getElem?_eq_some_iff.2 ⟨_, rfl⟩⟩
          have hcell := (hbl.out.cell (p := ⟨b, o + k, none⟩) hb).trans (HX.out k x hx)
          have hki : (k : Int) < (n : Int) := by omega
          have hxz := HZ.out x (List.mem_of_getElem? hx)
          have HXK := hide hx
          have HKEY : Hid (keysOf xs (hashT x) = true) := List.any_eq_true.2 ⟨x, List.mem_of_getElem? hx, by simp⟩
          clear hx
          go_wp2_with fail
          refine (hash_ok x (hashT x) wr (by unfold maxLen at hxz; omega) rfl).mono ?_
          rintro e w4 ⟨rfl, hb4⟩
          obtain ⟨f, hf1, d, hf2⟩ := hex.out
          obtain ⟨z, hz1, _, hz3⟩ := hf2.yes _ HKEY.out
          have HM := hide (hf1.below hb4)
          have HT := hide hf2
          have HB4 := hide (below_two hbl.out hb4)
          have HO4 := hide (hown.out.below hb4)
          have HZ3 := hide hz3
          have hat : Hid (atF f (hashT x) = (z : Int)) := by unfold atF; rw [hz1]; exact hide rfl
          have hw4 : w.heap.size ≤ w4.heap.size := HB4.out.size
          clear hb4 hf1 hf2 hcell hz1 hz3 hbl hown hex
          cases hact : act (hashT x) with
          | false =>
            have hzp : (z : Int) ≤ 0 := by
              have h1 := HZ3.out
              rw [hact] at h1
              simp at h1
              omega
            have HST : Hid (seenT act (xs.take (k + 1)) = seenT act (xs.take k)) := by
              have h1 := seen_step (act := act) HXK.out
              rw [hact, if_neg (by decide), List.append_nil] at h1
              exact h1
            clear hact
            go_wp2_with (at_lookup; refine wpList_getF rfl _ _ rfl w.heap.size f rfl HM.out (hashT x) rfl (z : Int) hat.out ?_)
            go_roundw
            case rel => exact ⟨k + 1, q, a, c2, by omega, by omega, rfl, by go_num, by rw [HST.out]; exact hlen, by rw [HST.out]; exact HO4, ⟨f, HM.out, d, HT.out⟩, HB4⟩
            case measure => simp [intOf]; omega
          | true =>
            have hzp : (0 : Int) < (z : Int) := by
              have h1 := HZ3.out
              rw [hact] at h1
              simp at h1
              omega
            have HST : Hid (seenT act (xs.take k) ++ [x] = seenT act (xs.take (k + 1))) := by
              have h1 := seen_step (act := act) HXK.out
              rw [hact, if_pos rfl] at h1
              exact h1.symm
            have HA5 := hide (arg_one w4 x)
            have HO5 := hide (HO4.out.alloc (.cells #[.string x] 9))
            clear hact
            go_wp2_with (first
              | (at_lookup; refine wpList_getF rfl _ _ rfl w.heap.size f rfl HM.out (hashT x) rfl (z : Int) hat.out ?_)
              | (at_builtin; refine wpList_append_one rfl _ _ rfl w.heap.size _ _ rfl HO5.out ⟨w4.heap.size, 0, none⟩ x rfl HA5.out q hlen.out _ HST.out ?c1 ?c2 ?_)
              | go_in)
            case c1 => omega
            case c2 => simp; omega
            intro b5 c5 w5 ho5 hg5
            have HM5 : Hid (MapF w5 w.heap.size f) := (HM.out.below (below_box w4 (.cells #[.string x] 9))).grown hg5 (row_not_map HO5.out (HM.out.below (below_box w4 _)))
            have HB5 : Hid (Below w.heap.size w w5) := (HB4.out.trans ((below_box w4 (.cells #[.string x] 9)).mono hw4)).trans (Own.grownBelow HO5.out hg5 (by simp; omega))
            have HO6 := hide ho5
            have HL6 : Hid ((seenT act (xs.take (k + 1))).length = q + 1) := by rw [← HST.out, List.length_append, hlen.out]; exact hide rfl
            clear ho5 hg5 HO5 HA5 HM HB4
            go_wp2
            go_roundw
            case rel => exact ⟨k + 1, q + 1, b5, c5, by omega, by omega, rfl, by go_num, HL6, HO6, ⟨f, HM5.out, d, HT.out⟩, HB5⟩
            case measure => simp [intOf]; omega
        · have hki : (n : Int) ≤ (k : Int) := by omega
          have HALL : Hid (xs.take k = xs) := by rw [show k = xs.length by have := HN.out; omega]; exact List.take_length
          rw [HALL.out] at hlen hown
          have hq9 : q < 1000000 := by omega
          clear hex HF3 HALL
          go_wp2_with fail
          refine (sortT_ok _ (seenT act xs) _ w.heap.size wr hown.out (by rw [hlen.out]; exact hq9) rfl).mono ?_
          rintro e w4 ⟨rfl, ho4, hg4⟩
          have HB4 := hide (hbl.out.trans (Own.grownBelow hown.out hg4 hbl.out.size))
          have HO4 := hide ho4
          have HL4 : Hid (((sortedL (plainT (seenT act xs))).map Hog.mk).length < 1000000) := by
            show _ < _
            rw [List.length_map, sortedL_len]
            unfold plainT
            rw [List.length_map, hlen.out]
            exact hq9
          clear ho4 hg4 hown
          go_wp2_with fail
          refine (compactT_ok _ _ R w.heap.size w4 HO4.out HL4.out ?_).mono ?_
          · rw [plain_mk, ← HR.out]
            rfl
          rintro e w5 ⟨a5, c5, rfl, ho5, hg5⟩
          have HB5 := hide (HB4.out.trans (Own.grownBelow HO4.out hg5 HB4.out.size))
          have HO5 := hide ho5
          clear ho5 hg5 HO4 HB4
          go_wp2
          go_ret
          exact ⟨a5, c5, rfl, HO5.out, HB5.out⟩

set_option maxRecDepth 100000 in
set_option maxHeartbeats 1000000 in
theorem standingT_none (B : Nat) (a : Option Addr) (c : Nat) (act : ByteArray → Bool) (w : World) (hS : Searches 67 #[.pointer (some ⟨B, 0, none⟩)] act w) :
    Calls Tryz.prog 66 #[.slice a 0 c, .func (.func 67) #[] #[.pointer (some ⟨B, 0, none⟩)]] w fun e w' => ∃ a' c', e = .returned (.slice a' 0 c') ∧ Own w.heap.size w' (.slice a' 0 c') [] ∧ Below w.heap.size w w' := by
  have HCS := hide (hS (w.alloc (.map #[] 0)) w.heap.size (keysOf []) (below_box _ _) (Nat.le_refl _) ⟨_, MapF.made w, tal_start⟩)
  have hmm := @run_makeMap Tryz.prog
  clear hS
  go_enter Tryz.func66, Tryz.ntmps66
  go_wp2
  clear hmm
  go_loopw [14] (fun i wr => i = .int .i64 0 ∧ Hid (wr = w.alloc (.map #[] 0))) (fun _ _ => 0)
  case atStart => exact ⟨rfl, rfl⟩
  case round =>
    obtain ⟨rfl, hwr⟩ := hrel
    go_wp2_with fail
    have HC2 := HCS
    rw [← hwr.out] at HC2
    refine HC2.out.mono ?_
    rintro e w3 ⟨rfl, _, hg3⟩
    have HB3 : Hid (Below w.heap.size w w3) := by
      rw [hwr.out] at hg3
      exact (below_box w _).grown hg3 (by simp) (fun j e => by cases e; exact Nat.le_refl _)
    clear hg3 HC2
    go_wp2
    go_loopw [8, 27] (fun v i wr => v = .slice none 0 0 ∧ i = .int .i64 0 ∧ Hid (wr = w3)) (fun _ _ _ => 0)
    case atStart => exact ⟨rfl, rfl, rfl⟩
    case round =>
      obtain ⟨rfl, rfl, hw3⟩ := hrel
      go_wp2_with fail
      refine (sortT_ok (.slice none 0 0) [] [] w.heap.size wr (Own.nil _ _) (by simp) (by simp [sortedL, plainT])).mono ?_
      rintro e w4 ⟨rfl, ho4, hg4⟩
      have HB4 : Hid (Below w.heap.size w w4) := by
        have h := HB3.out
        rw [← hw3.out] at h
        exact h.grown hg4 h.size (fun j e => by cases e)
      have HO4 := hide ho4
      clear ho4 hg4
      go_wp2_with fail
      refine (compactT_ok (.slice none 0 0) [] [] w.heap.size w4 HO4.out (by simp) rfl).mono ?_
      rintro e w5 ⟨a5, c5, rfl, ho5, hg5⟩
      have HB5 := hide (HB4.out.grown hg5 HB4.out.size (fun j e => by cases e))
      have HO5 := hide ho5
      clear ho5 hg5 HO4 HB4
      go_wp2
      go_ret
      exact ⟨a5, c5, rfl, HO5.out, HB5.out⟩

theorem told_nil (act : ByteArray → Bool) : toldT act [] = [] := by unfold toldT seenT plainT; rw [List.filter_nil, List.map_nil, Hog.pick_nil]; rfl
theorem standingT_all (B : Nat) (v : Value) (xs R : List ByteArray) (act : ByteArray → Bool) (w : World) (hv : Txt w v xs) (hl : xs.length < 900000) (hz : ∀ x ∈ xs, x.size ≤ maxLen) (hS : Searches 67 #[.pointer (some ⟨B, 0, none⟩)] act w) (hR : toldT act xs = R) :
    Calls Tryz.prog 66 #[v, .func (.func 67) #[] #[.pointer (some ⟨B, 0, none⟩)]] w fun e w' => ∃ a c', e = .returned (.slice a R.length c') ∧ Own w.heap.size w' (.slice a R.length c') R ∧ Below w.heap.size w w' := by
  rcases hv with ⟨rfl, a, c, rfl⟩ | ⟨b, o, c, rfl, _, hb, hcell⟩
  · rw [told_nil] at hR
    subst hR
    exact standingT_none B a c act w hS
  · exact standingT_ok B b o c xs.length xs R act w rfl hl hz hb hcell hS hR

set_option maxHeartbeats 400000 in
theorem tree_ok (u : Value) (ns : List Nd) (v : Value) (xs R : List ByteArray) (w : World) (hu : Nods w u ns) (hn : ns.length < 900000) (hd : ∀ x ∈ ns, x.2.2.size < 1000000) (hv : Txt w v xs) (hl : xs.length < 900000) (hz : ∀ x ∈ xs, x.size ≤ maxLen) (hR : toldT (hitN ns) xs = R) :
    Calls Tryz.prog 47 #[u, v] w fun e w' => ∃ a c', e = .returned (.slice a R.length c') ∧ Own w.heap.size w' (.slice a R.length c') R ∧ Below w.heap.size w w' := by
  have HB := hide (below_box w (.cells #[u] 27))
  have HC := hide (standingT_all w.heap.size v xs R (hitN ns) (w.alloc (.cells #[u] 27)) (hv.below HB.out) hl hz (tree1_ok w.heap.size u ns _ (by simp) hn hd (by simp) (hu.below HB.out)) hR)
  obtain ⟨av, cv, rfl⟩ := hv.form
  obtain ⟨au, cu, rfl⟩ := hu.form
  clear hv hz hR hu hd
  go_enter Tryz.func47, Tryz.ntmps47
  go_wp2_with fail
  refine HC.out.mono ?_
  rintro e w1 ⟨a, c, rfl, ho, hb⟩
  have HO : Hid (Own w.heap.size w1 (.slice a R.length c) R) := ho.base (by simp)
  have HB1 := hide (below_two HB.out hb)
  clear ho hb HC
  go_wp2
  go_ret
  exact ⟨a, c, rfl, HO.out, HB1.out⟩
end Go.Proofs.YtinjbijigjfdfaaGreatDoor
