/- A map from texts to numbers at its plain type: what is found in it, what a store leaves, what a delete leaves. -/
import Derived.Test.YticpljjbnfimkaaJ11
import Derived.Test.YticpljjbnfimkaaJ7
namespace Go.Proofs.Yticpljjbnfimkaa
open Go.RowKit

theorem mapG_look {w : World} {m : Nat} {f : ByteArray → Option Int} (h : MapF w m f) (p : ByteArray) (c : Bool) :
    (Instr.lookup 51 (.map (some m)) (.string p) c).run Try.prog w = .ok (if c then .tuple #[.int .i64 (atF f p), .bool (f p).isSome] else .int .i64 (atF f p)) w := by
  obtain ⟨es, clock, hb, h1, h2, _⟩ := h.ex
  rcases MapKept.findNow_spec (key_is p) es.toList 0 (fun x hx => by
    obtain ⟨i, hi⟩ := List.getElem?_of_mem hx
    obtain ⟨k, z, hk, _⟩ := h1 i x hi
    rw [hk]; exact key_is k) with ⟨k1, k2⟩ | ⟨j, e, k1, k2, k3⟩
  · have hf : f p = none := by
      cases hf : f p with
      | none => rfl
      | some z =>
        obtain ⟨i, e, hi, he⟩ := h2 p z hf
        exact absurd he (k2 e (List.mem_of_getElem? hi))
    simp [Instr.lookup, run_underlying Try.underlying51, MapKept.run_getObj_map hb, MapKept.run_checkKey Try.underlying9 (key_is p), MapKept.run_findKey Try.underlying9 k1, atF, hf, Result.andThen]
  · obtain ⟨k, z, hk, hv, hf⟩ := h1 j e k2
    rw [k3] at hk
    cases hk
    rw [hv] at k1
    simp [Instr.lookup, run_underlying Try.underlying51, MapKept.run_getObj_map hb, MapKept.run_checkKey Try.underlying9 (key_is p), MapKept.run_findKey Try.underlying9 k1, atF, hf, Result.andThen]

theorem mapG_store {w : World} {m : Nat} {f : ByteArray → Option Int} (h : MapF w m f) (p : ByteArray) (z : Int) :
    ∃ w', (Instr.mapUpdate 51 (.map (some m)) (.string p) (.int .i64 z)).run Try.prog w = .ok () w' ∧ MapF w' m (putF f p z) ∧ w.grownBy w' (some m) := by
  obtain ⟨es, clock, hb, h1, h2, h3⟩ := h.ex
  rcases MapKept.findNow_spec (key_is p) es.toList 0 (fun x hx => by
    obtain ⟨i, hi⟩ := List.getElem?_of_mem hx
    obtain ⟨k, z, hk, _⟩ := h1 i x hi
    rw [hk]; exact key_is k) with ⟨k1, k2⟩ | ⟨j, e, k1, k2, k3⟩
  · refine ⟨ChangeMaps.setBlock w m (.map (es.push ⟨.string p, .int .i64 z, clock⟩) (clock + 1)), ?_, ⟨_, _, ChangeMaps.heap_setBlock_same hb _, ?_, ?_, ?_⟩, ⟨rfl, rfl, rfl, by simp [ChangeMaps.setBlock], fun i _ hi => ChangeMaps.heap_setBlock_other hb _ (fun e => hi (by rw [e]))⟩⟩
    · simp [Instr.mapUpdate, run_underlying Try.underlying51, MapKept.run_getObj_map hb, MapKept.run_checkKey Try.underlying9 (key_is p), MapKept.run_findKey Try.underlying9 k1, MapKept.run_setObj_map _ hb, Result.andThen, ChangeMaps.setBlock]
    · intro i e hi
      rw [Array.toList_push] at hi
      by_cases hl : i < es.toList.length
      · rw [List.getElem?_append_left hl] at hi
        obtain ⟨k, y, hk, hv, hf⟩ := h1 i e hi
        refine ⟨k, y, hk, hv, ?_⟩
        unfold putF
        rw [if_neg (fun ek => k2 e (List.mem_of_getElem? hi) (by rw [hk, ek]))]
        exact hf
      · rw [List.getElem?_append_right (by omega)] at hi
        have hi0 : i - es.toList.length = 0 := by
          have := (List.getElem?_eq_some_iff.1 hi).1
          simpa using this
        rw [hi0] at hi
        simp at hi
        subst hi
        exact ⟨p, z, rfl, rfl, by unfold putF; rw [if_pos rfl]⟩
    · intro k y hf
      unfold putF at hf
      rw [Array.toList_push]
      by_cases ek : k = p
      · subst ek
        exact ⟨es.toList.length, _, by rw [List.getElem?_append_right (Nat.le_refl _)]; simp; rfl, rfl⟩
      · rw [if_neg ek] at hf
        obtain ⟨i, e, hi, he⟩ := h2 k y hf
        exact ⟨i, e, by rw [List.getElem?_append_left (List.getElem?_eq_some_iff.1 hi).1]; exact hi, he⟩
    · intro i j a b ha hbb hk
      rw [Array.toList_push] at ha hbb
      have key : ∀ (i : Nat) x, (es.toList ++ [⟨.string p, .int .i64 z, clock⟩])[i]? = some x → (es.toList[i]? = some x ∧ x.key ≠ .string p) ∨ (i = es.toList.length ∧ x.key = .string p) := fun i x hx => by
        by_cases hl : i < es.toList.length
        · rw [List.getElem?_append_left hl] at hx
          exact .inl ⟨hx, k2 x (List.mem_of_getElem? hx)⟩
        · rw [List.getElem?_append_right (by omega)] at hx
          have hi0 := (List.getElem?_eq_some_iff.1 hx).1
          simp at hi0
          have hes : es.toList.length = es.size := by simp
          refine .inr ⟨by omega, ?_⟩
          rw [show i - es.toList.length = 0 by omega] at hx
          simp at hx
          rw [← hx]
      rcases key i a ha with ⟨q1, q2⟩ | ⟨q1, q2⟩
      · rcases key j b hbb with ⟨r1, r2⟩ | ⟨r1, r2⟩
        · exact h3 i j a b q1 r1 hk
        · exact absurd (hk.trans r2) q2
      · rcases key j b hbb with ⟨r1, r2⟩ | ⟨r1, r2⟩
        · exact absurd (hk.symm.trans q2) r2
        · omega
  · have hj := (List.getElem?_eq_some_iff.1 k2).1
    have ekey : es[j]? = some e := by rw [← Array.getElem?_toList]; exact k2
    have get : ∀ (i : Nat), (es.modify j fun e => { e with key := .string p, val := .int .i64 z }).toList[i]? = if j = i then (es.toList[i]?).map (fun e => { e with key := .string p, val := .int .i64 z }) else es.toList[i]? := fun i => by
      rw [Array.getElem?_toList, Array.getElem?_modify, Array.getElem?_toList]
    refine ⟨ChangeMaps.setBlock w m (.map (es.modify j fun e => { e with key := .string p, val := .int .i64 z }) clock), ?_, ⟨_, _, ChangeMaps.heap_setBlock_same hb _, ?_, ?_, ?_⟩, ⟨rfl, rfl, rfl, by simp [ChangeMaps.setBlock], fun i _ hi => ChangeMaps.heap_setBlock_other hb _ (fun e => hi (by rw [e]))⟩⟩
    · simp [Instr.mapUpdate, run_underlying Try.underlying51, MapKept.run_getObj_map hb, MapKept.run_checkKey Try.underlying9 (key_is p), MapKept.run_findKey Try.underlying9 k1, MapKept.run_setObj_map _ hb, Result.andThen, ChangeMaps.setBlock, ekey, k3, Instr.keyThatStays, same_key]
    · intro i x hi
      rw [get i] at hi
      by_cases ej : j = i
      · subst ej
        rw [if_pos rfl, k2] at hi
        simp at hi
        subst hi
        exact ⟨p, z, rfl, rfl, by unfold putF; rw [if_pos rfl]⟩
      · rw [if_neg ej] at hi
        obtain ⟨k, y, hk, hv, hf⟩ := h1 i x hi
        refine ⟨k, y, hk, hv, ?_⟩
        unfold putF
        rw [if_neg (fun ek => ej (h3 j i e x k2 hi (by rw [k3, hk, ek])))]
        exact hf
    · intro k y hf
      unfold putF at hf
      by_cases ek : k = p
      · subst ek
        exact ⟨j, _, by rw [get j, if_pos rfl, k2]; rfl, rfl⟩
      · rw [if_neg ek] at hf
        obtain ⟨i, x, hi, he⟩ := h2 k y hf
        refine ⟨i, x, ?_, he⟩
        rw [get i, if_neg (fun ej => ek ?_)]
        · exact hi
        · subst ej
          rw [k2] at hi
          cases hi
          rw [k3] at he
          cases he
          rfl
    · intro i i' a b ha hbb hk
      have key : ∀ (i : Nat) x, (es.modify j fun e => { e with key := .string p, val := .int .i64 z }).toList[i]? = some x → ∃ y, es.toList[i]? = some y ∧ y.key = x.key := fun i x hx => by
        rw [get i] at hx
        by_cases ej : j = i
        · subst ej
          rw [if_pos rfl, k2] at hx
          simp at hx
          exact ⟨e, k2, by rw [k3, ← hx]⟩
        · rw [if_neg ej] at hx
          exact ⟨x, hx, rfl⟩
      obtain ⟨y, q1, q2⟩ := key i a ha
      obtain ⟨y', r1, r2⟩ := key i' b hbb
      exact h3 i i' y y' q1 r1 (by rw [q2, r2, hk])

/-- What a delete makes of it. -/
theorem mapG_delete {w : World} {m : Nat} {f : ByteArray → Option Int} (h : MapF w m f) (p : ByteArray) (ty : TypeId) :
    ∃ w', (Builtin.delete_ #[51, 9] ty #[.map (some m), .string p]).run Try.prog w = .ok (.tuple #[]) w' ∧ MapF w' m (Hog.delK f p) ∧ w.grownBy w' (some m) := by
  obtain ⟨es, clock, hb, h1, h2, h3⟩ := h.ex
  rcases MapKept.findNow_spec (key_is p) es.toList 0 (fun x hx => by
    obtain ⟨i, hi⟩ := List.getElem?_of_mem hx
    obtain ⟨k, z, hk, _⟩ := h1 i x hi
    rw [hk]; exact key_is k) with ⟨k1, k2⟩ | ⟨j, e, k1, k2, k3⟩
  · refine ⟨ChangeMaps.setBlock w m (.map es clock), ?_, ⟨_, _, ChangeMaps.heap_setBlock_same hb _, ?_, ?_, h3⟩, ⟨rfl, rfl, rfl, by simp [ChangeMaps.setBlock], fun i _ hi => ChangeMaps.heap_setBlock_other hb _ (fun e => hi (by rw [e]))⟩⟩
    · simp [Builtin.delete_, run_underlying Try.underlying51, MapKept.run_getObj_map hb, MapKept.run_checkKey Try.underlying9 (key_is p), MapKept.run_findKey Try.underlying9 k1, MapKept.run_setObj_map _ hb, Result.andThen, ChangeMaps.setBlock]
    · intro i e hi
      obtain ⟨k, z, hk, hv, hf⟩ := h1 i e hi
      refine ⟨k, z, hk, hv, ?_⟩
      unfold Hog.delK
      rw [if_neg (fun ek => k2 e (List.mem_of_getElem? hi) (by rw [hk, ek]))]
      exact hf
    · intro k z hf
      unfold Hog.delK at hf
      by_cases ek : k = p
      · rw [if_pos ek] at hf; cases hf
      · rw [if_neg ek] at hf
        exact h2 k z hf
  · have hj := (List.getElem?_eq_some_iff.1 k2).1
    have get : ∀ (i : Nat), (es.eraseIdxIfInBounds j).toList[i]? = if i < j then es.toList[i]? else es.toList[i + 1]? := fun i => by
      have hjs : j < es.size := by simpa using hj
      rw [Array.eraseIdxIfInBounds, dif_pos hjs, Array.toList_eraseIdx, List.getElem?_eraseIdx]
    have back : ∀ (i : Nat) x, (es.eraseIdxIfInBounds j).toList[i]? = some x → ∃ i', es.toList[i']? = some x ∧ i' ≠ j ∧ i' = (if i < j then i else i + 1) := fun i x hi => by
      rw [get i] at hi
      by_cases hl : i < j
      · rw [if_pos hl] at hi; exact ⟨i, hi, by omega, by rw [if_pos hl]⟩
      · rw [if_neg hl] at hi; exact ⟨i + 1, hi, by omega, by rw [if_neg hl]⟩
    refine ⟨ChangeMaps.setBlock w m (.map (es.eraseIdxIfInBounds j) clock), ?_, ⟨_, _, ChangeMaps.heap_setBlock_same hb _, ?_, ?_, ?_⟩, ⟨rfl, rfl, rfl, by simp [ChangeMaps.setBlock], fun i _ hi => ChangeMaps.heap_setBlock_other hb _ (fun e => hi (by rw [e]))⟩⟩
    · simp [Builtin.delete_, run_underlying Try.underlying51, MapKept.run_getObj_map hb, MapKept.run_checkKey Try.underlying9 (key_is p), MapKept.run_findKey Try.underlying9 k1, MapKept.run_setObj_map _ hb, Result.andThen, ChangeMaps.setBlock]
    · intro i x hi
      obtain ⟨i', a1, a2, _⟩ := back i x hi
      obtain ⟨k, z, hk, hv, hf⟩ := h1 i' x a1
      refine ⟨k, z, hk, hv, ?_⟩
      unfold Hog.delK
      rw [if_neg (fun ek => a2 (h3 i' j x e a1 k2 (by rw [k3, hk, ek])))]
      exact hf
    · intro k z hf
      unfold Hog.delK at hf
      by_cases ek : k = p
      · rw [if_pos ek] at hf; cases hf
      · rw [if_neg ek] at hf
        obtain ⟨i, x, hi, hx⟩ := h2 k z hf
        have hne : i ≠ j := fun e' => by
          subst e'
          rw [k2] at hi; cases hi
          rw [k3] at hx
          cases hx
          exact ek rfl
        by_cases hl : i < j
        · exact ⟨i, x, by rw [get i, if_pos hl]; exact hi, hx⟩
        · exact ⟨i - 1, x, by rw [get (i - 1), if_neg (by omega), show i - 1 + 1 = i by omega]; exact hi, hx⟩
    · intro i i' a b ha hbb hk
      obtain ⟨u, a1, a2, a3⟩ := back i a ha
      obtain ⟨v, b1, b2, b3⟩ := back i' b hbb
      have := h3 u v a b a1 b1 hk
      rw [a3, b3] at this
      by_cases c1 : i < j <;> by_cases c2 : i' < j <;> simp only [c1, c2, if_true, if_false] at this <;> omega

theorem wpList_lookG {w : World} {ops : Array Oper} {rest : List Oper} {o : Oper} {a : Act} {Q : Exit → Act → World → Prop} (hg : o.guard = none) (m x : Operand) (hop : o.op = Op.lookup 51 m x true)
    (b : Nat) (f : ByteArray → Option Int) (hm : a.eval m = .map (some b)) (hown : MapF w b f) (key : ByteArray) (hx : a.eval x = .string key) (z : Int) (k : Bool) (hz : atF f key = z) (hk : (f key).isSome = k)
    (hK : wpList Try.prog ops Q rest (a.put o.dst (.tuple #[.int .i64 z, .bool k])) w) : wpList Try.prog ops Q (o :: rest) a w := by
  refine wpList_plain hg fun K hK' => ?_
  have hrun := mapG_look hown key true
  rw [if_pos rfl, hz, hk] at hrun
  unfold Oper.wp
  simp [execOp, hop, hm, hx, hrun, Result.andThen]
  exact hK' _ _ hK
theorem wpList_getG {w : World} {ops : Array Oper} {rest : List Oper} {o : Oper} {a : Act} {Q : Exit → Act → World → Prop} (hg : o.guard = none) (m x : Operand) (hop : o.op = Op.lookup 51 m x false)
    (b : Nat) (f : ByteArray → Option Int) (hm : a.eval m = .map (some b)) (hown : MapF w b f) (key : ByteArray) (hx : a.eval x = .string key) (z : Int) (hz : atF f key = z)
    (hK : wpList Try.prog ops Q rest (a.put o.dst (.int .i64 z)) w) : wpList Try.prog ops Q (o :: rest) a w := by
  refine wpList_plain hg fun K hK' => ?_
  have hrun := mapG_look hown key false
  rw [if_neg (by simp), hz] at hrun
  unfold Oper.wp
  simp [execOp, hop, hm, hx, hrun, Result.andThen]
  exact hK' _ _ hK
theorem wpList_putG {w : World} {ops : Array Oper} {rest : List Oper} {o : Oper} {a : Act} {Q : Exit → Act → World → Prop} (hg : o.guard = none) (m x y : Operand) (hop : o.op = Op.mapUpdate 51 m x y)
    (b : Nat) (f : ByteArray → Option Int) (hm : a.eval m = .map (some b)) (hown : MapF w b f) (key : ByteArray) (hx : a.eval x = .string key) (z : Int) (hy : a.eval y = .int .i64 z)
    (hK : ∀ w', MapF w' b (putF f key z) → w.grownBy w' (some b) → wpList Try.prog ops Q rest (a.put o.dst undef) w') : wpList Try.prog ops Q (o :: rest) a w := by
  refine wpList_plain hg fun K hK' => ?_
  obtain ⟨w', hrun, r1, r2⟩ := mapG_store hown key z
  unfold Oper.wp
  simp [execOp, hop, hm, hx, hy, hrun, Result.andThen]
  exact hK' _ _ (hK w' r1 r2)

theorem wpList_delG {w : World} {ops : Array Oper} {rest : List Oper} {o : Oper} {a : Act} {Q : Exit → Act → World → Prop} (hg : o.guard = none) (m x : Operand) (hop : o.op = Op.call { callee := Callee.builtin Builtin.delete, args := #[m, x], argTypes := #[51, 9] })
    (b : Nat) (f : ByteArray → Option Int) (hm : a.eval m = .map (some b)) (hown : MapF w b f) (key : ByteArray) (hx : a.eval x = .string key)
    (hK : ∀ w', MapF w' b (Hog.delK f key) → w.grownBy w' (some b) → wpList Try.prog ops Q rest (a.put o.dst (.tuple #[])) w') : wpList Try.prog ops Q (o :: rest) a w := by
  refine wpList_plain hg fun K hK' => ?_
  obtain ⟨w', hrun, r1, r2⟩ := mapG_delete hown key o.type
  unfold Oper.wp
  simp [execOp, hop, resolve, invoke, builtin, hm, hx, hrun, Result.andThen]
  exact hK' _ _ (hK w' r1 r2)
end Go.Proofs.Yticpljjbnfimkaa
