/- Slices of trees that are built: rows of slices, and appends onto them. -/
import Derived.Test.YteablfekfijnhaaDoorP4
import Derived.Deep.Strs
namespace Go.Proofs.YteablfekfijnhaaDoor
open Go.RowKit

theorem infoT : (Tryd.prog.info? 25).map (fun i => (i.zero, i.size, i.bytes)) = some (some (.slice none 0 0), 1, 24) := by kernel_rfl

/-- The slices us hold the nodes of the trees ts. -/
structure Holds (w : World) (us : List Value) (ts : List (List Nd)) : Prop where
  len : us.length = ts.length
  nods : ∀ (j : Nat) u t, us[j]? = some u → ts[j]? = some t → Nods w u t
theorem Holds.below {w w' : World} {us : List Value} {ts : List (List Nd)} (h : Holds w us ts) (hb : Below w.heap.size w w') : Holds w' us ts := ⟨h.len, fun j u t hu ht => (h.nods j u t hu ht).below hb⟩
theorem Holds.nil (w : World) : Holds w [] [] := ⟨rfl, fun j u t h => by simp at h⟩
theorem Holds.one {w : World} {u : Value} {t : List Nd} (h : Nods w u t) : Holds w [u] [t] := by
  refine ⟨rfl, fun j x y hx hy => ?_⟩
  match j, hx, hy with
  | 0, hx, hy => simp at hx hy; rw [← hx, ← hy]; exact h
  | j + 1, hx, _ => simp at hx
theorem Holds.app {w : World} {us ys : List Value} {ts ss : List (List Nd)} (h : Holds w us ts) (k : Holds w ys ss) : Holds w (us ++ ys) (ts ++ ss) := by
  refine ⟨by simp [h.len, k.len], fun j u t hu ht => ?_⟩
  rw [List.getElem?_append] at hu ht
  by_cases hj : j < us.length
  · rw [if_pos hj] at hu
    rw [if_pos (by rw [← h.len]; exact hj)] at ht
    exact h.nods j u t hu ht
  · rw [if_neg hj] at hu
    rw [if_neg (by rw [← h.len]; exact hj), ← h.len] at ht
    exact k.nods _ u t hu ht
theorem Holds.cell {w : World} {us : List Value} {ts : List (List Nd)} (h : Holds w us ts) : ∀ u ∈ us, u.oneCell' = true := by
  intro u hu
  obtain ⟨j, hj⟩ := List.mem_iff_getElem?.1 hu
  have hl := (List.getElem?_eq_some_iff.1 hj).1
  obtain ⟨a, c, rfl⟩ := (h.nods j u _ hj (List.getElem?_eq_some_iff.2 ⟨by rw [← h.len]; exact hl, rfl⟩)).form
  rfl

/-- The cells from ao on hold the slices us. -/
def CellsV (w : World) (ao : Option Addr) (us : List Value) : Prop := ∀ (j : Nat) u, us[j]? = some u → ∃ b o, ao = some ⟨b, o, none⟩ ∧ b < w.heap.size ∧ w.cell? ⟨b, o + j, none⟩ = some u
theorem Trs.vals {w : World} {v : Value} {ts : List (List Nd)} (h : Trs w v ts) : ∃ ao c us, v = .slice ao ts.length c ∧ CellsV w ao us ∧ Holds w us ts := by
  rcases h with ⟨rfl, a, c, rfl⟩ | ⟨b, o, c, rfl, hc, hl, hr⟩
  · exact ⟨a, c, [], rfl, fun j u h => by simp at h, Holds.nil w⟩
  · have each : ∀ i, i < ts.length → ∃ u : Value, w.cell? ⟨b, o + i, none⟩ = some u ∧ ∀ t, ts[i]? = some t → Nods w u t := by
      intro i hi
      obtain ⟨u, h1, h2⟩ := hr i ts[i] (List.getElem?_eq_some_iff.2 ⟨hi, rfl⟩)
      exact ⟨u, h1, fun t ht => by rw [(List.getElem?_eq_some_iff.1 ht).2] at h2; exact h2⟩
    obtain ⟨f, hf⟩ := Go.Deep.choose_lt (α := Value) each
    refine ⟨_, c, (List.range ts.length).map f, rfl, fun j u hu => ?_, by simp, fun j u t hu ht => ?_⟩
    · obtain ⟨hj, e⟩ := List.getElem?_eq_some_iff.1 hu
      rw [List.length_map, List.length_range] at hj
      simp at e
      rw [← e]
      exact ⟨b, o, rfl, hl, (hf j hj).1⟩
    · obtain ⟨hj, e⟩ := List.getElem?_eq_some_iff.1 hu
      rw [List.length_map, List.length_range] at hj
      simp at e
      rw [← e]
      exact (hf j hj).2 t ht
theorem CellsV.below {w w' : World} {ao : Option Addr} {us : List Value} (h : CellsV w ao us) (hb : Below w.heap.size w w') : CellsV w' ao us := by
  intro j u hu
  obtain ⟨b, o, e, hl, hc⟩ := h j u hu
  exact ⟨b, o, e, Nat.lt_of_lt_of_le hl hb.size, (hb.cell (p := ⟨b, o + j, none⟩) hl).trans hc⟩

/-- The slice v holds the slices us in a row of its own, from block base on. -/
def OwnV (base : Nat) (w : World) (v : Value) (us : List Value) : Prop := w.ownsRow base 25 1 v us.length us
theorem OwnV.nil (base : Nat) (w : World) : OwnV base w (.slice none 0 0) [] := World.ownsRow_nil w base 25 1
theorem OwnV.below {base : Nat} {w w' : World} {v : Value} {us : List Value} (h : OwnV base w v us) (hb : Below w.heap.size w w') : OwnV base w' v us := by
  refine ⟨h.1, ?_⟩
  rcases h.2 with h2 | ⟨g, cap, cur, rfl, hbs, hg, r⟩
  · exact .inl h2
  · exact .inr ⟨g, cap, cur, rfl, hbs, by rw [hb.block g (Array.getElem?_eq_some_iff.1 hg).1]; exact hg, r⟩
theorem OwnV.form {base : Nat} {w : World} {v : Value} {us : List Value} (h : OwnV base w v us) : ∃ a c, v = .slice a us.length c := by
  obtain ⟨_, h2⟩ := h
  rcases h2 with ⟨rfl, h0⟩ | ⟨g, cap, cur, rfl, _⟩
  · exact ⟨none, 0, by rw [h0]⟩
  · exact ⟨_, _, rfl⟩
theorem OwnV.trs {base : Nat} {w : World} {v : Value} {us : List Value} {ts : List (List Nd)} (h : OwnV base w v us) (k : Holds w us ts) : Trs w v ts := by
  have h' := h
  obtain ⟨_, h2⟩ := h
  rcases h2 with ⟨rfl, h0⟩ | ⟨g, cap, cur, rfl, hb, hg, hn, hm, hs, ht⟩
  · exact .inl ⟨List.eq_nil_of_length_eq_zero (by rw [← k.len]; exact h0), _, _, rfl⟩
  · refine .inr ⟨g, 0, cap, by rw [k.len], by rw [← k.len]; exact hn, (Array.getElem?_eq_some_iff.1 hg).1, fun j t hj => ?_⟩
    have hjl : j < us.length := by rw [k.len]; exact (List.getElem?_eq_some_iff.1 hj).1
    have hu : us[j]? = some us[j] := List.getElem?_eq_some_iff.2 ⟨hjl, rfl⟩
    refine ⟨us[j], ?_, k.nods j _ t hu hj⟩
    rw [Nat.zero_add]
    exact (World.ownsRow.cellAt h' j (by omega)).trans hu
theorem OwnV.cells {base : Nat} {w : World} {a : Option Addr} {n c : Nat} {us : List Value} (h : OwnV base w (.slice a n c) us) : CellsV w a us := by
  have h' := h
  obtain ⟨_, h2⟩ := h
  intro j u hu
  rcases h2 with ⟨e, h0⟩ | ⟨g, cap, cur, e, hb, hg, hn, hm, hs, ht⟩
  · rw [List.eq_nil_of_length_eq_zero h0] at hu
    simp at hu
  · cases e
    exact ⟨g, 0, rfl, (Array.getElem?_eq_some_iff.1 hg).1, by rw [Nat.zero_add]; exact (World.ownsRow.cellAt h' j (by have := (List.getElem?_eq_some_iff.1 hu).1; omega)).trans hu⟩
theorem OwnV.made (w : World) (us : List Value) (hm : us.length ≤ maxLen) : OwnV w.heap.size (w.alloc (.cells us.toArray 25)) (.slice (some ⟨w.heap.size, 0, none⟩) us.length us.length) us :=
  ⟨by simp, .inr ⟨w.heap.size, us.length, _, rfl, Nat.le_refl _, heap_alloc_new w _, Nat.le_refl _, hm, by simp, by simp⟩⟩
theorem OwnV.grownBelow {base : Nat} {w w' : World} {v : Value} {us : List Value} (h : OwnV base w v us) (hg : w.grownBy w' v.ownBlock) (hB : base ≤ w.heap.size) : Below base w w' :=
  (Below.refl base w).grown hg hB (fun k hk => (World.ownsRow.lt h k hk).1)

/-- An append of slices onto a row of one's own. -/
theorem wpList_append_trees {w : World} {ops : Array Oper} {rest : List Oper} {o : Oper} {a : Act} {Q : Exit → Act → World → Prop} (hgd : o.guard = none) (s x : Operand)
    (ho : o.op = .call { callee := .builtin .append, args := #[s, x], argTypes := #[22, 22] })
    (base : Nat) (v : Value) (us : List Value) (hs : a.eval s = v) (hown : OwnV base w v us) (ao : Option Addr) (m c : Nat) (ys : List Value) (hx : a.eval x = .slice ao m c) (hm : m = ys.length) (hn : ao = none → c = 0) (hc : CellsV w ao ys) (h1 : ∀ u ∈ ys, u.oneCell' = true)
    (hlen : us.length + ys.length < 1000000) (hbase : base ≤ w.heap.size)
    (h : ∀ b c w', OwnV base w' (.slice b (us.length + ys.length) c) (us ++ ys) → Below base w w' → wpList Tryd.prog ops Q rest (a.put o.dst (.slice b (us.length + ys.length) c)) w') : wpList Tryd.prog ops Q (o :: rest) a w := by
  obtain ⟨i0, hi, hz0, hz1, hz2⟩ := info_parts infoT
  subst hm
  cases ao with
  | none =>
    have hy : ys = [] := by
      cases ys with
      | nil => rfl
      | cons y r => obtain ⟨_, _, e, _⟩ := hc 0 y rfl; cases e
    subst hy
    obtain ⟨b, c', e⟩ := hown.form
    subst e
    rw [hn rfl] at hx
    refine wpList_append_own_none hgd s x 22 ho base 25 i0 1 Tryd.underlying22 hi _ _ _ hs hown hx ?_
    exact h b c' w (by simpa using hown) (Below.refl _ _)
  | some ad =>
    refine wpList_append_own w hgd s x 22 ho base 25 i0 (.slice none 0 0) 1 24 Tryd.underlying22 hi hz0 hz1 hz2 rfl (by decide) v us.length us hs hown ad ys.length c ys hx (by simp) (fun j u hu => ?_) h1 (by unfold maxLen; omega) (by omega) hbase ?_
    · obtain ⟨b, o, e, _, hcell⟩ := hc j u hu
      cases e
      rw [addN_plain]
      exact hcell
    · intro v' w' h2 h3 _
      have h4 : OwnV base w' v' (us ++ ys) := by unfold OwnV; rw [List.length_append]; exact h2
      obtain ⟨b, c, e⟩ := h4.form
      rw [List.length_append] at e
      subst e
      exact h b c w' h4 (hown.grownBelow h3 hbase)

/-- An append of one's own slices behind slices that fill their room: a new row. -/
theorem wpList_append_full {w : World} {ops : Array Oper} {rest : List Oper} {o : Oper} {a : Act} {Q : Exit → Act → World → Prop} (hgd : o.guard = none) (s x : Operand)
    (ho : o.op = .call { callee := .builtin .append, args := #[s, x], argTypes := #[22, 22] })
    (ao : Option Addr) (n : Nat) (us : List Value) (hs : a.eval s = .slice ao n n) (hn : n = us.length) (hu : CellsV w ao us) (base : Nat) (ad : Addr) (m c : Nat) (ys : List Value) (hx : a.eval x = .slice (some ad) m c) (hm : m = ys.length) (hc : CellsV w (some ad) ys) (h1 : ∀ u ∈ ys, u.oneCell' = true) (hy : ys ≠ [])
    (hlen : us.length + ys.length < 1000000) (hbase : base ≤ w.heap.size)
    (h : ∀ b c w', OwnV base w' (.slice b (us.length + ys.length) c) (us ++ ys) → Below base w w' → wpList Tryd.prog ops Q rest (a.put o.dst (.slice b (us.length + ys.length) c)) w') : wpList Tryd.prog ops Q (o :: rest) a w := by
  cases ao with
  | none =>
    have h0 : us = [] := by
      cases us with
      | nil => rfl
      | cons y r => obtain ⟨_, _, e, _⟩ := hu 0 y rfl; cases e
    subst h0
    subst hn
    exact wpList_append_trees hgd s x ho base _ [] hs (OwnV.nil base w) (some ad) m c ys hx hm (fun e => by cases e) hc h1 hlen hbase h
  | some b0 =>
    obtain ⟨i0, hi, hz0, hz1, hz2⟩ := info_parts infoT
    subst hn
    subst hm
    have hpos : 0 < ys.length := List.length_pos_iff.2 hy
    have hr := run_append_grow (P := Tryd.prog) w 22 o.type 25 i0 (.slice none 0 0) Tryd.underlying22 hi hz0 b0 us.length us.length us (by rw [hz1]; simp) (fun j u hj => by obtain ⟨b, o, e, _, k⟩ := hu j u hj; cases e; rw [addN_plain]; exact k)
      ad ys.length c ys (by rw [hz1]; simp) (fun j u hj => by obtain ⟨b, o, e, _, k⟩ := hc j u hj; cases e; rw [addN_plain]; exact k) (by omega) (by omega) (growslice_fits (by omega) (by rw [hz2]; omega))
    have hge := grownCap_ge w (us.length + ys.length) us.length 25
    have hcm : grownCap w (us.length + ys.length) us.length 25 ≤ maxLen := grownCap_le_maxLen _ _ _ _ (by unfold maxLen; omega)
    refine wpList_plain hgd fun K hK => ?_
    unfold Oper.wp execOp
    simp only [ho, resolve, invoke, builtin, Sem.run_bind, Sem.run_pure, Result.andThen_ok, List.map_toArray, List.map_cons, List.map_nil, hs, hx, hr]
    refine hK _ _ (h _ _ _ ⟨by simp, .inr ⟨w.heap.size, _, _, by rw [List.length_append], hbase, heap_alloc_new w.drew _, by rw [List.length_append]; exact hge, hcm, ?_, ?_⟩⟩ ((Below.refl base w).drew.alloc hbase _))
    · simp only [Array.size_append, List.size_toArray, size_zeroCells, Value.cells]
      simp
      omega
    · rw [List.length_append, Nat.mul_one]
      simp only [Array.toList_append, List.append_assoc]
      rw [← List.append_assoc, ← List.length_append]
      exact List.take_left
end Go.Proofs.YteablfekfijnhaaDoor
