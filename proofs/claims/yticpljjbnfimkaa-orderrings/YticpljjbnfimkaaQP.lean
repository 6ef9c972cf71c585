/- Appends that OrderLast makes: onto texts of one's own, the old slice still read; onto items whose room is cut off. -/
import Derived.Test.YticpljjbnfimkaaQL
import Derived.Test.YticpljjbnfimkaaQN
import Derived.Test.YticpljjbnfimkaaKCb
namespace Go.Proofs.Yticpljjbnfimkaa
open Go.RowKit

theorem Own.argT {base : Nat} {w : World} {ao : Option Addr} {n c : Nat} {xs : List ByteArray} (h : Own base w (.slice ao n c) xs) : Arg w ao n c xs := by
  have h' := h
  obtain ⟨_, h2⟩ := h
  rcases h2 with ⟨e, h0⟩ | ⟨g, cap, cur, e, hb, hg, hn, hm, hs, ht⟩
  · obtain rfl := List.eq_nil_of_length_eq_zero h0
    cases e
    exact ⟨rfl, fun _ => ⟨rfl, rfl⟩, Nat.le_refl _, fun ad e => by cases e⟩
  · obtain ⟨rfl, rfl, rfl⟩ : ao = some ⟨g, 0, none⟩ ∧ n = xs.length ∧ c = cap := by simpa using e
    exact ⟨rfl, fun e => by (cases e), hn, fun ad e j u hu => by cases e; exact World.ownsRow.cells h' (g := g) rfl j u hu⟩
theorem argN_nil (w : World) : ArgN w none 0 0 [] := ⟨rfl, fun _ => ⟨rfl, rfl⟩, Nat.le_refl _, fun _ e => by cases e⟩
/-- An append of texts, as a run: the old slice is still read. -/
theorem run_append_keep {w : World} (ty : TypeId) (base : Nat) (v : Value) (xs : List ByteArray) (hown : Own base w v xs) (ad : Addr) (m c : Nat) (ys : List ByteArray) (hu : Arg w (some ad) m c ys)
    (hlen : xs.length + ys.length < 1000000) (hbase : base ≤ w.heap.size) :
    ∃ b c' w', (Builtin.append_ #[25, 25] ty #[v, .slice (some ad) m c]).run Try.prog w = .ok (.slice b (xs.length + ys.length) c') w' ∧ Own base w' (.slice b (xs.length + ys.length) c') (xs ++ ys) ∧ w.grownBy w' v.ownBlock ∧ Txt w' v xs := by
  obtain ⟨i0, hi, hz0, hz1, hz2⟩ := info_parts A9
  obtain rfl := hu.len
  obtain ⟨v', w', hr, h2, h3, _⟩ := run_append_own (P := Try.prog) w base 25 ty 9 i0 (.string ByteArray.empty) 1 16 Try.underlying25 hi hz0 hz1 hz2 rfl (by decide) v xs.length (xs.map Value.string) hown ad ys.length c (ys.map Value.string) (by simp) (hu.cell ad rfl) (strs_one ys) (by unfold maxLen; omega) (by omega) hbase
  have h5 : Own base w' v' (xs ++ ys) := Own.joined h2
  have hk : Txt w' v xs := by
    rcases hown.2 with ⟨rfl, h0⟩ | ⟨g, cap, cur, rfl, hbg, hg, hnc, hcm, hcs, htake⟩
    · exact .inl ⟨List.eq_nil_of_length_eq_zero h0, none, 0, rfl⟩
    · by_cases hroom : xs.length + ys.length ≤ cap
      · have hr' := run_append_room (P := Try.prog) w 25 ty 9 i0 Try.underlying25 hi g xs.length cap cur hg ad ys.length c (ys.map Value.string) (by rw [hz1]; simp) (hu.cell ad rfl) (strs_one ys) hroom (by rw [hz1, hcs]; simp; omega)
        rw [hr] at hr'
        injection hr' with e1 e2
        subst e1
        refine .inr ⟨g, 0, cap, rfl, by omega, Nat.lt_of_lt_of_le (Array.getElem?_eq_some_iff.1 hg).1 h3.size, fun j y hy => ?_⟩
        have h6 := World.ownsRow.cells h2 (g := g) rfl j (.string y) (by rw [List.getElem?_append_left (by rw [List.length_map]; exact (List.getElem?_eq_some_iff.1 hy).1), List.getElem?_map, hy]; rfl)
        rw [add_plain, Nat.zero_add] at h6
        rw [Nat.zero_add]
        exact h6
      · have hr' := run_append_grow (P := Try.prog) w 25 ty 9 i0 (.string ByteArray.empty) Try.underlying25 hi hz0 ⟨g, 0, none⟩ xs.length cap (xs.map Value.string) (by rw [hz1]; simp) (World.ownsRow.cells hown (g := g) rfl) ad ys.length c (ys.map Value.string) (by rw [hz1]; simp) (hu.cell ad rfl) (by omega) (by omega) (growslice_fits (by omega) (by rw [hz2]; omega))
        rw [hr] at hr'
        injection hr' with e1 e2
        have hbw : Below w.heap.size w w' := by rw [e2]; exact (Below.refl w.heap.size w).drew.alloc (Nat.le_refl _) _
        exact hown.txt.below hbw
  obtain ⟨b, c', e⟩ := h5.form
  rw [List.length_append] at e
  subst e
  exact ⟨b, c', w', hr, h5, h3, hk⟩
/-- An append of texts that were handed in, as a run. -/
theorem run_append_argT {w : World} (ty : TypeId) (base : Nat) (v : Value) (xs : List ByteArray) (hown : Own base w v xs) (ao : Option Addr) (m c : Nat) (ys : List ByteArray) (hu : Arg w ao m c ys)
    (hlen : xs.length + ys.length < 1000000) (hbase : base ≤ w.heap.size) :
    ∃ b c' w', (Builtin.append_ #[25, 25] ty #[v, .slice ao m c]).run Try.prog w = .ok (.slice b (xs.length + ys.length) c') w' ∧ Own base w' (.slice b (xs.length + ys.length) c') (xs ++ ys) ∧ w.grownBy w' v.ownBlock := by
  cases ao with
  | none =>
    obtain ⟨i0, hi, hz0, hz1, hz2⟩ := info_parts A9
    obtain ⟨rfl, rfl⟩ := hu.none rfl
    have hy : ys = [] := List.eq_nil_of_length_eq_zero hu.len
    subst hy
    obtain ⟨b, c, e⟩ := hown.form
    have hr := run_append_owned_none (P := Try.prog) (w := w) base 25 ty 9 i0 1 Try.underlying25 hi v xs.length (xs.map Value.string) hown
    subst e
    exact ⟨b, c, w, hr, by simpa using hown, grown_refl _ _⟩
  | some ad =>
    obtain ⟨b, c', w', h1, h2, h3, _⟩ := run_append_keep ty base v xs hown ad m c ys hu hlen hbase
    exact ⟨b, c', w', h1, h2, h3⟩
theorem txt_cut {w : World} {oa : Option Addr} {n oc : Nat} {xs : List ByteArray} (h : Txt w (.slice oa n oc) xs) : Arg w oa n n xs := by
  rcases h with ⟨rfl, a, c, e⟩ | ⟨b, o, c, e, hc, hb, hcell⟩
  · simp only [Value.slice.injEq] at e
    obtain ⟨_, rfl, _⟩ := e
    exact ⟨rfl, fun _ => ⟨rfl, rfl⟩, Nat.le_refl _, fun _ _ j u hu => by simp at hu⟩
  · simp only [Value.slice.injEq] at e
    obtain ⟨rfl, rfl, _⟩ := e
    refine ⟨rfl, fun e => (by cases e), Nat.le_refl _, fun ad e j u hu => ?_⟩
    cases e
    rw [List.getElem?_map] at hu
    obtain ⟨y, hy, rfl⟩ := Option.map_eq_some_iff.1 hu
    rw [add_plain]
    exact hcell j y hy
/-- An append that is asked for by a guard, by its run. -/
theorem wpList_append_asked {w : World} {ops : Array Oper} {rest : List Oper} {o : Oper} {a : Act} {Q : Exit → Act → World → Prop} (hw : Region.wanted o (yielded ops a.tmps) = true) (s x : Operand) (t : TypeId)
    (ho : o.op = .call { callee := .builtin .append, args := #[s, x], argTypes := #[t, t] }) (sv xv v' : Value) (w' : World) (hs : a.eval s = sv) (hx : a.eval x = xv)
    (hr : (Builtin.append_ #[t, t] o.type #[sv, xv]).run Try.prog w = .ok v' w') (h : wpList Try.prog ops Q rest (a.put o.dst v') w') : wpList Try.prog ops Q (o :: rest) a w := by
  unfold wpList
  rw [if_pos hw]
  refine .inl ?_
  unfold Oper.wp execOp
  simp only [ho, resolve, invoke, builtin, Sem.run_bind, Sem.run_pure, Result.andThen_ok, List.map_toArray, List.map_cons, List.map_nil, hs, hx, hr]
  exact h
/-- Items handed in, appended onto items of one's own. -/
theorem wpList_append_itemsA {w : World} {ops : Array Oper} {rest : List Oper} {o : Oper} {a : Act} {Q : Exit → Act → World → Prop} (hgd : o.guard = none) (s x : Operand)
    (ho : o.op = .call { callee := .builtin .append, args := #[s, x], argTypes := #[22, 22] })
    (base : Nat) (v : Value) (xs : List Pr) (hs : a.eval s = v) (hown : OwnS base w v xs) (ao : Option Addr) (m c : Nat) (ys : List Pr) (hx : a.eval x = .slice ao m c) (hu : ArgS w ao m c ys)
    (q : Nat) (hq : xs.length + ys.length = q) (zs : List Pr) (hz : xs ++ ys = zs) (hlen : q < 1000000) (hbase : base ≤ w.heap.size)
    (h : ∀ b c w', OwnS base w' (.slice b q c) zs → w.grownBy w' v.ownBlock → wpList Try.prog ops Q rest (a.put o.dst (.slice b q c)) w') : wpList Try.prog ops Q (o :: rest) a w := by
  cases ao with
  | none =>
    obtain ⟨i0, hi, hz0, hz1, hz2⟩ := info_parts AItem
    obtain ⟨rfl, rfl⟩ := hu.none rfl
    have hy : ys = [] := List.eq_nil_of_length_eq_zero hu.len
    subst hy
    rw [List.append_nil] at hz
    rw [List.length_nil, Nat.add_zero] at hq
    subst hz
    subst hq
    obtain ⟨b, c, e⟩ := hown.form
    subst e
    refine wpList_append_own_none hgd s x 22 ho base 33 i0 3 Try.underlying22 hi _ _ _ hs hown hx ?_
    exact h b c w hown (grown_refl _ _)
  | some ad => exact wpList_append_items hgd s x ho base v xs hs hown ad m c ys hx hu q hq zs hz hlen hbase h
/-- One item onto items whose room is cut off: a new row. -/
theorem wpList_append_itemsF {w : World} {ops : Array Oper} {rest : List Oper} {o : Oper} {a : Act} {Q : Exit → Act → World → Prop} (hgd : o.guard = none) (s x : Operand)
    (ho : o.op = .call { callee := .builtin .append, args := #[s, x], argTypes := #[22, 22] })
    (ao : Option Addr) (n : Nat) (xs : List Pr) (hs : a.eval s = .slice ao n n) (hA : ArgS w ao n n xs) (base : Nat) (ad : Addr) (c : Nat) (y : Pr) (hx : a.eval x = .slice (some ad) 1 c) (hu : ArgS w (some ad) 1 c [y])
    (hlen : n < 900000) (hbase : base ≤ w.heap.size)
    (h : ∀ b c w', OwnS base w' (.slice b (n + 1) c) (xs ++ [y]) → Below base w w' → wpList Try.prog ops Q rest (a.put o.dst (.slice b (n + 1) c)) w') : wpList Try.prog ops Q (o :: rest) a w := by
  have hn := hA.len
  cases ao with
  | none =>
    have h0 := (hA.none rfl).1
    subst h0
    have hx0 : xs = [] := List.eq_nil_of_length_eq_zero hn
    subst hx0
    refine wpList_append_items hgd s x ho base _ [] hs (OwnS.nil base w) ad 1 c [y] hx hu 1 rfl [y] rfl (by omega) hbase fun b c w' h1 h2 => ?_
    exact h b c w' h1 ((OwnS.nil base w).grownBelow h2 hbase)
  | some b0 =>
    obtain ⟨i0, hi, hz0, hz1, hz2⟩ := info_parts AItem
    have hr := run_append_grow (P := Try.prog) w 22 o.type 33 i0 _ Try.underlying22 hi hz0 b0 n n (rflat xs) (by rw [hz1, rflat_len, hn]) (hA.cell b0 rfl)
      ad 1 c (rflat [y]) (by rw [hz1, rflat_len]; rfl) (hu.cell ad rfl) (by omega) (by omega) (growslice_fits (by omega) (by rw [hz2]; omega))
    have hge := grownCap_ge w (n + 1) n 33
    have hcm : grownCap w (n + 1) n 33 ≤ maxLen := grownCap_le_maxLen _ _ _ _ (by unfold maxLen; omega)
    refine wpList_plain hgd fun K hK => ?_
    unfold Oper.wp execOp
    simp only [ho, resolve, invoke, builtin, Sem.run_bind, Sem.run_pure, Result.andThen_ok, List.map_toArray, List.map_cons, List.map_nil, hs, hx, hr]
    have hlen2 : (xs ++ [y]).length = n + 1 := by rw [List.length_append, hn]; rfl
    refine hK _ _ (h _ _ _ ⟨by rw [rflat_len], .inr ⟨w.heap.size, _, _, by rw [hlen2], hbase, heap_alloc_new w.drew _, by rw [hlen2]; exact hge, hcm, ?_, ?_⟩⟩ ((Below.refl base w).drew.alloc hbase _))
    · simp only [Array.size_append, List.size_toArray, size_zeroCells, Value.cells, rflat_len]
      simp
      omega
    · simp only [Array.toList_append, List.append_assoc]
      rw [← List.append_assoc, ← rflat_app, ← rflat_len]
      exact List.take_left
end Go.Proofs.Yticpljjbnfimkaa
