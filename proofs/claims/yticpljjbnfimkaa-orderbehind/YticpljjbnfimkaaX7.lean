/- Texts that were handed in, appended and cloned; OverTexts, and which block it turns. -/
import Derived.Test.YticpljjbnfimkaaK8
import Derived.Test.YticpljjbnfimkaaR8
namespace Go.Proofs.Yticpljjbnfimkaa
open Go.RowKit

theorem strs_one (ys : List ByteArray) : ∀ z ∈ ys.map Value.string, z.oneCell' = true := by
  intro z hz
  obtain ⟨y, _, rfl⟩ := List.mem_map.1 hz
  rfl
theorem wpList_append_arg {w : World} {ops : Array Oper} {rest : List Oper} {o : Oper} {a : Act} {Q : Exit → Act → World → Prop} (hgd : o.guard = none) (s x : Operand)
    (ho : o.op = .call { callee := .builtin .append, args := #[s, x], argTypes := #[25, 25] })
    (base : Nat) (v : Value) (xs : List ByteArray) (hs : a.eval s = v) (hown : Own base w v xs) (ao : Option Addr) (m c : Nat) (ys : List ByteArray) (hx : a.eval x = .slice ao m c) (hu : Arg w ao m c ys)
    (hlen : xs.length + ys.length < 1000000) (hbase : base ≤ w.heap.size)
    (h : ∀ b c w', Own base w' (.slice b (xs.length + ys.length) c) (xs ++ ys) → Below base w w' → wpList Try.prog ops Q rest (a.put o.dst (.slice b (xs.length + ys.length) c)) w') : wpList Try.prog ops Q (o :: rest) a w := by
  obtain ⟨i0, hi, hz0, hz1, hz2⟩ := info_parts A9
  cases ao with
  | none =>
    obtain ⟨rfl, rfl⟩ := hu.none rfl
    have hy : ys = [] := List.eq_nil_of_length_eq_zero hu.len
    subst hy
    obtain ⟨b, c, e⟩ := hown.form
    subst e
    refine wpList_append_own_none hgd s x 25 ho base 9 i0 1 Try.underlying25 hi _ _ _ hs hown hx ?_
    exact h b c w (by simpa using hown) (Below.refl _ _)
  | some ad =>
    obtain rfl := hu.len
    refine wpList_append_own w hgd s x 25 ho base 9 i0 (.string ByteArray.empty) 1 16 Try.underlying25 hi hz0 hz1 hz2 rfl (by decide) v xs.length (xs.map Value.string) hs hown ad ys.length c (ys.map Value.string) hx (by simp) (hu.cell ad rfl) (strs_one ys) (by unfold maxLen; omega) (by omega) hbase ?_
    intro v' w' h1 h2 _
    have h3 : Own base w' v' (xs ++ ys) := Own.joined h1
    obtain ⟨b, c, e⟩ := h3.form
    rw [List.length_append] at e
    subst e
    exact h b c w' h3 (Own.grownBelow hown h2 hbase)
theorem wpList_append_whereT {w : World} {ops : Array Oper} {rest : List Oper} {o : Oper} {a : Act} {Q : Exit → Act → World → Prop} (hgd : o.guard = none) (s x : Operand)
    (ho : o.op = .call { callee := .builtin .append, args := #[s, x], argTypes := #[25, 25] })
    (base : Nat) (v : Value) (xs : List ByteArray) (hs : a.eval s = v) (hown : Own base w v xs) (ad : Addr) (m c : Nat) (ys : List ByteArray) (hx : a.eval x = .slice (some ad) m c) (hu : Arg w (some ad) m c ys)
    (hlen : xs.length + ys.length < 1000000) (hbase : base ≤ w.heap.size)
    (h : ∀ b c w', Own base w' (.slice b (xs.length + ys.length) c) (xs ++ ys) → w.grownBy w' v.ownBlock → Stays w v (.slice b (xs.length + ys.length) c) → wpList Try.prog ops Q rest (a.put o.dst (.slice b (xs.length + ys.length) c)) w') : wpList Try.prog ops Q (o :: rest) a w := by
  obtain ⟨i0, hi, hz0, hz1, hz2⟩ := info_parts A9
  obtain rfl := hu.len
  refine wpList_plain hgd fun K hK => ?_
  obtain ⟨v', w', hr, h2, h3, h4⟩ := run_append_where (P := Try.prog) w base 25 o.type 9 i0 (.string ByteArray.empty) 1 16 Try.underlying25 hi hz0 hz1 hz2 rfl (by decide) v xs.length (xs.map Value.string) hown ad ys.length c (ys.map Value.string) (by simp) (hu.cell ad rfl) (strs_one ys) (by unfold maxLen; omega) (by omega) hbase
  have h5 : Own base w' v' (xs ++ ys) := Own.joined h2
  obtain ⟨b, c', e⟩ := h5.form
  rw [List.length_append] at e
  subst e
  unfold Oper.wp execOp
  simp only [ho, resolve, invoke, builtin, Sem.run_bind, Sem.run_pure, Result.andThen_ok, List.map_toArray, List.map_cons, List.map_nil, hs, hx, hr]
  exact hK _ _ (h b c' w' h5 h3 h4)

theorem arg_one (w : World) (x : ByteArray) : Arg (w.alloc (.cells #[.string x] 9)) (some ⟨w.heap.size, 0, none⟩) 1 1 [x] := by
  refine ⟨rfl, by simp, Nat.le_refl _, fun ad e j u hu => ?_⟩
  cases e
  match j, hu with
  | 0, hu => simp at hu; subst hu; simp [add_plain]
  | j + 1, hu => simp at hu
theorem Own.empty (base : Nat) (w : World) (hb : base ≤ w.heap.size) : Own base (w.alloc (.cells #[] 9)) (.slice (some ⟨w.heap.size, 0, none⟩) 0 0) [] :=
  ⟨rfl, .inr ⟨w.heap.size, 0, #[], rfl, hb, heap_alloc_new w _, Nat.le_refl _, by unfold maxLen; omega, rfl, rfl⟩⟩

set_option maxRecDepth 100000 in
set_option maxHeartbeats 800000 in
theorem overT_none (w : World) :
    Calls Try.prog 13 #[.slice none 0 0] w fun e w' => e = .returned (.tuple #[]) ∧ w.grownBy w' none := by
  have HA := hide (arg_one w ⟨#[111, 118, 101, 114]⟩)
  go_enter Try.func13, Try.ntmps13
  go_wp2
  go_loop [2] (fun i => i = .int .i64 0) (fun _ => 0)
  case atStart => rfl
  case round =>
    subst hrel
    go_wp2_with (at_builtin; refine wpList_append_whereT rfl _ _ rfl 0 _ [] rfl (Own.nil _ _) _ _ _ [⟨#[111, 118, 101, 114]⟩] rfl HA.out (by simp) (by simp) ?_)
    intro b c w1 _ hb1 _
    go_wp2
    go_end0
    exact ⟨rfl, grown_trans (grown_box _ _ _) hb1⟩
set_option maxRecDepth 100000 in
set_option maxHeartbeats 800000 in
theorem overT_some (base g cap : Nat) (xs : List ByteArray) (w : World) (hb : base ≤ w.heap.size) (h : Own base w (.slice (some ⟨g, 0, none⟩) xs.length cap) xs) (hl : xs.length < 900000) :
    Calls Try.prog 13 #[.slice (some ⟨g, 0, none⟩) xs.length cap] w fun e w' => e = .returned (.tuple #[]) ∧ w.grownBy w' (some g) := by
  obtain ⟨n, hn⟩ : ∃ n, n = xs.length := ⟨_, rfl⟩
  have HO := hide h
  have HN := hide hn
  rw [← hn] at hl ⊢
  clear h hn
  go_enter Try.func13, Try.ntmps13
  go_wp2
  go_loopw [2] (fun i wr => ∃ k : Nat, k ≤ n ∧ i = .int .i64 k ∧ Hid (∃ ys : List ByteArray, ys.length = n ∧ Own base wr (.slice (some ⟨g, 0, none⟩) ys.length cap) ys) ∧ w.grownBy wr (some g)) (fun i _ => n - (intOf i).toNat)
  case atStart => exact ⟨0, Nat.zero_le _, rfl, ⟨xs, HN.out.symm, HO.out⟩, grown_refl _ _⟩
  case round =>
    obtain ⟨k, hk, rfl, hys, hbl⟩ := hrel
    obtain ⟨ys, hyn, hown⟩ := hys.out
    have HO2 := hide hown
    have HY := hide hyn
    clear hys hown hyn
    have hbs := hbl.size
    by_cases hlt : k < n
    · have hf : wr.frozen? ⟨g, k, none⟩ = false := World.ownsRow.frozenAt HO2.out k
      obtain ⟨y, hy⟩ : ∃ y, ys[k]? = some y := ⟨ys[k]'(by have := HY.out; omega), List.getElem?_eq_some_iff.2 ⟨_, rfl⟩⟩
      have hc : wr.cell? ⟨g, k, none⟩ = some (.string y) := by
        have h1 := World.ownsRow.cellAt HO2.out k (by have := HY.out; omega)
        rw [h1]; simp [hy]
      clear hy
      go_wp2
      go_roundw
      case rel =>
        refine ⟨k + 1, by omega, by go_num, ⟨ys.set k ⟨#[111, 118, 101, 114]⟩, by rw [List.length_set]; exact HY.out, HO2.out.stored k _⟩, grown_trans hbl (grown_setCell _ g k _)⟩
      case measure => simp [intOf]; omega
    · have HO3 := hide (HO2.out.alloc (.cells #[.string ⟨#[111, 118, 101, 114]⟩] 9))
      rw [HY.out] at HO3
      have HA := hide (arg_one wr ⟨#[111, 118, 101, 114]⟩)
      go_wp2_with (at_builtin; refine wpList_append_whereT rfl _ _ rfl base _ ys rfl HO3.out _ _ _ [⟨#[111, 118, 101, 114]⟩] rfl HA.out (by simp; have := HY.out; omega) (by simp; omega) ?_)
      intro b c w1 _ hb1 _
      go_wp2
      go_end0
      exact ⟨rfl, grown_trans hbl (grown_trans (grown_box _ _ _) hb1)⟩
theorem overT_ok (v : Value) (xs : List ByteArray) (base : Nat) (w : World) (ho : Own base w v xs) (hbw : base ≤ w.heap.size) (hl : xs.length < 900000) :
    Calls Try.prog 13 #[v] w fun e w' => e = .returned (.tuple #[]) ∧ w.grownBy w' v.ownBlock := by
  obtain ⟨_, h2⟩ := id ho
  rcases h2 with ⟨rfl, _⟩ | ⟨g, cap, cur, rfl, _⟩
  · exact overT_none w
  · exact overT_some base g cap xs w hbw ho hl
end Go.Proofs.Yticpljjbnfimkaa
