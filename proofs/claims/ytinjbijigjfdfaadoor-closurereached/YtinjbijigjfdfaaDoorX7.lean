/- Texts that were handed in, appended and cloned; OverTexts, and which block it turns. -/
import Derived.Test.YtinjbijigjfdfaaDoorX6
import Derived.Test.YtinjbijigjfdfaaDoorR8
import Derived.Test.YtinjbijigjfdfaaDoorJ6
namespace Go.Proofs.YtinjbijigjfdfaaDoor
open Go.RowKit

theorem strs_one (ys : List ByteArray) : ∀ z ∈ ys.map Value.string, z.oneCell' = true := by
  intro z hz
  obtain ⟨y, _, rfl⟩ := List.mem_map.1 hz
  rfl
theorem wpList_append_arg {w : World} {ops : Array Oper} {rest : List Oper} {o : Oper} {a : Act} {Q : Exit → Act → World → Prop} (hgd : o.guard = none) (s x : Operand)
    (ho : o.op = .call { callee := .builtin .append, args := #[s, x], argTypes := #[28, 28] })
    (base : Nat) (v : Value) (xs : List ByteArray) (hs : a.eval s = v) (hown : Own base w v xs) (ao : Option Addr) (m c : Nat) (ys : List ByteArray) (hx : a.eval x = .slice ao m c) (hu : Arg w ao m c ys)
    (hlen : xs.length + ys.length < 1000000) (hbase : base ≤ w.heap.size)
    (h : ∀ b c w', Own base w' (.slice b (xs.length + ys.length) c) (xs ++ ys) → Below base w w' → wpList Tryd.prog ops Q rest (a.put o.dst (.slice b (xs.length + ys.length) c)) w') : wpList Tryd.prog ops Q (o :: rest) a w := by
  obtain ⟨i0, hi, hz0, hz1, hz2⟩ := info_parts A9
  cases ao with
  | none =>
    obtain ⟨rfl, rfl⟩ := hu.none rfl
    have hy : ys = [] := List.eq_nil_of_length_eq_zero hu.len
    subst hy
    obtain ⟨b, c, e⟩ := hown.form
    subst e
    refine wpList_append_own_none hgd s x 28 ho base 9 i0 1 Tryd.underlying28 hi _ _ _ hs hown hx ?_
    exact h b c w (by simpa using hown) (Below.refl _ _)
  | some ad =>
    obtain rfl := hu.len
    refine wpList_append_own w hgd s x 28 ho base 9 i0 (.string ByteArray.empty) 1 16 Tryd.underlying28 hi hz0 hz1 hz2 rfl (by decide) v xs.length (xs.map Value.string) hs hown ad ys.length c (ys.map Value.string) hx (by simp) (hu.cell ad rfl) (strs_one ys) (by unfold maxLen; omega) (by omega) hbase ?_
    intro v' w' h1 h2 _
    have h3 : Own base w' v' (xs ++ ys) := Own.joined h1
    obtain ⟨b, c, e⟩ := h3.form
    rw [List.length_append] at e
    subst e
    exact h b c w' h3 (Own.grownBelow hown h2 hbase)
theorem wpList_append_whereT {w : World} {ops : Array Oper} {rest : List Oper} {o : Oper} {a : Act} {Q : Exit → Act → World → Prop} (hgd : o.guard = none) (s x : Operand)
    (ho : o.op = .call { callee := .builtin .append, args := #[s, x], argTypes := #[28, 28] })
    (base : Nat) (v : Value) (xs : List ByteArray) (hs : a.eval s = v) (hown : Own base w v xs) (ad : Addr) (m c : Nat) (ys : List ByteArray) (hx : a.eval x = .slice (some ad) m c) (hu : Arg w (some ad) m c ys)
    (hlen : xs.length + ys.length < 1000000) (hbase : base ≤ w.heap.size)
    (h : ∀ b c w', Own base w' (.slice b (xs.length + ys.length) c) (xs ++ ys) → w.grownBy w' v.ownBlock → Stays w v (.slice b (xs.length + ys.length) c) → wpList Tryd.prog ops Q rest (a.put o.dst (.slice b (xs.length + ys.length) c)) w') : wpList Tryd.prog ops Q (o :: rest) a w := by
  obtain ⟨i0, hi, hz0, hz1, hz2⟩ := info_parts A9
  obtain rfl := hu.len
  refine wpList_plain hgd fun K hK => ?_
  obtain ⟨v', w', hr, h2, h3, h4⟩ := run_append_where (P := Tryd.prog) w base 28 o.type 9 i0 (.string ByteArray.empty) 1 16 Tryd.underlying28 hi hz0 hz1 hz2 rfl (by decide) v xs.length (xs.map Value.string) hown ad ys.length c (ys.map Value.string) (by simp) (hu.cell ad rfl) (strs_one ys) (by unfold maxLen; omega) (by omega) hbase
  have h5 : Own base w' v' (xs ++ ys) := Own.joined h2
  obtain ⟨b, c', e⟩ := h5.form
  rw [List.length_append] at e
  subst e
  unfold Oper.wp execOp
  simp only [ho, resolve, invoke, builtin, Sem.run_bind, Sem.run_pure, Result.andThen_ok, List.map_toArray, List.map_cons, List.map_nil, hs, hx, hr]
  exact hK _ _ (h b c' w' h5 h3 h4)

theorem arg_one (w : World) (x : ByteArray) : Arg (w.alloc (.cells #[.string x] 9)) (some ⟨w.heap.size, 0, none⟩) 1 1 [x] := by
  refine ⟨rfl, by simp, Nat.le_refl _, fun ad e j u hu => ?_⟩
  cases e
  match j, hu with
  | 0, hu => simp at hu; subst hu; simp [add_plain]
  | j + 1, hu => simp at hu
theorem Own.empty (base : Nat) (w : World) (hb : base ≤ w.heap.size) : Own base (w.alloc (.cells #[] 9)) (.slice (some ⟨w.heap.size, 0, none⟩) 0 0) [] :=
  ⟨rfl, .inr ⟨w.heap.size, 0, #[], rfl, hb, heap_alloc_new w _, Nat.le_refl _, by unfold maxLen; omega, rfl, rfl⟩⟩

set_option maxRecDepth 100000 in
set_option maxHeartbeats 800000 in
theorem cloneT_ok (ao : Option Addr) (n c : Nat) (xs : List ByteArray) (w : World) (h : Arg w ao n c xs) (hn : n < 900000) :
    Calls Tryd.prog 41 #[.slice ao n c] w fun e w' => ∃ a' c', e = .returned (.slice a' n c') ∧ Own w.heap.size w' (.slice a' n c') xs ∧ Below w.heap.size w w' := by
  cases ao with
  | none =>
    obtain ⟨rfl, rfl⟩ := h.none rfl
    have hy : xs = [] := List.eq_nil_of_length_eq_zero h.len
    subst hy
    have hq := fun w => eql_slice_none _ _ 0 0 w Tryd.underlying28
    go_enter Tryd.func41, Tryd.ntmps41
    go_wp2
    go_ret
    exact ⟨_, _, rfl, Own.nil _ _, Below.refl _ _⟩
  | some ad =>
    have HA := hide h
    have HL := hide h.len
    clear h
    have hq := fun w => eql_slice_some _ _ ad n c w Tryd.underlying28
    go_enter Tryd.func41, Tryd.ntmps41
    have HA1 := hide (HA.out.below (below_box w (.cells #[] 9)))
    go_wp2_with (at_builtin; refine wpList_append_arg rfl _ _ rfl w.heap.size _ [] rfl (Own.empty _ _ (Nat.le_refl _)) _ _ _ xs rfl HA1.out (by rw [HL.out]; simp; omega) (by simp) ?_)
    intro b1 c1 w1 ho hb
    have HO := hide ho
    have HB := hide ((below_box w (.cells #[] 9)).trans hb)
    clear ho hb
    rw [HL.out] at HO
    go_wp2
    go_ret
    exact ⟨b1, c1, by rw [HL.out]; rfl, HO.out, HB.out⟩
end Go.Proofs.YtinjbijigjfdfaaDoor
