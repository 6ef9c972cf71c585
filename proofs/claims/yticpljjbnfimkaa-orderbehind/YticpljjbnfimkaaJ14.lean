/- Texts that stand together, joined: X7, X0, X8, X9. -/
import Derived.Test.YticpljjbnfimkaaK8
import Derived.Test.YticpljjbnfimkaaR8
import Derived.Test.YticpljjbnfimkaaJ3
import Derived.Deep.RegionHeld
import Derived.RegionTactic
/- Texts that were handed in, appended and cloned; OverTexts, and which block it turns. -/
namespace Go.Proofs.Yticpljjbnfimkaa
open Go.RowKit

theorem strs_one (ys : List ByteArray) : ∀ z ∈ ys.map Value.string, z.oneCell' = true := by
  intro z hz
  obtain ⟨y, _, rfl⟩ := List.mem_map.1 hz
  rfl
theorem wpList_append_arg {w : World} {ops : Array Oper} {rest : List Oper} {o : Oper} {a : Act} {Q : Exit → Act → World → Prop} (hgd : o.guard = none) (s x : Operand)
    (ho : o.op = .call { callee := .builtin .append, args := #[s, x], argTypes := #[25, 25] })
    (base : Nat) (v : Value) (xs : List ByteArray) (hs : a.eval s = v) (hown : Own base w v xs) (ao : Option Addr) (m c : Nat) (ys : List ByteArray) (hx : a.eval x = .slice ao m c) (hu : Arg w ao m c ys)
    (hlen : xs.length + ys.length < 1000000) (hbase : base ≤ w.heap.size)
    (h : ∀ b c w', Own base w' (.slice b (xs.length + ys.length) c) (xs ++ ys) → Below base w w' → wpList Try.prog ops Q rest (a.put o.dst (.slice b (xs.length + ys.length) c)) w') : wpList Try.prog ops Q (o :: rest) a w := by
  obtain ⟨i0, hi, hz0, hz1, hz2⟩ := info_parts A9
  cases ao with
  | none =>
    obtain ⟨rfl, rfl⟩ := hu.none rfl
    have hy : ys = [] := List.eq_nil_of_length_eq_zero hu.len
    subst hy
    obtain ⟨b, c, e⟩ := hown.form
    subst e
    refine wpList_append_own_none hgd s x 25 ho base 9 i0 1 Try.underlying25 hi _ _ _ hs hown hx ?_
    exact h b c w (by simpa using hown) (Below.refl _ _)
  | some ad =>
    obtain rfl := hu.len
    refine wpList_append_own w hgd s x 25 ho base 9 i0 (.string ByteArray.empty) 1 16 Try.underlying25 hi hz0 hz1 hz2 rfl (by decide) v xs.length (xs.map Value.string) hs hown ad ys.length c (ys.map Value.string) hx (by simp) (hu.cell ad rfl) (strs_one ys) (by unfold maxLen; omega) (by omega) hbase ?_
    intro v' w' h1 h2 _
    have h3 : Own base w' v' (xs ++ ys) := Own.joined h1
    obtain ⟨b, c, e⟩ := h3.form
    rw [List.length_append] at e
    subst e
    exact h b c w' h3 (Own.grownBelow hown h2 hbase)
theorem wpList_append_whereT {w : World} {ops : Array Oper} {rest : List Oper} {o : Oper} {a : Act} {Q : Exit → Act → World → Prop} (hgd : o.guard = none) (s x : Operand)
    (ho : o.op = .call { callee := .builtin .append, args := #[s, x], argTypes := #[25, 25] })
    (base : Nat) (v : Value) (xs : List ByteArray) (hs : a.eval s = v) (hown : Own base w v xs) (ad : Addr) (m c : Nat) (ys : List ByteArray) (hx : a.eval x = .slice (some ad) m c) (hu : Arg w (some ad) m c ys)
    (hlen : xs.length + ys.length < 1000000) (hbase : base ≤ w.heap.size)
    (h : ∀ b c w', Own base w' (.slice b (xs.length + ys.length) c) (xs ++ ys) → w.grownBy w' v.ownBlock → Stays w v (.slice b (xs.length + ys.length) c) → wpList Try.prog ops Q rest (a.put o.dst (.slice b (xs.length + ys.length) c)) w') : wpList Try.prog ops Q (o :: rest) a w := by
  obtain ⟨i0, hi, hz0, hz1, hz2⟩ := info_parts A9
  obtain rfl := hu.len
  refine wpList_plain hgd fun K hK => ?_
  obtain ⟨v', w', hr, h2, h3, h4⟩ := run_append_where (P := Try.prog) w base 25 o.type 9 i0 (.string ByteArray.empty) 1 16 Try.underlying25 hi hz0 hz1 hz2 rfl (by decide) v xs.length (xs.map Value.string) hown ad ys.length c (ys.map Value.string) (by simp) (hu.cell ad rfl) (strs_one ys) (by unfold maxLen; omega) (by omega) hbase
  have h5 : Own base w' v' (xs ++ ys) := Own.joined h2
  obtain ⟨b, c', e⟩ := h5.form
  rw [List.length_append] at e
  subst e
  unfold Oper.wp execOp
  simp only [ho, resolve, invoke, builtin, Sem.run_bind, Sem.run_pure, Result.andThen_ok, List.map_toArray, List.map_cons, List.map_nil, hs, hx, hr]
  exact hK _ _ (h b c' w' h5 h3 h4)

theorem arg_one (w : World) (x : ByteArray) : Arg (w.alloc (.cells #[.string x] 9)) (some ⟨w.heap.size, 0, none⟩) 1 1 [x] := by
  refine ⟨rfl, by simp, Nat.le_refl _, fun ad e j u hu => ?_⟩
  cases e
  match j, hu with
  | 0, hu => simp at hu; subst hu; simp [add_plain]
  | j + 1, hu => simp at hu
theorem Own.empty (base : Nat) (w : World) (hb : base ≤ w.heap.size) : Own base (w.alloc (.cells #[] 9)) (.slice (some ⟨w.heap.size, 0, none⟩) 0 0) [] :=
  ⟨rfl, .inr ⟨w.heap.size, 0, #[], rfl, hb, heap_alloc_new w _, Nat.le_refl _, by unfold maxLen; omega, rfl, rfl⟩⟩

set_option maxRecDepth 100000 in
set_option maxHeartbeats 800000 in
theorem overT_none (w : World) :
    Calls Try.prog 13 #[.slice none 0 0] w fun e w' => e = .returned (.tuple #[]) ∧ w.grownBy w' none := by
  have HA := hide (arg_one w ⟨#[111, 118, 101, 114]⟩)
  go_enter Try.func13, Try.ntmps13
  go_wp2
  go_loop [2] (fun i => i = .int .i64 0) (fun _ => 0)
  case atStart => rfl
  case round =>
    subst hrel
    go_wp2_with (at_builtin; refine wpList_append_whereT rfl _ _ rfl 0 _ [] rfl (Own.nil _ _) _ _ _ [⟨#[111, 118, 101, 114]⟩] rfl HA.out (by simp) (by simp) ?_)
    intro b c w1 _ hb1 _
    go_wp2
    go_end0
    exact ⟨rfl, grown_trans (grown_box _ _ _) hb1⟩
set_option maxRecDepth 100000 in
set_option maxHeartbeats 800000 in
theorem overT_some (base g cap : Nat) (xs : List ByteArray) (w : World) (hb : base ≤ w.heap.size) (h : Own base w (.slice (some ⟨g, 0, none⟩) xs.length cap) xs) (hl : xs.length < 900000) :
    Calls Try.prog 13 #[.slice (some ⟨g, 0, none⟩) xs.length cap] w fun e w' => e = .returned (.tuple #[]) ∧ w.grownBy w' (some g) := by
  obtain ⟨n, hn⟩ : ∃ n, n = xs.length := ⟨_, rfl⟩
  have HO := hide h
  have HN := hide hn
  rw [← hn] at hl ⊢
  clear h hn
  go_enter Try.func13, Try.ntmps13
  go_wp2
  go_loopw [2] (fun i wr => ∃ k : Nat, k ≤ n ∧ i = .int .i64 k ∧ Hid (∃ ys : List ByteArray, ys.length = n ∧ Own base wr (.slice (some ⟨g, 0, none⟩) ys.length cap) ys) ∧ w.grownBy wr (some g)) (fun i _ => n - (intOf i).toNat)
  case atStart => exact ⟨0, Nat.zero_le _, rfl, ⟨xs, HN.out.symm, HO.out⟩, grown_refl _ _⟩
  case round =>
    obtain ⟨k, hk, rfl, hys, hbl⟩ := hrel
    obtain ⟨ys, hyn, hown⟩ := hys.out
    have HO2 := hide hown
    have HY := hide hyn
    clear hys hown hyn
    have hbs := hbl.size
    by_cases hlt : k < n
    · have hf : wr.frozen? ⟨g, k, none⟩ = false := World.ownsRow.frozenAt HO2.out k
      obtain ⟨y, hy⟩ : ∃ y, ys[k]? = some y := ⟨ys[k]'(by have := HY.out; omega), List.getElem?_eq_some_iff.2 ⟨_, rfl⟩⟩
      have hc : wr.cell? ⟨g, k, none⟩ = some (.string y) := by
        have h1 := World.ownsRow.cellAt HO2.out k (by have := HY.out; omega)
        rw [h1]; simp [hy]
      clear hy
      go_wp2
      go_roundw
      case rel =>
        refine ⟨k + 1, by omega, by go_num, ⟨ys.set k ⟨#[111, 118, 101, 114]⟩, by rw [List.length_set]; exact HY.out, HO2.out.stored k _⟩, grown_trans hbl (grown_setCell _ g k _)⟩
      case measure => simp [intOf]; omega
    · have HO3 := hide (HO2.out.alloc (.cells #[.string ⟨#[111, 118, 101, 114]⟩] 9))
      rw [HY.out] at HO3
      have HA := hide (arg_one wr ⟨#[111, 118, 101, 114]⟩)
      go_wp2_with (at_builtin; refine wpList_append_whereT rfl _ _ rfl base _ ys rfl HO3.out _ _ _ [⟨#[111, 118, 101, 114]⟩] rfl HA.out (by simp; have := HY.out; omega) (by simp; omega) ?_)
      intro b c w1 _ hb1 _
      go_wp2
      go_end0
      exact ⟨rfl, grown_trans hbl (grown_trans (grown_box _ _ _) hb1)⟩
theorem overT_ok (v : Value) (xs : List ByteArray) (base : Nat) (w : World) (ho : Own base w v xs) (hbw : base ≤ w.heap.size) (hl : xs.length < 900000) :
    Calls Try.prog 13 #[v] w fun e w' => e = .returned (.tuple #[]) ∧ w.grownBy w' v.ownBlock := by
  obtain ⟨_, h2⟩ := id ho
  rcases h2 with ⟨rfl, _⟩ | ⟨g, cap, cur, rfl, _⟩
  · exact overT_none w
  · exact overT_some base g cap xs w hbw ho hl
end Go.Proofs.Yticpljjbnfimkaa
/- Items, plainly (at a seat without paths). -/
namespace Go.Proofs.Yticpljjbnfimkaa
open Go.RowKit

/-- An item: its name, its references, its tree. -/
abbrev It := ByteArray × List ByteArray × List Nd
/-- Neither its name, nor its references, nor its paths are too long to be gone through. -/
structure Fair (i : It) : Prop where
  name : i.1.size < 900000
  refs : i.2.1.length < 900000
  ref : ∀ x ∈ i.2.1, x.size < 900000
  tree : i.2.2.length < 900000
  path : ∀ n ∈ i.2.2, n.1.size < 900000 ∧ n.2.2.size < 900000
end Go.Proofs.Yticpljjbnfimkaa
/- The walk of item's Own. -/
namespace Go.Proofs.Yticpljjbnfimkaa
open Go.RowKit

theorem Own.far {base g : Nat} {w w' : World} {v : Value} {xs : List ByteArray} (h : Own base w v xs) (hg : w.grownBy w' (some g)) (hlt : g < base) : Own base w' v xs :=
  World.ownsRow.kept h hg (.inr fun e => by have := (h.lt g e).1; omega)
theorem OwnN.far {base g : Nat} {w w' : World} {v : Value} {ns : List Nd} (h : OwnN base w v ns) (hg : w.grownBy w' (some g)) (hlt : g < base) : OwnN base w' v ns :=
  World.ownsRow.kept h hg (.inr fun e => by have := (h.lt g e).1; omega)
theorem struct_item : Try.prog.underlying 33 = some (.struct (Try.prog.fieldsOf 33)) := by kernel_rfl
theorem size_of_item : (Try.prog.info? 33).map (·.size) = some 3 := by kernel_rfl

end Go.Proofs.Yticpljjbnfimkaa
/- A slice of items in memory; the walk of item's Names. -/
namespace Go.Proofs.Yticpljjbnfimkaa
open Go.RowKit

/-- The item i stands in block b from place o on. -/
def ItAt (w : World) (b o : Nat) (i : It) : Prop :=
  ∃ ra rn rc ta tn tc, w.cell? ⟨b, o, none⟩ = some (.string i.1) ∧ w.cell? ⟨b, o + 1, none⟩ = some (.slice ra rn rc) ∧ w.cell? ⟨b, o + 2, none⟩ = some (.slice ta tn tc) ∧ Txt w (.slice ra rn rc) i.2.1 ∧ Nods w (.slice ta tn tc) i.2.2
theorem ItAt.below {w w' : World} {b o : Nat} {i : It} (h : ItAt w b o i) (hb : Below w.heap.size w w') : ItAt w' b o i := by
  obtain ⟨ra, rn, rc, ta, tn, tc, h0, h1, h2, h3, h4⟩ := h
  have hlt : b < w.heap.size := (addr_plain h0).2
  exact ⟨ra, rn, rc, ta, tn, tc, (hb.cell (p := ⟨b, o, none⟩) hlt).trans h0, (hb.cell (p := ⟨b, o + 1, none⟩) hlt).trans h1, (hb.cell (p := ⟨b, o + 2, none⟩) hlt).trans h2, h3.below hb, h4.below hb⟩
/-- From place o of block b on stand the items. -/
def RunI (w : World) (b o : Nat) (is : List It) : Prop := b < w.heap.size ∧ ∀ (j : Nat) i, is[j]? = some i → ItAt w b (o + j * 3) i
theorem RunI.below {w w' : World} {b o : Nat} {is : List It} (h : RunI w b o is) (hb : Below w.heap.size w w') : RunI w' b o is :=
  ⟨Nat.lt_of_lt_of_le h.1 hb.size, fun j i hi => (h.2 j i hi).below hb⟩
/-- The slice v holds the items. -/
def Its (w : World) (v : Value) (is : List It) : Prop :=
  (is = [] ∧ ∃ a c, v = .slice a 0 c) ∨ (∃ b o c, v = .slice (some ⟨b, o, none⟩) is.length c ∧ is.length ≤ c ∧ RunI w b o is)
theorem Its.below {w w' : World} {v : Value} {is : List It} (h : Its w v is) (hb : Below w.heap.size w w') : Its w' v is := by
  rcases h with h | ⟨b, o, c, rfl, hc, hr⟩
  · exact .inl h
  · exact .inr ⟨b, o, c, rfl, hc, hr.below hb⟩
theorem Its.form {w : World} {v : Value} {is : List It} (h : Its w v is) : ∃ a c, v = .slice a is.length c := by
  rcases h with ⟨rfl, a, c, rfl⟩ | ⟨b, o, c, rfl, _⟩
  · exact ⟨a, c, rfl⟩
  · exact ⟨_, c, rfl⟩
/-- A new slice of one item. -/
theorem Its.one {w : World} {i : It} {ra : Option Addr} {rn rc : Nat} {ta : Option Addr} {tn tc : Nat} (h : Txt w (.slice ra rn rc) i.2.1) (k : Nods w (.slice ta tn tc) i.2.2) :
    Its (w.alloc (.cells #[.string i.1, .slice ra rn rc, .slice ta tn tc] 33)) (.slice (some ⟨w.heap.size, 0, none⟩) 1 1) [i] := by
  refine .inr ⟨w.heap.size, 0, 1, rfl, Nat.le_refl _, by simp, fun j x hx => ?_⟩
  match j, hx with
  | 0, hx =>
    simp at hx
    subst hx
    exact ⟨ra, rn, rc, ta, tn, tc, by simp, by simp, by simp, h.below (below_alloc _ _), k.below (below_alloc _ _)⟩
  | j + 1, hx => simp at hx
/-- A new slice of two items. -/
theorem Its.two {w : World} {i i' : It} {ra : Option Addr} {rn rc : Nat} {ta : Option Addr} {tn tc : Nat} {ra' : Option Addr} {rn' rc' : Nat} {ta' : Option Addr} {tn' tc' : Nat} (h : Txt w (.slice ra rn rc) i.2.1) (k : Nods w (.slice ta tn tc) i.2.2)
    (h' : Txt w (.slice ra' rn' rc') i'.2.1) (k' : Nods w (.slice ta' tn' tc') i'.2.2) :
    Its (w.alloc (.cells #[.string i.1, .slice ra rn rc, .slice ta tn tc, .string i'.1, .slice ra' rn' rc', .slice ta' tn' tc'] 33)) (.slice (some ⟨w.heap.size, 0, none⟩) 2 2) [i, i'] := by
  refine .inr ⟨w.heap.size, 0, 2, rfl, Nat.le_refl _, by simp, fun j x hx => ?_⟩
  match j, hx with
  | 0, hx =>
    simp at hx
    subst hx
    exact ⟨ra, rn, rc, ta, tn, tc, by simp, by simp, by simp, h.below (below_alloc _ _), k.below (below_alloc _ _)⟩
  | 1, hx =>
    simp at hx
    subst hx
    exact ⟨ra', rn', rc', ta', tn', tc', by simp, by simp, by simp, h'.below (below_alloc _ _), k'.below (below_alloc _ _)⟩
  | j + 2, hx => simp at hx

set_option maxRecDepth 100000 in
set_option maxHeartbeats 1000000 in
theorem names_some (b o c n : Nat) (is : List It) (w : World) (hn : n = is.length) (h1 : n < 900000) (hr : RunI w b o is) :
    Calls Try.prog 25 #[.slice (some ⟨b, o, none⟩) n c] w fun e w' => ∃ a' c', e = .returned (.slice a' n c') ∧ Own w.heap.size w' (.slice a' n c') (is.map (·.1)) ∧ Below w.heap.size w w' := by
  have HN := hide hn
  have HR := hide hr
  obtain ⟨i0, hi, hz0, hz1, hz2⟩ := info_parts A9
  clear hn hr
  go_enter Try.func25, Try.ntmps25
  go_wp2_with (at_make; refine wpList_make_own w rfl _ _ 25 rfl w.heap.size 9 i0 (.string ByteArray.empty) 1 Try.underlying25 hi hz0 hz1 .i64 .i64 _ n rfl rfl ?c1 ?c2 ?c3 (Nat.le_refl _) ?_)
  case c1 => simp
  case c2 => rw [hz2]; omega
  case c3 => unfold maxLen; omega
  intro w1 hown1 hgrow1
  have hb1 : Below w.heap.size w w1 := (Below.refl _ w).grown hgrow1 (Nat.le_refl _) (fun k hk => by cases hk)
  have HO1 : Hid (Own w.heap.size w1 (.slice (some ⟨w.heap.size, 0, none⟩) 0 n) []) := hown1
  clear hown1 hgrow1 hi hz0 hz1 hz2
  go_wp2
  go_loopw [3, 5, 11] (fun v _ i wr => ∃ (k : Nat) (xs : List ByteArray) (a' : Option Addr) (c' : Nat), k ≤ n ∧ i = .int .i64 k ∧ v = .slice a' k c' ∧ Hid (xs = (is.take k).map (·.1)) ∧ Hid (xs.length = k) ∧ Hid (Own w.heap.size wr (.slice a' k c') xs) ∧ Hid (Below w.heap.size w wr)) (fun _ _ i _ => n - (intOf i).toNat)
  case atStart => exact ⟨0, [], _, _, Nat.zero_le _, rfl, rfl, rfl, rfl, HO1, hb1⟩
  case round =>
    obtain ⟨k, xs, a', c', hk, rfl, rfl, HXS, HXL, HO, HB⟩ := hrel
    by_cases hlt : k < n
    · obtain ⟨i, hi⟩ : ∃ i, is[k]? = some i := ⟨is[k]'(by have := HN.out; omega), List.getElem?_eq_some_iff.2 ⟨_, rfl⟩⟩
      obtain ⟨ra, rn, rc, ta, tn, tc, q0, q1, q2, _, _⟩ := (HR.out.2 k i hi).below HB.out
      have HI := hide hi
      have hki : (k : Int) < (n : Int) := by omega
      have hbs : w.heap.size ≤ wr.heap.size := HB.out.size
      clear hi
      have HOA := hide ((HO.out.alloc (.cells #[.string i.1, .slice ra rn rc, .slice ta tn tc] 33)).alloc (.cells #[.string i.1] 9))
      have HA := hide (arg_one (wr.alloc (.cells #[.string i.1, .slice ra rn rc, .slice ta tn tc] 33)) i.1)
      have HBA := hide (below_two HB.out (below_two (below_box wr (.cells #[.string i.1, .slice ra rn rc, .slice ta tn tc] 33)) (below_box _ (.cells #[.string i.1] 9))))
      rw [show (wr.alloc (.cells #[.string i.1, .slice ra rn rc, .slice ta tn tc] 33)).heap.size = wr.heap.size + 1 by simp] at HA
      go_wp2_with (at_builtin; refine wpList_append_arg rfl _ _ rfl w.heap.size _ xs rfl HOA.out _ _ _ [i.1] rfl HA.out ?d1 ?d2 ?_)
      case d1 => rw [HXL.out]; simp; omega
      case d2 => simp; omega
      intro b2 c2 w2 ho2 hb2
      have HB2 := hide (HBA.out.trans hb2)
      have HO2 := hide ho2
      rw [HXL.out] at HO2
      clear ho2 hb2
      go_wp2
      go_roundw
      case rel =>
        refine ⟨k + 1, xs ++ [i.1], b2, c2, by omega, by go_num, by rw [HXL.out], ?_, by rw [List.length_append, HXL.out]; exact hide rfl, HO2, HB2⟩
        obtain ⟨hkl, e⟩ := List.getElem?_eq_some_iff.1 HI.out
        rw [List.take_succ_eq_append_getElem hkl, List.map_append, HXS.out, e]
        exact hide rfl
      case measure => simp [intOf]; omega
    · obtain rfl : k = n := by omega
      go_wp2
      go_ret
      refine ⟨a', c', rfl, ?_, HB.out⟩
      have h3 := HO.out
      rw [HXS.out, HN.out, List.take_length, ← HN.out] at h3
      exact h3
set_option maxRecDepth 100000 in
set_option maxHeartbeats 400000 in
theorem names_none (a : Option Addr) (c : Nat) (w : World) :
    Calls Try.prog 25 #[.slice a 0 c] w fun e w' => ∃ a' c', e = .returned (.slice a' 0 c') ∧ Own w.heap.size w' (.slice a' 0 c') [] ∧ Below w.heap.size w w' := by
  obtain ⟨i0, hi, hz0, hz1, hz2⟩ := info_parts A9
  go_enter Try.func25, Try.ntmps25
  go_wp2_with (at_make; refine wpList_make_own w rfl _ _ 25 rfl w.heap.size 9 i0 (.string ByteArray.empty) 1 Try.underlying25 hi hz0 hz1 .i64 .i64 _ 0 rfl rfl ?c1 ?c2 ?c3 (Nat.le_refl _) ?_)
  case c1 => simp
  case c2 => rw [hz2]; omega
  case c3 => unfold maxLen; omega
  intro w1 hown1 hgrow1
  have hb1 : Below w.heap.size w w1 := (Below.refl _ w).grown hgrow1 (Nat.le_refl _) (fun k hk => by cases hk)
  have HO1 : Hid (Own w.heap.size w1 (.slice (some ⟨w.heap.size, 0, none⟩) 0 0) []) := hown1
  clear hown1 hgrow1 hi hz0 hz1 hz2
  go_wp2
  go_loop [3, 5, 11] (fun v _ i => i = .int .i64 0 ∧ v = .slice (some ⟨w.heap.size, 0, none⟩) 0 0) (fun _ _ _ => 0)
  case atStart => exact ⟨rfl, rfl⟩
  case round =>
    obtain ⟨rfl, rfl⟩ := hrel
    go_wp2
    go_ret
    exact ⟨_, _, rfl, HO1.out, hb1⟩
theorem names_ok (v : Value) (is : List It) (l : List ByteArray) (w : World) (h : Its w v is) (h1 : is.length < 900000) (hl : is.map (·.1) = l) :
    Calls Try.prog 25 #[v] w fun e w' => ∃ a' c', e = .returned (.slice a' is.length c') ∧ Own w.heap.size w' (.slice a' is.length c') l ∧ Below w.heap.size w w' := by
  subst hl
  rcases h with ⟨rfl, a, c, rfl⟩ | ⟨b, o, c, rfl, _, hr⟩
  · exact names_none a c w
  · exact names_some b o c is.length is w rfl h1 hr
end Go.Proofs.Yticpljjbnfimkaa
