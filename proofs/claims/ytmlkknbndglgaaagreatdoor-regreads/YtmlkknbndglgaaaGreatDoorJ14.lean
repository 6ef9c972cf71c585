/- Texts that stand together, joined: X5, X6, X7, X8, X9. -/
import Derived.Test.YtmlkknbndglgaaaGreatDoorJ8
import Derived.Test.YtmlkknbndglgaaaGreatDoorT1
import Derived.Test.YtmlkknbndglgaaaGreatDoorR8
import Derived.Test.YtmlkknbndglgaaaGreatDoorJ6
import Derived.Deep.RegionHeld
import Derived.RegionTactic
/- Items in memory; the walks of item's May and Same. -/
namespace Go.Proofs.YtmlkknbndglgaaaGreatDoor
open Go.RowKit

/-- An item: its name, its references, its tree. -/
abbrev It := ByteArray × List ByteArray × List Nd
def mayI (i : It) : Bool := Hog.nameL i.1.data.toList && refsB i.2.1 && ownB i.2.2
/-- Neither its name, nor its references, nor its paths are too long to be gone through. -/
structure Fair (i : It) : Prop where
  name : i.1.size < 900000
  refs : i.2.1.length < 900000
  ref : ∀ x ∈ i.2.1, x.size < 900000
  tree : i.2.2.length < 900000
  path : ∀ n ∈ i.2.2, n.1.size < 900000 ∧ n.2.2.size < 900000

/-- The cells of an item, as a struct has them. -/
def icells (nm : ByteArray) (ra : Option Addr) (rn rc : Nat) (ta : Option Addr) (tn tc : Nat) : Obj := .cells #[.string nm, .slice ra rn rc, .slice ta tn tc] 47

set_option maxRecDepth 100000 in
set_option maxHeartbeats 1000000 in
theorem mayI_ok (i : It) (ra : Option Addr) (rn rc : Nat) (ta : Option Addr) (tn tc : Nat) (r : Bool) (w0 w : World) (hok : Ok w0 w) (hf : Fair i) (hr : Txt w (.slice ra rn rc) i.2.1) (ht : Nods w (.slice ta tn tc) i.2.2) (hv : mayI i = r) :
    Calls Tryz.prog 63 #[.agg #[.string i.1, .slice ra rn rc, .slice ta tn tc]] w fun e w' => e = .returned (.bool r) ∧ Ok w0 w' ∧ Below w.heap.size w w' := by
  have HV := hide hv
  have hnm := hf.name
  have HF := hide hf
  have HB0 := hide (below_box w (icells i.1 ra rn rc ta tn tc))
  have OK0 := hide (hok.alloc (icells i.1 ra rn rc ta tn tc))
  have HT := hide hr
  have HN := hide ht
  have c0 : (w.alloc (icells i.1 ra rn rc ta tn tc)).cell? ⟨w.heap.size, 0, none⟩ = some (.string i.1) := by simp [icells]
  have c1 : (w.alloc (icells i.1 ra rn rc ta tn tc)).cell? ⟨w.heap.size, 1, none⟩ = some (.slice ra rn rc) := by simp [icells]
  have c2 : (w.alloc (icells i.1 ra rn rc ta tn tc)).cell? ⟨w.heap.size, 2, none⟩ = some (.slice ta tn tc) := by simp [icells]
  have hsz : w.heap.size < (w.alloc (icells i.1 ra rn rc ta tn tc)).heap.size := by simp
  clear hv hf hr ht
  cases h1 : Hog.nameL i.1.data.toList with
  | false =>
    have H1 := hide h1
    clear h1
    go_enter Tryz.func63, Tryz.ntmps63
    go_wp2_with fail
    refine (name_ok i.1 false _ (by omega) H1.out).mono ?_
    rintro e w1 ⟨rfl, hb1⟩
    go_wp2
    go_ret
    exact ⟨ret_bool (by rw [← HV.out]; unfold mayI; rw [H1.out]; rfl), OK0.out.next hb1, below_two HB0.out hb1⟩
  | true =>
    have H1 := hide h1
    clear h1
    cases h2 : refsB i.2.1 with
    | false =>
      have H2 := hide h2
      clear h2
      go_enter Tryz.func63, Tryz.ntmps63
      go_wp2_with fail
      refine (name_ok i.1 true _ (by omega) H1.out).mono ?_
      rintro e w1 ⟨rfl, hb1⟩
      have d1 := (hb1.cell (p := ⟨w.heap.size, 1, none⟩) hsz).trans c1
      have HB1 := hide (below_two HB0.out hb1)
      have OK1 := hide (OK0.out.next hb1)
      clear hb1 c0 c1 c2
      go_wp2_with fail
      refine (refer_ok _ i.2.1 false _ (HT.out.below HB1.out) (by have := HF.out.refs; unfold maxLen; omega) (fun x hx => by have := HF.out.ref x hx; omega) H2.out).mono ?_
      rintro e w2 ⟨rfl, hb2⟩
      go_wp2
      go_ret
      exact ⟨ret_bool (by rw [← HV.out]; unfold mayI; rw [H1.out, H2.out]; rfl), OK1.out.next hb2, below_two HB1.out hb2⟩
    | true =>
      have H2 := hide h2
      clear h2
      have H3 : Hid (ownB i.2.2 = r) := by
        rw [← HV.out]; unfold mayI; rw [H1.out, H2.out]; exact (Bool.true_and _).symm
      go_enter Tryz.func63, Tryz.ntmps63
      go_wp2_with fail
      refine (name_ok i.1 true _ (by omega) H1.out).mono ?_
      rintro e w1 ⟨rfl, hb1⟩
      have d1 := (hb1.cell (p := ⟨w.heap.size, 1, none⟩) hsz).trans c1
      have d2 := (hb1.cell (p := ⟨w.heap.size, 2, none⟩) hsz).trans c2
      have hsz1 : w.heap.size < w1.heap.size := Nat.lt_of_lt_of_le hsz hb1.size
      have HB1 := hide (below_two HB0.out hb1)
      have OK1 := hide (OK0.out.next hb1)
      clear hb1 c0 c1 c2 hsz
      go_wp2_with fail
      refine (refer_ok _ i.2.1 true _ (HT.out.below HB1.out) (by have := HF.out.refs; unfold maxLen; omega) (fun x hx => by have := HF.out.ref x hx; omega) H2.out).mono ?_
      rintro e w2 ⟨rfl, hb2⟩
      have f2 := (hb2.cell (p := ⟨w.heap.size, 2, none⟩) hsz1).trans d2
      have HB2 := hide (below_two HB1.out hb2)
      have OK2 := hide (OK1.out.next hb2)
      clear hb2 d1 d2
      go_wp2_with fail
      refine (stand_ok _ i.2.2 r w0 _ OK2.out (HN.out.below HB2.out) (by have := HF.out.tree; unfold maxLen; omega) (fun x hx => (HF.out.path x hx).1) H3.out).mono ?_
      rintro e w3 ⟨rfl, ok3, hb3⟩
      go_wp2
      go_ret
      exact ⟨rfl, ok3, below_two HB2.out hb3⟩
end Go.Proofs.YtmlkknbndglgaaaGreatDoor
/- The walks of slices.Equal at texts, of item's Same, of the document's own SameTexts and Same. -/
namespace Go.Proofs.YtmlkknbndglgaaaGreatDoor
open Go.RowKit

end Go.Proofs.YtmlkknbndglgaaaGreatDoor
/- Texts that were handed in, appended and cloned; OverTexts, and which block it turns. -/
namespace Go.Proofs.YtmlkknbndglgaaaGreatDoor
open Go.RowKit

theorem strs_one (ys : List ByteArray) : ∀ z ∈ ys.map Value.string, z.oneCell' = true := by
  intro z hz
  obtain ⟨y, _, rfl⟩ := List.mem_map.1 hz
  rfl
theorem wpList_append_arg {w : World} {ops : Array Oper} {rest : List Oper} {o : Oper} {a : Act} {Q : Exit → Act → World → Prop} (hgd : o.guard = none) (s x : Operand)
    (ho : o.op = .call { callee := .builtin .append, args := #[s, x], argTypes := #[23, 23] })
    (base : Nat) (v : Value) (xs : List ByteArray) (hs : a.eval s = v) (hown : Own base w v xs) (ao : Option Addr) (m c : Nat) (ys : List ByteArray) (hx : a.eval x = .slice ao m c) (hu : Arg w ao m c ys)
    (hlen : xs.length + ys.length < 1000000) (hbase : base ≤ w.heap.size)
    (h : ∀ b c w', Own base w' (.slice b (xs.length + ys.length) c) (xs ++ ys) → Below base w w' → wpList Tryz.prog ops Q rest (a.put o.dst (.slice b (xs.length + ys.length) c)) w') : wpList Tryz.prog ops Q (o :: rest) a w := by
  obtain ⟨i0, hi, hz0, hz1, hz2⟩ := info_parts A9
  cases ao with
  | none =>
    obtain ⟨rfl, rfl⟩ := hu.none rfl
    have hy : ys = [] := List.eq_nil_of_length_eq_zero hu.len
    subst hy
    obtain ⟨b, c, e⟩ := hown.form
    subst e
    refine wpList_append_own_none hgd s x 23 ho base 9 i0 1 Tryz.underlying23 hi _ _ _ hs hown hx ?_
    exact h b c w (by simpa using hown) (Below.refl _ _)
  | some ad =>
    obtain rfl := hu.len
    refine wpList_append_own w hgd s x 23 ho base 9 i0 (.string ByteArray.empty) 1 16 Tryz.underlying23 hi hz0 hz1 hz2 rfl (by decide) v xs.length (xs.map Value.string) hs hown ad ys.length c (ys.map Value.string) hx (by simp) (hu.cell ad rfl) (strs_one ys) (by unfold maxLen; omega) (by omega) hbase ?_
    intro v' w' h1 h2 _
    have h3 : Own base w' v' (xs ++ ys) := Own.joined h1
    obtain ⟨b, c, e⟩ := h3.form
    rw [List.length_append] at e
    subst e
    exact h b c w' h3 (Own.grownBelow hown h2 hbase)
theorem wpList_append_whereT {w : World} {ops : Array Oper} {rest : List Oper} {o : Oper} {a : Act} {Q : Exit → Act → World → Prop} (hgd : o.guard = none) (s x : Operand)
    (ho : o.op = .call { callee := .builtin .append, args := #[s, x], argTypes := #[23, 23] })
    (base : Nat) (v : Value) (xs : List ByteArray) (hs : a.eval s = v) (hown : Own base w v xs) (ad : Addr) (m c : Nat) (ys : List ByteArray) (hx : a.eval x = .slice (some ad) m c) (hu : Arg w (some ad) m c ys)
    (hlen : xs.length + ys.length < 1000000) (hbase : base ≤ w.heap.size)
    (h : ∀ b c w', Own base w' (.slice b (xs.length + ys.length) c) (xs ++ ys) → w.grownBy w' v.ownBlock → Stays w v (.slice b (xs.length + ys.length) c) → wpList Tryz.prog ops Q rest (a.put o.dst (.slice b (xs.length + ys.length) c)) w') : wpList Tryz.prog ops Q (o :: rest) a w := by
  obtain ⟨i0, hi, hz0, hz1, hz2⟩ := info_parts A9
  obtain rfl := hu.len
  refine wpList_plain hgd fun K hK => ?_
  obtain ⟨v', w', hr, h2, h3, h4⟩ := run_append_where (P := Tryz.prog) w base 23 o.type 9 i0 (.string ByteArray.empty) 1 16 Tryz.underlying23 hi hz0 hz1 hz2 rfl (by decide) v xs.length (xs.map Value.string) hown ad ys.length c (ys.map Value.string) (by simp) (hu.cell ad rfl) (strs_one ys) (by unfold maxLen; omega) (by omega) hbase
  have h5 : Own base w' v' (xs ++ ys) := Own.joined h2
  obtain ⟨b, c', e⟩ := h5.form
  rw [List.length_append] at e
  subst e
  unfold Oper.wp execOp
  simp only [ho, resolve, invoke, builtin, Sem.run_bind, Sem.run_pure, Result.andThen_ok, List.map_toArray, List.map_cons, List.map_nil, hs, hx, hr]
  exact hK _ _ (h b c' w' h5 h3 h4)

theorem arg_one (w : World) (x : ByteArray) : Arg (w.alloc (.cells #[.string x] 9)) (some ⟨w.heap.size, 0, none⟩) 1 1 [x] := by
  refine ⟨rfl, by simp, Nat.le_refl _, fun ad e j u hu => ?_⟩
  cases e
  match j, hu with
  | 0, hu => simp at hu; subst hu; simp [add_plain]
  | j + 1, hu => simp at hu
theorem Own.empty (base : Nat) (w : World) (hb : base ≤ w.heap.size) : Own base (w.alloc (.cells #[] 9)) (.slice (some ⟨w.heap.size, 0, none⟩) 0 0) [] :=
  ⟨rfl, .inr ⟨w.heap.size, 0, #[], rfl, hb, heap_alloc_new w _, Nat.le_refl _, by unfold maxLen; omega, rfl, rfl⟩⟩

set_option maxRecDepth 100000 in
set_option maxHeartbeats 800000 in
theorem overT_none (w : World) :
    Calls Tryz.prog 19 #[.slice none 0 0] w fun e w' => e = .returned (.tuple #[]) ∧ w.grownBy w' none := by
  have HA := hide (arg_one w ⟨#[111, 118, 101, 114]⟩)
  go_enter Tryz.func19, Tryz.ntmps19
  go_wp2
  go_loop [2] (fun i => i = .int .i64 0) (fun _ => 0)
  case atStart => rfl
  case round =>
    subst hrel
    go_wp2_with (at_builtin; refine wpList_append_whereT rfl _ _ rfl 0 _ [] rfl (Own.nil _ _) _ _ _ [⟨#[111, 118, 101, 114]⟩] rfl HA.out (by simp) (by simp) ?_)
    intro b c w1 _ hb1 _
    go_wp2
    go_end0
    exact ⟨rfl, grown_trans (grown_box _ _ _) hb1⟩
set_option maxRecDepth 100000 in
set_option maxHeartbeats 800000 in
theorem overT_some (base g cap : Nat) (xs : List ByteArray) (w : World) (hb : base ≤ w.heap.size) (h : Own base w (.slice (some ⟨g, 0, none⟩) xs.length cap) xs) (hl : xs.length < 900000) :
    Calls Tryz.prog 19 #[.slice (some ⟨g, 0, none⟩) xs.length cap] w fun e w' => e = .returned (.tuple #[]) ∧ w.grownBy w' (some g) := by
  obtain ⟨n, hn⟩ : ∃ n, n = xs.length := ⟨_, rfl⟩
  have HO := hide h
  have HN := hide hn
  rw [← hn] at hl ⊢
  clear h hn
  go_enter Tryz.func19, Tryz.ntmps19
  go_wp2
  go_loopw [2] (fun i wr => ∃ k : Nat, k ≤ n ∧ i = .int .i64 k ∧ Hid (∃ ys : List ByteArray, ys.length = n ∧ Own base wr (.slice (some ⟨g, 0, none⟩) ys.length cap) ys) ∧ w.grownBy wr (some g)) (fun i _ => n - (intOf i).toNat)
  case atStart => exact ⟨0, Nat.zero_le _, rfl, ⟨xs, HN.out.symm, HO.out⟩, grown_refl _ _⟩
  case round =>
    obtain ⟨k, hk, rfl, hys, hbl⟩ := hrel
    obtain ⟨ys, hyn, hown⟩ := hys.out
    have HO2 := hide hown
    have HY := hide hyn
    clear hys hown hyn
    have hbs := hbl.size
    by_cases hlt : k < n
    · have hf : wr.frozen? ⟨g, k, none⟩ = false := World.ownsRow.frozenAt HO2.out k
      obtain ⟨y, hy⟩ : ∃ y, ys[k]? = some y := ⟨ys[k]'(by have := HY.out; omega), List.getElem?_eq_some_iff.2 ⟨_, rfl⟩⟩
      have hc : wr.cell? ⟨g, k, none⟩ = some (.string y) := by
        have h1 := World.ownsRow.cellAt HO2.out k (by have := HY.out; omega)
        rw [h1]; simp [hy]
      clear hy
      go_wp2
      go_roundw
      case rel =>
        refine ⟨k + 1, by omega, by go_num, ⟨ys.set k ⟨#[111, 118, 101, 114]⟩, by rw [List.length_set]; exact HY.out, HO2.out.stored k _⟩, grown_trans hbl (grown_setCell _ g k _)⟩
      case measure => simp [intOf]; omega
    · have HO3 := hide (HO2.out.alloc (.cells #[.string ⟨#[111, 118, 101, 114]⟩] 9))
      rw [HY.out] at HO3
      have HA := hide (arg_one wr ⟨#[111, 118, 101, 114]⟩)
      go_wp2_with (at_builtin; refine wpList_append_whereT rfl _ _ rfl base _ ys rfl HO3.out _ _ _ [⟨#[111, 118, 101, 114]⟩] rfl HA.out (by simp; have := HY.out; omega) (by simp; omega) ?_)
      intro b c w1 _ hb1 _
      go_wp2
      go_end0
      exact ⟨rfl, grown_trans hbl (grown_trans (grown_box _ _ _) hb1)⟩
theorem overT_ok (v : Value) (xs : List ByteArray) (base : Nat) (w : World) (ho : Own base w v xs) (hbw : base ≤ w.heap.size) (hl : xs.length < 900000) :
    Calls Tryz.prog 19 #[v] w fun e w' => e = .returned (.tuple #[]) ∧ w.grownBy w' v.ownBlock := by
  obtain ⟨_, h2⟩ := id ho
  rcases h2 with ⟨rfl, _⟩ | ⟨g, cap, cur, rfl, _⟩
  · exact overT_none w
  · exact overT_some base g cap xs w hbw ho hl
end Go.Proofs.YtmlkknbndglgaaaGreatDoor
/- The walk of item's Own. -/
namespace Go.Proofs.YtmlkknbndglgaaaGreatDoor
open Go.RowKit

theorem Own.far {base g : Nat} {w w' : World} {v : Value} {xs : List ByteArray} (h : Own base w v xs) (hg : w.grownBy w' (some g)) (hlt : g < base) : Own base w' v xs :=
  World.ownsRow.kept h hg (.inr fun e => by have := (h.lt g e).1; omega)
theorem OwnN.far {base g : Nat} {w w' : World} {v : Value} {ns : List Nd} (h : OwnN base w v ns) (hg : w.grownBy w' (some g)) (hlt : g < base) : OwnN base w' v ns :=
  World.ownsRow.kept h hg (.inr fun e => by have := (h.lt g e).1; omega)
theorem struct_item : Tryz.prog.underlying 47 = some (.struct (Tryz.prog.fieldsOf 47)) := by kernel_rfl
theorem size_of_item : (Tryz.prog.info? 47).map (·.size) = some 3 := by kernel_rfl

end Go.Proofs.YtmlkknbndglgaaaGreatDoor
/- A slice of items in memory; the walk of item's Names. -/
namespace Go.Proofs.YtmlkknbndglgaaaGreatDoor
open Go.RowKit

/-- The item i stands in block b from place o on. -/
def ItAt (w : World) (b o : Nat) (i : It) : Prop :=
  ∃ ra rn rc ta tn tc, w.cell? ⟨b, o, none⟩ = some (.string i.1) ∧ w.cell? ⟨b, o + 1, none⟩ = some (.slice ra rn rc) ∧ w.cell? ⟨b, o + 2, none⟩ = some (.slice ta tn tc) ∧ Txt w (.slice ra rn rc) i.2.1 ∧ Nods w (.slice ta tn tc) i.2.2
theorem ItAt.below {w w' : World} {b o : Nat} {i : It} (h : ItAt w b o i) (hb : Below w.heap.size w w') : ItAt w' b o i := by
  obtain ⟨ra, rn, rc, ta, tn, tc, h0, h1, h2, h3, h4⟩ := h
  have hlt : b < w.heap.size := (addr_plain h0).2
  exact ⟨ra, rn, rc, ta, tn, tc, (hb.cell (p := ⟨b, o, none⟩) hlt).trans h0, (hb.cell (p := ⟨b, o + 1, none⟩) hlt).trans h1, (hb.cell (p := ⟨b, o + 2, none⟩) hlt).trans h2, h3.below hb, h4.below hb⟩
/-- From place o of block b on stand the items. -/
def RunI (w : World) (b o : Nat) (is : List It) : Prop := b < w.heap.size ∧ ∀ (j : Nat) i, is[j]? = some i → ItAt w b (o + j * 3) i
theorem RunI.below {w w' : World} {b o : Nat} {is : List It} (h : RunI w b o is) (hb : Below w.heap.size w w') : RunI w' b o is :=
  ⟨Nat.lt_of_lt_of_le h.1 hb.size, fun j i hi => (h.2 j i hi).below hb⟩
def namesI (is : List It) : List ByteArray := is.map (·.1)
/-- The slice v holds the items. -/
def Its (w : World) (v : Value) (is : List It) : Prop :=
  (is = [] ∧ ∃ a c, v = .slice a 0 c) ∨ (∃ b o c, v = .slice (some ⟨b, o, none⟩) is.length c ∧ is.length ≤ c ∧ RunI w b o is)
theorem Its.below {w w' : World} {v : Value} {is : List It} (h : Its w v is) (hb : Below w.heap.size w w') : Its w' v is := by
  rcases h with h | ⟨b, o, c, rfl, hc, hr⟩
  · exact .inl h
  · exact .inr ⟨b, o, c, rfl, hc, hr.below hb⟩
theorem Its.form {w : World} {v : Value} {is : List It} (h : Its w v is) : ∃ a c, v = .slice a is.length c := by
  rcases h with ⟨rfl, a, c, rfl⟩ | ⟨b, o, c, rfl, _⟩
  · exact ⟨a, c, rfl⟩
  · exact ⟨_, c, rfl⟩
/-- A new slice of one item. -/
theorem Its.one {w : World} {i : It} {ra : Option Addr} {rn rc : Nat} {ta : Option Addr} {tn tc : Nat} (h : Txt w (.slice ra rn rc) i.2.1) (k : Nods w (.slice ta tn tc) i.2.2) :
    Its (w.alloc (.cells #[.string i.1, .slice ra rn rc, .slice ta tn tc] 47)) (.slice (some ⟨w.heap.size, 0, none⟩) 1 1) [i] := by
  refine .inr ⟨w.heap.size, 0, 1, rfl, Nat.le_refl _, by simp, fun j x hx => ?_⟩
  match j, hx with
  | 0, hx =>
    simp at hx
    subst hx
    exact ⟨ra, rn, rc, ta, tn, tc, by simp, by simp, by simp, h.below (below_alloc _ _), k.below (below_alloc _ _)⟩
  | j + 1, hx => simp at hx
/-- A new slice of two items. -/
theorem Its.two {w : World} {i i' : It} {ra : Option Addr} {rn rc : Nat} {ta : Option Addr} {tn tc : Nat} {ra' : Option Addr} {rn' rc' : Nat} {ta' : Option Addr} {tn' tc' : Nat} (h : Txt w (.slice ra rn rc) i.2.1) (k : Nods w (.slice ta tn tc) i.2.2)
    (h' : Txt w (.slice ra' rn' rc') i'.2.1) (k' : Nods w (.slice ta' tn' tc') i'.2.2) :
    Its (w.alloc (.cells #[.string i.1, .slice ra rn rc, .slice ta tn tc, .string i'.1, .slice ra' rn' rc', .slice ta' tn' tc'] 47)) (.slice (some ⟨w.heap.size, 0, none⟩) 2 2) [i, i'] := by
  refine .inr ⟨w.heap.size, 0, 2, rfl, Nat.le_refl _, by simp, fun j x hx => ?_⟩
  match j, hx with
  | 0, hx =>
    simp at hx
    subst hx
    exact ⟨ra, rn, rc, ta, tn, tc, by simp, by simp, by simp, h.below (below_alloc _ _), k.below (below_alloc _ _)⟩
  | 1, hx =>
    simp at hx
    subst hx
    exact ⟨ra', rn', rc', ta', tn', tc', by simp, by simp, by simp, h'.below (below_alloc _ _), k'.below (below_alloc _ _)⟩
  | j + 2, hx => simp at hx

end Go.Proofs.YtmlkknbndglgaaaGreatDoor
