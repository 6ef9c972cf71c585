/- Texts that stand together, joined: N10, N11, N12, N13, N14, N15. -/
import Derived.Test.YtecjkkipglldlaaGreatDoorJ4
import Derived.Laws.AppendOwnNone
/- Appends of nodes; the walk of the statements' own awake of layer 2. -/
namespace Go.Proofs.YtecjkkipglldlaaGreatDoor
open Go.RowKit

theorem Nods.take {w : World} {b o c k : Nat} {t : List Nd} (h : Run w b o t) (hk : k ≤ t.length) (hc : k ≤ c) : Nods w (.slice (some ⟨b, o, none⟩) k c) (t.take k) := by
  have hl : (t.take k).length = k := by rw [List.length_take]; omega
  refine .inr ⟨b, o, c, by rw [hl], by rw [hl]; exact hc, h.1, fun j n hn => ?_⟩
  rw [List.getElem?_take] at hn
  split at hn
  · exact h.2 j n hn
  · cases hn
theorem Run.one (w : World) (n : Nd) : Run (w.alloc (.cells #[.string n.1, .int .i64 n.2.1, .string n.2.2] 38)) w.heap.size 0 [n] := by
  refine ⟨by simp, fun j m hm => ?_⟩
  match j, hm with
  | 0, hm => simp at hm; subst hm; exact ⟨by simp, by simp, by simp⟩
  | j + 1, hm => simp at hm
theorem Run.two (w : World) (n m : Nd) : Run (w.alloc (.cells #[.string n.1, .int .i64 n.2.1, .string n.2.2, .string m.1, .int .i64 m.2.1, .string m.2.2] 38)) w.heap.size 0 [n, m] := by
  refine ⟨by simp, fun j x hx => ?_⟩
  match j, hx with
  | 0, hx => simp at hx; subst hx; exact ⟨by simp, by simp, by simp⟩
  | 1, hx => simp at hx; subst hx; exact ⟨by simp, by simp, by simp⟩
  | j + 2, hx => simp at hx
theorem Run.nods {w : World} {b o c : Nat} {t : List Nd} (h : Run w b o t) (hc : t.length ≤ c) : Nods w (.slice (some ⟨b, o, none⟩) t.length c) t := .inr ⟨b, o, c, rfl, hc, h⟩

def ndRoot : Nd := (ByteArray.empty, 1, ByteArray.empty)
def ndBC : Nd := (⟨#[98, 47, 99]⟩, 2, ByteArray.empty)
def ndAbc : Nd := (ByteArray.empty, 0, ⟨#[97, 98, 99]⟩)
theorem aw2_bad : badN [ndRoot, ndBC] = 1 := by decide +kernel
theorem aw2_one : badN [ndRoot] = -1 := by decide +kernel
theorem aw2_may : mayN [ndRoot] = true := by decide +kernel
theorem aw2_size : sizeN [ndAbc] = 3 := by decide +kernel
theorem aw2_small : ∀ n ∈ [ndRoot, ndBC], n.1.size < 999999 := by decide +kernel
theorem aw2_small1 : ∀ n ∈ [ndRoot], n.1.size < 999999 := by decide +kernel
theorem aw2_small0 : ∀ n ∈ ([] : List Nd), n.1.size < 999999 := by decide +kernel
theorem aw2_abc : ∀ n ∈ [ndAbc], n.2.2.size ≤ 1000 := by decide +kernel

end Go.Proofs.YtecjkkipglldlaaGreatDoor
/- Nodes that were handed in; an append of nodes onto nodes of one's own, as a law for a walk; slices.Clone. -/
namespace Go.Proofs.YtecjkkipglldlaaGreatDoor
open Go.RowKit

theorem addrN_plain {w : World} {ad : Addr} {v : Value} (h : w.cell? ad = some v) : ad = ⟨ad.block, ad.off, none⟩ ∧ ad.block < w.heap.size := by
  unfold World.cell? at h
  split at h
  · rename_i c _ _ hb
    split at h
    · cases h
    · rename_i hs
      refine ⟨?_, (Array.getElem?_eq_some_iff.1 hb).1⟩
      obtain ⟨b, o, s⟩ := ad
      simp at hs
      simp [hs]
  · cases h
theorem addN_zero (ad : Addr) : ad.add 0 = ad := by unfold Addr.add; obtain ⟨b, o, s⟩ := ad; cases s <;> rfl
theorem addN_plain (b o j : Nat) : (⟨b, o, none⟩ : Addr).add j = ⟨b, o + j, none⟩ := by unfold Addr.add; split <;> simp_all

/-- A slice of nodes that may be read. -/
structure ArgN (w : World) (ao : Option Addr) (n c : Nat) (ns : List Nd) : Prop where
  len : ns.length = n
  none : ao = none → n = 0 ∧ c = 0
  cap : n ≤ c
  cell : ∀ ad, ao = some ad → ∀ (j : Nat) u, (flat ns)[j]? = some u → w.cell? (ad.add j) = some u

theorem Run.flat {w : World} {b o : Nat} {ns : List Nd} (h : Run w b o ns) (j : Nat) (u : Value) (hu : (flat ns)[j]? = some u) : w.cell? ⟨b, o + j, none⟩ = some u := by
  have hj := (List.getElem?_eq_some_iff.1 hu).1
  rw [flat_len] at hj
  have hq : j / 3 < ns.length := by omega
  have hn : ns[j / 3]? = some ns[j / 3] := List.getElem?_eq_getElem hq
  obtain ⟨e1, e2, e3⟩ := flat_get hn
  obtain ⟨g1, g2, g3⟩ := h.2 _ _ hn
  have hr : j = j / 3 * 3 ∨ j = j / 3 * 3 + 1 ∨ j = j / 3 * 3 + 2 := by omega
  rcases hr with hr | hr | hr
  · rw [hr] at hu ⊢; rw [e1] at hu; rw [← hu]; exact g1
  · rw [hr] at hu ⊢; rw [e2] at hu; rw [← hu]; exact g2
  · rw [hr] at hu ⊢; rw [e3] at hu; rw [← hu]; exact g3
theorem Run.arg {w : World} {b o c : Nat} {ns : List Nd} (h : Run w b o ns) (hc : ns.length ≤ c) : ArgN w (some ⟨b, o, none⟩) ns.length c ns :=
  ⟨rfl, by simp, hc, fun ad e j u hu => by cases e; rw [addN_plain]; exact h.flat j u hu⟩
theorem ArgN.nods {w : World} {ao : Option Addr} {n c : Nat} {ns : List Nd} (h : ArgN w ao n c ns) : Nods w (.slice ao n c) ns := by
  cases ns with
  | nil => exact .inl ⟨rfl, ao, c, by rw [← h.len]; rfl⟩
  | cons x r =>
    cases ao with
    | none => have h1 := (h.none rfl).1; have h2 := h.len; rw [h1] at h2; simp at h2
    | some ad =>
      have h0 := h.cell ad rfl 0 (.string x.1) rfl
      rw [addN_zero] at h0
      obtain ⟨e, hlt⟩ := addrN_plain h0
      refine .inr ⟨ad.block, ad.off, c, by rw [h.len, ← e], by rw [h.len]; exact h.cap, hlt, fun j y hy => ?_⟩
      obtain ⟨e1, e2, e3⟩ := flat_get hy
      have c1 := h.cell ad rfl _ _ e1
      have c2 := h.cell ad rfl _ _ e2
      have c3 := h.cell ad rfl _ _ e3
      rw [e, addN_plain] at c1 c2 c3
      exact ⟨c1, c2, c3⟩
theorem ArgN.below {w w' : World} {ao : Option Addr} {n c : Nat} {ns : List Nd} (h : ArgN w ao n c ns) (hb : Below w.heap.size w w') : ArgN w' ao n c ns :=
  ⟨h.len, h.none, h.cap, fun ad e j u hu => by
    have h1 := h.cell ad e j u hu
    rw [hb.cell (addrN_plain h1).2]; exact h1⟩
theorem OwnN.arg {base : Nat} {w : World} {v : Value} {ns : List Nd} (h : OwnN base w v ns) : ∃ ao c, v = .slice ao ns.length c ∧ ArgN w ao ns.length c ns := by
  have h' := h
  obtain ⟨_, h2⟩ := h
  rcases h2 with ⟨rfl, h0⟩ | ⟨g, cap, cur, rfl, hb, hg, hn, hm, hs, ht⟩
  · have e := List.eq_nil_of_length_eq_zero h0
    subst e
    exact ⟨none, 0, rfl, rfl, fun _ => ⟨rfl, rfl⟩, by simp, fun ad e => by cases e⟩
  · exact ⟨_, cap, rfl, rfl, by simp, hn, fun ad e j u hu => by cases e; exact h'.cells (g := g) rfl j u hu⟩

theorem wpList_append_nodes {w : World} {ops : Array Oper} {rest : List Oper} {o : Oper} {a : Act} {Q : Exit → Act → World → Prop} (hgd : o.guard = none) (s x : Operand)
    (ho : o.op = .call { callee := .builtin .append, args := #[s, x], argTypes := #[25, 25] })
    (base : Nat) (v : Value) (xs : List Nd) (hs : a.eval s = v) (hown : OwnN base w v xs) (ao : Option Addr) (m c : Nat) (ys : List Nd) (hx : a.eval x = .slice ao m c) (hu : ArgN w ao m c ys)
    (hlen : xs.length + ys.length < 1000000) (hbase : base ≤ w.heap.size)
    (h : ∀ b c w', OwnN base w' (.slice b (xs.length + ys.length) c) (xs ++ ys) → Below base w w' → wpList Tryz.prog ops Q rest (a.put o.dst (.slice b (xs.length + ys.length) c)) w') : wpList Tryz.prog ops Q (o :: rest) a w := by
  obtain ⟨i0, hi, hz0, hz1, hz2⟩ := info_parts A24
  cases ao with
  | none =>
    obtain ⟨rfl, rfl⟩ := hu.none rfl
    have hy : ys = [] := List.eq_nil_of_length_eq_zero hu.len
    subst hy
    obtain ⟨b, c, e⟩ := hown.form
    subst e
    refine wpList_append_own_none hgd s x 25 ho base 38 i0 3 Tryz.underlying25 hi _ _ _ hs hown hx ?_
    exact h b c w (by simpa using hown) (Below.refl _ _)
  | some ad =>
    obtain rfl := hu.len
    refine wpList_append_own w hgd s x 25 ho base 38 i0 (.agg #[.string ByteArray.empty, .int .i64 0, .string ByteArray.empty]) 3 40 Tryz.underlying25 hi hz0 hz1 hz2 rfl (by decide) v xs.length (flat xs) hs hown ad ys.length c (flat ys) hx (flat_len ys) (hu.cell ad rfl) (flat_one ys) (by unfold maxLen; omega) (by omega) hbase ?_
    intro v' w' h1 h2 _
    have h3 : OwnN base w' v' (xs ++ ys) := OwnN.joined h1
    obtain ⟨b, c, e⟩ := h3.form
    rw [List.length_append] at e
    subst e
    exact h b c w' h3 (OwnN.grownBelow hown h2 hbase)

theorem equalIn_slice_some (d : Nat) (t e : TypeId) (ad : Addr) (n c : Nat) (w : World) (ht : Tryz.prog.underlying t = some (.slice e)) : (Op.equalIn (d + 1) t (.slice (some ad) n c) (.slice none 0 0)).run Tryz.prog w = .ok false w := by
  simp [Op.equalIn, run_underlying ht]
theorem equalIn_slice_none (d : Nat) (t e : TypeId) (n c : Nat) (w : World) (ht : Tryz.prog.underlying t = some (.slice e)) : (Op.equalIn (d + 1) t (.slice none n c) (.slice none 0 0)).run Tryz.prog w = .ok true w := by
  simp [Op.equalIn, run_underlying ht]
theorem eql_slice_some (t e : TypeId) (ad : Addr) (n c : Nat) (w : World) (ht : Tryz.prog.underlying t = some (.slice e)) : (binOp .eql t (.slice (some ad) n c) (.slice none 0 0)).run Tryz.prog w = .ok (.bool false) w := by
  simp only [binOp]
  simp [Op.equal, Op.maxDepth, equalIn_slice_some 9999 t e ad n c w ht]
theorem eql_slice_none (t e : TypeId) (n c : Nat) (w : World) (ht : Tryz.prog.underlying t = some (.slice e)) : (binOp .eql t (.slice none n c) (.slice none 0 0)).run Tryz.prog w = .ok (.bool true) w := by
  simp only [binOp]
  simp [Op.equal, Op.maxDepth, equalIn_slice_none 9999 t e n c w ht]

end Go.Proofs.YtecjkkipglldlaaGreatDoor
/- The walk of tree.Filter, whatever it asks. -/
namespace Go.Proofs.YtecjkkipglldlaaGreatDoor
open Go.RowKit

theorem grown_refl (w : World) (row : Option Nat) : w.grownBy w row := ⟨rfl, rfl, rfl, Nat.le_refl _, fun _ _ _ => rfl⟩
theorem grown_trans {a b c : World} {row : Option Nat} (h : a.grownBy b row) (k : b.grownBy c row) : a.grownBy c row :=
  ⟨k.os.trans h.os, k.tape.trans h.tape, k.output.trans h.output, Nat.le_trans h.size k.size, fun i hi hr => (k.block i (Nat.lt_of_lt_of_le hi h.size) hr).trans (h.block i hi hr)⟩
theorem grown_below {a b c : World} {row : Option Nat} (h : a.grownBy b row) (k : Below a.heap.size b c) : a.grownBy c row :=
  ⟨k.os.trans h.os, k.tape.trans h.tape, k.output.trans h.output, Nat.le_trans h.size k.size, fun i hi hr => (k.block i hi).trans (h.block i hi hr)⟩
theorem below_grown {w w' : World} {row : Option Nat} {B : Nat} (h : w.grownBy w' row) (hB : B ≤ w.heap.size) (hr : ∀ k, row = some k → B ≤ k) : Below B w w' := (Below.refl _ _).grown h hB hr
theorem At.grown {w w' : World} {b o : Nat} {n : Nd} {row : Option Nat} (h : At w b o n) (hg : w.grownBy w' row) (hr : some b ≠ row) : At w' b o n :=
  ⟨hg.cell h.path hr, hg.cell h.kind hr, hg.cell h.data hr⟩
theorem Run.grown {w w' : World} {b o : Nat} {ns : List Nd} {row : Option Nat} (h : Run w b o ns) (hg : w.grownBy w' row) (hr : some b ≠ row) : Run w' b o ns :=
  ⟨Nat.lt_of_lt_of_le h.1 hg.size, fun j n hn => (h.2 j n hn).grown hg hr⟩
theorem OwnN.grown {base : Nat} {w w' : World} {v : Value} {ns : List Nd} {row : Option Nat} (h : OwnN base w v ns) (hg : w.grownBy w' row) (hr : ∀ g, row = some g → g < base) : OwnN base w' v ns := by
  refine World.ownsRow.kept h hg ?_
  cases hv : v.ownBlock with
  | none => exact .inl rfl
  | some k =>
    refine .inr fun e => ?_
    have h1 := (h.lt k hv).1
    have h2 := hr k e.symm
    omega
theorem filter_step {t : List Nd} {k : Nat} {n : Nd} {p : Nd → Bool} (hn : t[k]? = some n) : (t.take (k + 1)).filter p = (t.take k).filter p ++ if p n = true then [n] else [] := by
  obtain ⟨hk, rfl⟩ := List.getElem?_eq_some_iff.1 hn
  rw [List.take_succ_eq_append_getElem hk, List.filter_append, List.filter_cons, List.filter_nil]
theorem filter_len (t : List Nd) (k : Nat) (p : Nd → Bool) : ((t.take k).filter p).length ≤ k := Nat.le_trans (List.length_filter_le _ _) (List.length_take_le _ _)

end Go.Proofs.YtecjkkipglldlaaGreatDoor
/- The walks of Low, OverNodes, and Filter of few or none. -/
namespace Go.Proofs.YtecjkkipglldlaaGreatDoor
open Go.RowKit

theorem low_val (x n : Int) (h0 : 0 < n) (h1 : n ≤ 1000000) : ∃ r : Nat, wrap64 ((IntKind.u64.wrap x).tmod n) = (r : Int) ∧ (r : Int) < n := by
  rw [IntKind.wrap_u64]
  have hx : 0 ≤ x % 18446744073709551616 := Int.emod_nonneg _ (by decide)
  rw [Int.tmod_eq_emod_of_nonneg hx]
  have h2 := Int.emod_nonneg (x % 18446744073709551616) (show n ≠ 0 by omega)
  have h3 := Int.emod_lt_of_pos (x % 18446744073709551616) h0
  refine ⟨(x % 18446744073709551616 % n).toNat, ?_, by omega⟩
  generalize x % 18446744073709551616 % n = y at h2 h3 ⊢
  unfold wrap64
  omega
set_option maxHeartbeats 400000 in
theorem low_any (x n : Int) (w : World) (h0 : 0 < n) (h1 : n ≤ 1000000) :
    Calls Tryz.prog 19 #[.int .i64 x, .int .i64 n] w fun e w' => ∃ r : Nat, e = .returned (.int .i64 r) ∧ (r : Int) < n ∧ w' = w := by
  have hn : (n == 0) = false := by rw [beq_eq_false_iff_ne]; omega
  go_enter Tryz.func19, Tryz.ntmps19
  go_wp2
  go_ret
  obtain ⟨r, hr, hrn⟩ := low_val x n h0 h1
  exact ⟨r, ret_int hr, hrn, rfl⟩

theorem OwnN.stored {base : Nat} {w : World} {g cap : Nat} {ns : List Nd} (h : OwnN base w (.slice (some ⟨g, 0, none⟩) ns.length cap) ns) (j : Nat) (hj : j < ns.length) (x : Nd) :
    OwnN base (((w.setCell ⟨g, j * 3, none⟩ (.string x.1)).setCell ⟨g, j * 3 + 1, none⟩ (.int .i64 x.2.1)).setCell ⟨g, j * 3 + 2, none⟩ (.string x.2.2)) (.slice (some ⟨g, 0, none⟩) (ns.set j x).length cap) (ns.set j x) := by
  have h1 := (World.ownsRow.stored h (j * 3) (.string x.1)).1
  have h2 := (World.ownsRow.stored h1 (j * 3 + 1) (.int .i64 x.2.1)).1
  have h3 := (World.ownsRow.stored h2 (j * 3 + 2) (.string x.2.2)).1
  unfold OwnN
  have e : ((((flat ns).set (j * 3) (.string x.1)).set (j * 3 + 1) (.int .i64 x.2.1)).set (j * 3 + 2) (.string x.2.2)) = flat (ns.set j x) := by
    clear h h1 h2 h3
    induction ns generalizing j with
    | nil => simp at hj
    | cons n r ih =>
      cases j with
      | zero => simp [flat, ncells]
      | succ j =>
        rw [List.set_cons_succ, flat_cons, flat_cons, ← ih j (by simpa using hj)]
        simp [ncells, Nat.add_mul]
  rw [e] at h3
  rw [List.length_set]
  exact h3

end Go.Proofs.YtecjkkipglldlaaGreatDoor
/- An append of nodes: in which block the answer lies. -/
namespace Go.Proofs.YtecjkkipglldlaaGreatDoor
open Go.RowKit

/-- Where an append's answer lies: where the slice lay, or in a new block. -/
def Stays (w : World) (v v' : Value) : Prop := v'.ownBlock = v.ownBlock ∨ ∃ k, v'.ownBlock = some k ∧ w.heap.size ≤ k

theorem run_append_where {P : Program} (w : World) (base : Nat) (t ty e : TypeId) (i : TypeInfo) (z : Value) (size bytes : Nat) (ht : P.underlying t = some (.slice e)) (hi : P.info? e = some i) (hz : i.zero = some z)
    (hsize : i.size = size) (hby : i.bytes = bytes) (hzs : z.cells.size = size) (hsz : 0 < size)
    (v : Value) (n : Nat) (xs : List Value) (hown : w.ownsRow base e size v n xs)
    (a : Addr) (m c : Nat) (news : List Value) (hl : news.length = m * size) (hnews : ∀ j u, news[j]? = some u → w.cell? (a.add j) = some u) (h1 : ∀ u ∈ news, u.oneCell' = true)
    (h63 : n + m ≤ maxLen) (hbytes : (n + m) * bytes ≤ 140737488355328) (hbase : base ≤ w.heap.size) :
    ∃ v' w', (Builtin.append_ #[t, t] ty #[v, .slice (some a) m c]).run P w = .ok v' w' ∧ w'.ownsRow base e size v' (n + m) (xs ++ news) ∧ w.grownBy w' v.ownBlock ∧ Stays w v v' := by
  obtain ⟨v', w', hr, h2, h3, h4⟩ := run_append_own (P := P) w base t ty e i z size bytes ht hi hz hsize hby hzs hsz v n xs hown a m c news hl hnews h1 h63 hbytes hbase
  refine ⟨v', w', hr, h2, h3, ?_⟩
  rcases hown.2 with ⟨rfl, rfl⟩ | ⟨g, cap, cur, rfl, hbg, hg, hnc, hcm, hcs, htake⟩
  · by_cases hm : m = 0
    · rw [h4.2 ⟨rfl, hm⟩]
      exact .inl rfl
    · have hx : xs = [] := List.eq_nil_of_length_eq_zero (by simpa using hown.1)
      subst hx
      obtain ⟨v'', w'', hr', k2, _, _⟩ := run_append_own (P := P) w w.heap.size t ty e i z size bytes ht hi hz hsize hby hzs hsz (.slice none 0 0) 0 [] (World.ownsRow_nil w w.heap.size e size) a m c news hl hnews h1 h63 hbytes (Nat.le_refl _)
      rw [hr] at hr'
      injection hr' with e1 e2
      subst e1
      rcases k2.2 with ⟨e3, _⟩ | ⟨g', cap', cur', e3, hb', _⟩
      · exact absurd (h4.1 e3).2 hm
      · exact .inr ⟨g', by rw [e3]; rfl, hb'⟩
  · subst hsize
    subst hby
    by_cases hroom : n + m ≤ cap
    · have hfit : n * i.size + news.length ≤ cur.size := by rw [hl, hcs, ← Nat.add_mul]; exact Nat.mul_le_mul_right _ hroom
      have hr' := run_append_room (P := P) w t ty e i ht hi g n cap cur hg a m c news hl hnews h1 hroom hfit
      rw [hr] at hr'
      injection hr' with e1 e2
      rw [e1]
      exact .inl rfl
    · have hsmall : n + m ≤ 9223372036854775807 := by simp only [maxLen] at h63; omega
      have holds : ∀ j u, xs[j]? = some u → w.cell? ((⟨g, 0, none⟩ : Addr).add j) = some u := hown.cells (g := g) rfl
      have hr' := run_append_grow (P := P) w t ty e i z ht hi hz ⟨g, 0, none⟩ n cap xs hown.1 holds a m c news hl hnews (by omega) (by omega) (growslice_fits (by omega) hbytes)
      rw [hr] at hr'
      injection hr' with e1 e2
      rw [e1]
      exact .inr ⟨w.heap.size, rfl, Nat.le_refl _⟩

theorem wpList_append_where {w : World} {ops : Array Oper} {rest : List Oper} {o : Oper} {a : Act} {Q : Exit → Act → World → Prop} (hgd : o.guard = none) (s x : Operand)
    (ho : o.op = .call { callee := .builtin .append, args := #[s, x], argTypes := #[25, 25] })
    (base : Nat) (v : Value) (xs : List Nd) (hs : a.eval s = v) (hown : OwnN base w v xs) (ad : Addr) (m c : Nat) (ys : List Nd) (hx : a.eval x = .slice (some ad) m c) (hu : ArgN w (some ad) m c ys)
    (hlen : xs.length + ys.length < 1000000) (hbase : base ≤ w.heap.size)
    (h : ∀ b c w', OwnN base w' (.slice b (xs.length + ys.length) c) (xs ++ ys) → w.grownBy w' v.ownBlock → Stays w v (.slice b (xs.length + ys.length) c) → wpList Tryz.prog ops Q rest (a.put o.dst (.slice b (xs.length + ys.length) c)) w') : wpList Tryz.prog ops Q (o :: rest) a w := by
  obtain ⟨i0, hi, hz0, hz1, hz2⟩ := info_parts A24
  obtain rfl := hu.len
  refine wpList_plain hgd fun K hK => ?_
  obtain ⟨v', w', hr, h2, h3, h4⟩ := run_append_where (P := Tryz.prog) w base 25 o.type 38 i0 (.agg #[.string ByteArray.empty, .int .i64 0, .string ByteArray.empty]) 3 40 Tryz.underlying25 hi hz0 hz1 hz2 rfl (by decide) v xs.length (flat xs) hown ad ys.length c (flat ys) (flat_len ys) (hu.cell ad rfl) (flat_one ys) (by unfold maxLen; omega) (by omega) hbase
  have h5 : OwnN base w' v' (xs ++ ys) := OwnN.joined h2
  obtain ⟨b, c', e⟩ := h5.form
  rw [List.length_append] at e
  subst e
  unfold Oper.wp execOp
  simp only [ho, resolve, invoke, builtin, Sem.run_bind, Sem.run_pure, Result.andThen_ok, List.map_toArray, List.map_cons, List.map_nil, hs, hx, hr]
  exact hK _ _ (h b c' w' h5 h3 h4)

/-- Two rows lie in two blocks. -/
def Two (v u : Value) : Prop := v.ownBlock = none ∨ v.ownBlock ≠ u.ownBlock
theorem Two.symm {v u : Value} (h : Two v u) : Two u v := by
  rcases h with h | h
  · cases k : u.ownBlock with
    | none => exact .inl k
    | some x => exact .inr (by rw [k, h]; simp)
  · exact .inr fun e => h e.symm
theorem Two.stays {base : Nat} {w : World} {v v' u : Value} {ns : List Nd} (h : Two v u) (hs : Stays w v v') (hu : OwnN base w u ns) : Two v' u := by
  rcases hs with e | ⟨k, e, hk⟩
  · unfold Two
    rw [e]
    exact h
  · refine .inr ?_
    rw [e]
    intro e2
    have := (hu.lt k e2.symm).2
    omega
theorem Two.kept {base : Nat} {w w' : World} {v u : Value} {ns : List Nd} (h : Two v u) (hg : w.grownBy w' v.ownBlock) (hu : OwnN base w u ns) : OwnN base w' u ns :=
  World.ownsRow.kept hu hg h.symm
theorem Two.nil (u : Value) : Two (.slice none 0 0) u := .inl rfl
end Go.Proofs.YtecjkkipglldlaaGreatDoor
/- The walk of the statements' own OverNodes: what was answered is written over, and beyond; only its own block turns. -/
namespace Go.Proofs.YtecjkkipglldlaaGreatDoor
open Go.RowKit

theorem grown_setCell (w : World) (g j : Nat) (x : Value) : w.grownBy (w.setCell ⟨g, j, none⟩ x) (some g) :=
  ⟨rfl, rfl, rfl, by simp [World.setCell], fun k _ hne => Below.heap_setCell _ ⟨g, j, none⟩ _ k (fun e => hne (by rw [e]))⟩
theorem grown_box (w : World) (o : Obj) (row : Option Nat) : w.grownBy (w.alloc o) row := World.grownBy_alloc w o row
theorem two_bases {b1 b2 : Nat} {w1 w2 : World} {v u : Value} {xs ys : List Nd} (h : OwnN b1 w1 v xs) (k : OwnN b2 w2 u ys) (hb : w1.heap.size ≤ b2) : Two v u := by
  cases e : v.ownBlock with
  | none => exact .inl e
  | some x =>
    refine .inr fun e2 => ?_
    rw [e] at e2
    have h1 := (h.lt x e).2
    have h2 := (k.lt x e2.symm).1
    omega

set_option maxRecDepth 100000 in
set_option maxHeartbeats 800000 in
theorem overN_none (w : World) :
    Calls Tryz.prog 14 #[.slice none 0 0] w fun e w' => e = .returned (.tuple #[]) ∧ w.grownBy w' none := by
  have HA := hide ((Run.one w (⟨#[111, 118, 101, 114]⟩, 0, ByteArray.empty)).arg (c := 1) (by simp))
  go_enter Tryz.func14, Tryz.ntmps14
  go_wp2
  go_loop [2] (fun i => i = .int .i64 0) (fun _ => 0)
  case atStart => rfl
  case round =>
    subst hrel
    go_wp2_with (at_builtin; refine wpList_append_where rfl _ _ rfl 0 _ [] rfl (OwnN.nil _ _) _ _ _ [(⟨#[111, 118, 101, 114]⟩, 0, ByteArray.empty)] rfl HA.out (by simp) (by simp) ?_)
    intro b c w1 _ hb1 _
    go_wp2
    go_end0
    exact ⟨rfl, grown_trans (grown_box _ _ _) hb1⟩

set_option maxRecDepth 100000 in
set_option maxHeartbeats 800000 in
theorem overN_some (base g cap : Nat) (ns : List Nd) (w : World) (hb : base ≤ w.heap.size) (h : OwnN base w (.slice (some ⟨g, 0, none⟩) ns.length cap) ns) (hl : ns.length < 900000) :
    Calls Tryz.prog 14 #[.slice (some ⟨g, 0, none⟩) ns.length cap] w fun e w' => e = .returned (.tuple #[]) ∧ w.grownBy w' (some g) := by
  obtain ⟨n, hn⟩ : ∃ n, n = ns.length := ⟨_, rfl⟩
  have HO := hide h
  have HN := hide hn
  rw [← hn] at hl ⊢
  clear h hn
  go_enter Tryz.func14, Tryz.ntmps14
  go_wp2
  go_loopw [2] (fun i wr => ∃ k : Nat, k ≤ n ∧ i = .int .i64 k ∧ Hid (∃ ys : List Nd, ys.length = n ∧ OwnN base wr (.slice (some ⟨g, 0, none⟩) ys.length cap) ys) ∧ w.grownBy wr (some g)) (fun i _ => n - (intOf i).toNat)
  case atStart => exact ⟨0, Nat.zero_le _, rfl, ⟨ns, HN.out.symm, HO.out⟩, grown_refl _ _⟩
  case round =>
    obtain ⟨k, hk, rfl, hys, hbl⟩ := hrel
    obtain ⟨ys, hyn, hown⟩ := hys.out
    have HO2 := hide hown
    have HY := hide hyn
    clear hys hown hyn
    have hbs := hbl.size
    by_cases hlt : k < n
    · have hf := fun j => World.ownsRow.frozenAt HO2.out j
      obtain ⟨y, hy⟩ : ∃ y, ys[k]? = some y := ⟨ys[k]'(by have := HY.out; omega), List.getElem?_eq_some_iff.2 ⟨_, rfl⟩⟩
      obtain ⟨e1, e2, e3⟩ := flat_get hy
      have c := fun i (hi : k * 3 + i < ys.length * 3) => World.ownsRow.cellAt HO2.out (k * 3 + i) hi
      have hyl := HY.out
      have c1 := (c 0 (by omega)).trans e1
      have c2 := (c 1 (by omega)).trans e2
      have c3 := (c 2 (by omega)).trans e3
      have f1 := hf (k * 3)
      have f2 := hf (k * 3 + 1)
      have f3 := hf (k * 3 + 2)
      rw [Nat.add_zero] at c1
      clear hf hy e1 e2 e3 c hyl
      go_wp2
      go_roundw
      case rel =>
        refine ⟨k + 1, by omega, by go_num, ?_, ?_⟩
        · exact ⟨ys.set k (⟨#[111, 118, 101, 114]⟩, 0, ⟨#[]⟩), by rw [List.length_set]; exact HY.out, HO2.out.stored k (by have := HY.out; omega) (⟨#[111, 118, 101, 114]⟩, 0, ⟨#[]⟩)⟩
        · exact grown_trans hbl (grown_trans (grown_setCell _ g (k * 3) _) (grown_trans (grown_setCell _ g (k * 3 + 1) _) (grown_setCell _ g (k * 3 + 2) _)))
      case measure => simp [intOf]; omega
    · have HO3 := hide (HO2.out.alloc (.cells #[.string ⟨#[111, 118, 101, 114]⟩, .int .i64 0, .string ByteArray.empty] 38))
      rw [HY.out] at HO3
      have HA := hide ((Run.one wr (⟨#[111, 118, 101, 114]⟩, 0, ByteArray.empty)).arg (c := 1) (by simp))
      go_wp2_with (at_builtin; refine wpList_append_where rfl _ _ rfl base _ ys rfl HO3.out _ _ _ [(⟨#[111, 118, 101, 114]⟩, 0, ByteArray.empty)] rfl HA.out (by simp; have := HY.out; omega) (by simp; omega) ?_)
      intro b c w1 _ hb1 _
      go_wp2
      go_end0
      exact ⟨rfl, grown_trans hbl (grown_trans (grown_box _ _ _) hb1)⟩

theorem overN_ok (v : Value) (ns : List Nd) (base : Nat) (w : World) (ho : OwnN base w v ns) (hbw : base ≤ w.heap.size) (hl : ns.length < 900000) :
    Calls Tryz.prog 14 #[v] w fun e w' => e = .returned (.tuple #[]) ∧ w.grownBy w' v.ownBlock := by
  obtain ⟨_, h2⟩ := id ho
  rcases h2 with ⟨rfl, _⟩ | ⟨g, cap, cur, rfl, _⟩
  · exact overN_none w
  · exact overN_some base g cap ns w hbw ho hl
end Go.Proofs.YtecjkkipglldlaaGreatDoor
