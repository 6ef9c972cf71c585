/- A slice of bytes in memory: what it holds, that it is one's own, that it stays; appends of bytes as laws for a walk. -/
import Derived.Test.YtecjkkipglldlaaGreatDoorJ6
import Derived.Lib.AppendStr
import Derived.Laws.AppendOwnNone
import Derived.Laws.OwnMore
namespace Go.Proofs.YtecjkkipglldlaaGreatDoor
open Go.RowKit

def bcells (l : List UInt8) : List Value := l.map fun b => Value.int .u8 b.toNat
theorem bcells_len (l : List UInt8) : (bcells l).length = l.length := by simp [bcells]
theorem bcells_app (a b : List UInt8) : bcells (a ++ b) = bcells a ++ bcells b := by simp [bcells]
theorem bcells_one (l : List UInt8) : ∀ u ∈ bcells l, u.oneCell' = true := by
  intro u hu
  obtain ⟨b, _, rfl⟩ := List.mem_map.1 hu
  rfl
theorem bcells_get {l : List UInt8} {j : Nat} {x : UInt8} (h : l[j]? = some x) : (bcells l)[j]? = some (.int .u8 x.toNat) := by simp [bcells, h]
theorem bcells_str (s : ByteArray) : Lib.strCells s = bcells s.data.toList := rfl
theorem A5 : (Tryz.prog.info? 5).map (fun i => (i.zero, i.size, i.bytes)) = some (some (.int .u8 0), 1, 1) := by kernel_rfl

theorem addrB_plain {w : World} {ad : Addr} {v : Value} (h : w.cell? ad = some v) : ad = ⟨ad.block, ad.off, none⟩ ∧ ad.block < w.heap.size := by
  unfold World.cell? at h
  split at h
  · rename_i c _ _ hb
    split at h
    · cases h
    · rename_i hs
      refine ⟨?_, (Array.getElem?_eq_some_iff.1 hb).1⟩
      obtain ⟨b, o, s⟩ := ad
      simp at hs
      simp [hs]
  · cases h
theorem addB_zero (ad : Addr) : ad.add 0 = ad := by unfold Addr.add; obtain ⟨b, o, s⟩ := ad; cases s <;> rfl
theorem addB_plain (b o j : Nat) : (⟨b, o, none⟩ : Addr).add j = ⟨b, o + j, none⟩ := by unfold Addr.add; split <;> simp_all
theorem boxB (w : World) (o : Obj) : Below w.heap.size w (w.alloc o) := (Below.refl _ _).alloc (Nat.le_refl _) _

/-- The slice holds the bytes l, and may be read. -/
structure ArgB (w : World) (ao : Option Addr) (n c : Nat) (l : List UInt8) : Prop where
  len : l.length = n
  none : ao = none → n = 0 ∧ c = 0
  cap : n ≤ c
  cell : ∀ ad, ao = some ad → ∀ (j : Nat) u, (bcells l)[j]? = some u → w.cell? (ad.add j) = some u

theorem ArgB.below {w w' : World} {ao : Option Addr} {n c : Nat} {l : List UInt8} (h : ArgB w ao n c l) (hb : Below w.heap.size w w') : ArgB w' ao n c l :=
  ⟨h.len, h.none, h.cap, fun ad e j u hu => by
    have h1 := h.cell ad e j u hu
    rw [hb.cell (addrB_plain h1).2]; exact h1⟩
theorem ArgB.plain {w : World} {ao : Option Addr} {n c : Nat} {l : List UInt8} (h : ArgB w ao n c l) (hn : 0 < n) : ∃ b o, ao = some ⟨b, o, Option.none⟩ ∧ b < w.heap.size := by
  cases l with
  | nil => have := h.len; simp at this; omega
  | cons x r =>
    cases ao with
    | none => have := (h.none rfl).1; omega
    | some ad =>
      have h0 := h.cell ad rfl 0 (.int .u8 x.toNat) rfl
      rw [addB_zero] at h0
      obtain ⟨e, hlt⟩ := addrB_plain h0
      exact ⟨ad.block, ad.off, by rw [← e], hlt⟩
/-- As ArgB, where only blocks below B are looked at. -/
theorem ArgB.belowAt {w w' : World} {ao : Option Addr} {n c B : Nat} {l : List UInt8} (h : ArgB w ao n c l) (hb : Below B w w') (hB : ∀ ad, ao = some ad → 0 < n → ad.block < B) : ArgB w' ao n c l :=
  ⟨h.len, h.none, h.cap, fun ad e j u hu => by
    have h1 := h.cell ad e j u hu
    have hj := (List.getElem?_eq_some_iff.1 hu).1
    rw [bcells_len, h.len] at hj
    have h2 := hB ad e (by omega)
    obtain ⟨b, o, e2, _⟩ := h.plain (show 0 < n by omega)
    rw [e] at e2
    cases e2
    rw [addB_plain] at h1 ⊢
    rw [hb.cell (p := ⟨b, o + j, Option.none⟩) h2]; exact h1⟩
theorem ArgB.at {w : World} {b o n c : Nat} {l : List UInt8} (h : ArgB w (some ⟨b, o, Option.none⟩) n c l) {j : Nat} {x : UInt8} (hx : l[j]? = some x) : w.cell? ⟨b, o + j, Option.none⟩ = some (.int .u8 x.toNat) := by
  have := h.cell _ rfl j _ (bcells_get hx)
  rwa [addB_plain] at this
theorem ArgB.nil (w : World) : ArgB w Option.none 0 0 [] := ⟨rfl, fun _ => ⟨rfl, rfl⟩, Nat.le_refl _, fun ad e => by cases e⟩
theorem ArgB.take {w : World} {ao : Option Addr} {n c : Nat} {l : List UInt8} (h : ArgB w ao n c l) {r : Nat} (hr : r ≤ n) : ArgB w ao r c (l.take r) :=
  ⟨by rw [List.length_take, h.len]; omega, fun e => ⟨by have := (h.none e).1; omega, (h.none e).2⟩, Nat.le_trans hr h.cap, fun ad e j u hu => h.cell ad e j u (by
    have hj := (List.getElem?_eq_some_iff.1 hu).1
    rw [bcells_len, List.length_take] at hj
    unfold bcells at hu ⊢
    rw [List.map_take, List.getElem?_take_of_lt (by omega)] at hu
    exact hu)⟩
/-- Where a cut of a slice begins. -/
def cutAt (ao : Option Addr) (c r : Nat) : Option Addr := ao.map fun ad => if c = r then ad else ad.add r
theorem ArgB.drop {w : World} {ao : Option Addr} {n c : Nat} {l : List UInt8} (h : ArgB w ao n c l) {r : Nat} (hr : r ≤ n) : ArgB w (cutAt ao c r) (n - r) (c - r) (l.drop r) := by
  refine ⟨by rw [List.length_drop, h.len], fun e => ?_, by have := h.cap; omega, fun ad e j u hu => ?_⟩
  · cases ao with
    | none => obtain ⟨h1, h2⟩ := h.none rfl; omega
    | some ad => simp [cutAt] at e
  · have hj := (List.getElem?_eq_some_iff.1 hu).1
    rw [bcells_len, List.length_drop, h.len] at hj
    obtain ⟨b, o, e2, _⟩ := h.plain (show 0 < n by omega)
    subst e2
    have hc := h.cap
    simp only [cutAt, Option.map_some, if_neg (show ¬ c = r by omega), Option.some.injEq] at e
    subst e
    rw [addB_plain, addB_plain]
    have h1 := h.cell _ rfl (r + j) u (by
      unfold bcells at hu ⊢
      rw [List.map_drop, List.getElem?_drop] at hu
      exact hu)
    rw [addB_plain] at h1
    rw [Nat.add_assoc]; exact h1

/-- The slice v holds the bytes l in a row of its own, from block number base on. -/
def OwnB (base : Nat) (w : World) (v : Value) (l : List UInt8) : Prop := w.ownsRow base 5 1 v l.length (bcells l)
theorem OwnB.nil (base : Nat) (w : World) : OwnB base w (.slice none 0 0) [] := World.ownsRow_nil w base 5 1
theorem OwnB.below {base : Nat} {w w' : World} {v : Value} {l : List UInt8} (h : OwnB base w v l) (hb : Below w.heap.size w w') : OwnB base w' v l := by
  refine ⟨h.1, ?_⟩
  rcases h.2 with h2 | ⟨g, cap, cur, rfl, hbs, hg, r⟩
  · exact .inl h2
  · exact .inr ⟨g, cap, cur, rfl, hbs, by rw [hb.block g (Array.getElem?_eq_some_iff.1 hg).1]; exact hg, r⟩
theorem OwnB.base {base base' : Nat} {w : World} {v : Value} {l : List UInt8} (h : OwnB base w v l) (hb : base' ≤ base) : OwnB base' w v l := by
  refine ⟨h.1, ?_⟩
  rcases h.2 with h2 | ⟨g, cap, cur, e, hbs, r⟩
  · exact .inl h2
  · exact .inr ⟨g, cap, cur, e, Nat.le_trans hb hbs, r⟩
theorem OwnB.alloc {base : Nat} {w : World} {v : Value} {l : List UInt8} (h : OwnB base w v l) (o : Obj) : OwnB base (w.alloc o) v l := h.below (boxB w o)
theorem OwnB.form {base : Nat} {w : World} {v : Value} {l : List UInt8} (h : OwnB base w v l) : ∃ a c, v = .slice a l.length c := by
  obtain ⟨_, h2⟩ := h
  rcases h2 with ⟨rfl, h0⟩ | ⟨g, cap, cur, rfl, _⟩
  · exact ⟨none, 0, by rw [h0]⟩
  · exact ⟨_, _, rfl⟩
theorem OwnB.arg {base : Nat} {w : World} {v : Value} {l : List UInt8} (h : OwnB base w v l) : ∃ ao c, v = .slice ao l.length c ∧ ArgB w ao l.length c l := by
  have h' := h
  obtain ⟨_, h2⟩ := h
  rcases h2 with ⟨rfl, h0⟩ | ⟨g, cap, cur, rfl, hb, hg, hn, hm, hs, ht⟩
  · have e := List.eq_nil_of_length_eq_zero h0
    subst e
    exact ⟨none, 0, rfl, ArgB.nil w⟩
  · exact ⟨_, cap, rfl, rfl, by simp, hn, fun ad e j u hu => by cases e; exact h'.cells (g := g) rfl j u hu⟩
theorem OwnB.argAt {base : Nat} {w : World} {ao : Option Addr} {n c : Nat} {l : List UInt8} (h : OwnB base w (.slice ao n c) l) : n = l.length ∧ ArgB w ao n c l := by
  obtain ⟨ao', c', e, ha⟩ := h.arg
  simp only [Value.slice.injEq] at e
  obtain ⟨rfl, rfl, rfl⟩ := e
  exact ⟨rfl, ha⟩
/-- A new row that holds just these bytes. -/
theorem OwnB.made (w : World) (l : List UInt8) (base : Nat) (hb : base ≤ w.heap.size) (hm : l.length ≤ maxLen) :
    OwnB base (w.alloc (.cells (bcells l).toArray 5)) (.slice (some ⟨w.heap.size, 0, none⟩) l.length l.length) l :=
  ⟨by simp [bcells], .inr ⟨w.heap.size, l.length, _, rfl, hb, heap_alloc_new w _, Nat.le_refl _, hm, by simp [bcells], by rw [Nat.mul_one, ← bcells_len]; simp [List.take_of_length_le]⟩⟩
theorem OwnB.joined {base : Nat} {w : World} {v : Value} {n : Nat} {a b : List UInt8} (h : w.ownsRow base 5 1 v n (bcells a ++ bcells b)) : OwnB base w v (a ++ b) := by
  have hn : n = (a ++ b).length := by have := h.1; simp [bcells] at this; simp; omega
  subst hn
  rw [← bcells_app] at h
  exact h
theorem OwnB.grownBelow {base : Nat} {w w' : World} {v : Value} {l : List UInt8} (h : OwnB base w v l) (hg : w.grownBy w' v.ownBlock) (hB : base ≤ w.heap.size) : Below base w w' :=
  (Below.refl base w).grown hg hB (fun k hk => (h.lt k hk).1)

/-- The row v became v': only its own block and new ones have turned, and v' lies in one of these. -/
structure Lays (w : World) (v : Value) (w' : World) (v' : Value) : Prop where
  grown : w.grownBy w' v.ownBlock
  stays : Stays w v v'
theorem Lays.refl (w : World) (v : Value) : Lays w v w v := ⟨grown_refl _ _, .inl rfl⟩
theorem Lays.trans {w w1 w2 : World} {v v1 v2 : Value} (h : Lays w v w1 v1) (k : Lays w1 v1 w2 v2) : Lays w v w2 v2 := by
  refine ⟨⟨k.grown.os.trans h.grown.os, k.grown.tape.trans h.grown.tape, k.grown.output.trans h.grown.output, Nat.le_trans h.grown.size k.grown.size, fun i hi hr => ?_⟩, ?_⟩
  · refine (k.grown.block i (Nat.lt_of_lt_of_le hi h.grown.size) ?_).trans (h.grown.block i hi hr)
    rcases h.stays with e | ⟨q, e, hq⟩
    · rw [e]; exact hr
    · rw [e]; intro e2; cases e2; omega
  · rcases k.stays with e | ⟨q, e, hq⟩
    · rcases h.stays with e1 | ⟨q, e1, hq⟩
      · exact .inl (e.trans e1)
      · exact .inr ⟨q, e.trans e1, hq⟩
    · exact .inr ⟨q, e, Nat.le_trans h.grown.size hq⟩
theorem Lays.alloc {w w1 : World} {v v1 : Value} (h : Lays w v w1 v1) (o : Obj) : Lays w v (w1.alloc o) v1 := h.trans ⟨grown_box _ _ _, .inl rfl⟩
theorem Lays.below {w w' : World} {v v' : Value} {base : Nat} {l : List UInt8} (h : Lays w v w' v') (ho : OwnB base w v l) (hB : base ≤ w.heap.size) : Below base w w' := ho.grownBelow h.grown hB
theorem Lays.size {w w' : World} {v v' : Value} (h : Lays w v w' v') : w.heap.size ≤ w'.heap.size := h.grown.size
theorem Lays.off {w w' : World} {v v' : Value} {x : Nat} (h : Lays w v w' v') (hx : x < w.heap.size) (hv : v.ownBlock ≠ some x) : v'.ownBlock ≠ some x := by
  rcases h.stays with e | ⟨q, e, hq⟩
  · rw [e]; exact hv
  · rw [e]; intro e2; cases e2; omega
theorem Lays.node {w w' : World} {v v' : Value} {x o : Nat} {n : Nd} (h : Lays w v w' v') (hv : v.ownBlock ≠ some x) (ha : At w x o n) : At w' x o n := ha.grown h.grown (fun e => hv e.symm)

/-- An append of bytes onto bytes of one's own. -/
theorem wpList_append_bytes {w : World} {ops : Array Oper} {rest : List Oper} {o : Oper} {a : Act} {Q : Exit → Act → World → Prop} (hgd : o.guard = none) (s x : Operand)
    (ho : o.op = .call { callee := .builtin .append, args := #[s, x], argTypes := #[22, 22] })
    (base : Nat) (v : Value) (xs : List UInt8) (hs : a.eval s = v) (hown : OwnB base w v xs) (ao : Option Addr) (m c : Nat) (ys : List UInt8) (hx : a.eval x = .slice ao m c) (hu : ArgB w ao m c ys)
    (n : Nat) (hn : xs.length = n) (zs : List UInt8) (hz : xs ++ ys = zs) (hlen : n + m < 1000000000) (hbase : base ≤ w.heap.size)
    (h : ∀ b c w', OwnB base w' (.slice b (n + m) c) zs → Lays w v w' (.slice b (n + m) c) → wpList Tryz.prog ops Q rest (a.put o.dst (.slice b (n + m) c)) w') : wpList Tryz.prog ops Q (o :: rest) a w := by
  obtain ⟨i0, hi, hz0, hz1, hz2⟩ := info_parts A5
  subst hn
  subst hz
  cases ao with
  | none =>
    obtain ⟨rfl, rfl⟩ := hu.none rfl
    have hy : ys = [] := List.eq_nil_of_length_eq_zero hu.len
    subst hy
    obtain ⟨b, c, e⟩ := hown.form
    subst e
    refine wpList_append_own_none hgd s x 22 ho base 5 i0 1 Tryz.underlying22 hi _ _ _ hs hown hx ?_
    exact h b c w (by simpa using hown) (Lays.refl _ _)
  | some ad =>
    obtain rfl := hu.len
    refine wpList_plain hgd fun K hK => ?_
    obtain ⟨v', w', hr, h2, h3, h4⟩ := run_append_where (P := Tryz.prog) w base 22 o.type 5 i0 (.int .u8 0) 1 1 Tryz.underlying22 hi hz0 hz1 hz2 rfl (by decide) v xs.length (bcells xs) hown ad ys.length c (bcells ys) (by rw [bcells_len, Nat.mul_one]) (hu.cell ad rfl) (bcells_one ys) (by unfold maxLen; omega) (by omega) hbase
    have h5 : OwnB base w' v' (xs ++ ys) := OwnB.joined h2
    obtain ⟨b, c', e⟩ := h5.form
    rw [List.length_append] at e
    subst e
    unfold Oper.wp execOp
    simp only [ho, resolve, invoke, builtin, Sem.run_bind, Sem.run_pure, Result.andThen_ok, List.map_toArray, List.map_cons, List.map_nil, hs, hx, hr]
    exact hK _ _ (h b c' w' h5 ⟨h3, h4⟩)
theorem ArgB.one (w : World) (x : UInt8) (c : Int) (hc : c = x.toNat) : ArgB (w.alloc (.cells #[.int .u8 c] 5)) (some ⟨w.heap.size, 0, Option.none⟩) 1 1 [x] := by
  subst hc
  refine ⟨rfl, by simp, Nat.le_refl _, fun ad e j u hu => ?_⟩
  cases e
  match j, hu with
  | 0, hu => simp [bcells] at hu; subst hu; rw [addB_plain]; simp
  | (j + 1), hu => simp [bcells] at hu
/-- One byte more. -/
theorem wpList_append_b1 {w : World} {ops : Array Oper} {rest : List Oper} {o : Oper} {a : Act} {Q : Exit → Act → World → Prop} (hgd : o.guard = none) (s x : Operand)
    (ho : o.op = .call { callee := .builtin .append, args := #[s, x], argTypes := #[22, 22] })
    (base : Nat) (v : Value) (xs : List UInt8) (hs : a.eval s = v) (hown : OwnB base w v xs) (c : Int) (hx : a.eval x = .slice (some ⟨w.heap.size, 0, none⟩) 1 1) (y : UInt8) (hc : c = y.toNat)
    (n : Nat) (hn : xs.length = n) (zs : List UInt8) (hz : xs ++ [y] = zs) (hlen : n + 1 < 1000000000) (hbase : base ≤ w.heap.size)
    (h : ∀ b c w', OwnB base w' (.slice b (n + 1) c) zs → Lays w v w' (.slice b (n + 1) c) → wpList Tryz.prog ops Q rest (a.put o.dst (.slice b (n + 1) c)) w') : wpList Tryz.prog ops Q (o :: rest) a (w.alloc (.cells #[.int .u8 c] 5)) :=
  wpList_append_bytes hgd s x ho base v xs hs (hown.alloc _) _ 1 1 [y] hx (ArgB.one w y c hc) n hn zs hz hlen (by simp; omega) fun b c' w' h1 h2 => h b c' w' h1 (((Lays.refl w v).alloc _).trans h2)
theorem run_append_where_str {P : Program} (w : World) (base : Nat) (t u ty e : TypeId) (i : TypeInfo) (ht : P.underlying t = some (.slice e)) (hu : P.underlying u = some .string) (hi : P.info? e = some i) (hz : i.zero = some (.int .u8 0))
    (hsize : i.size = 1) (hby : i.bytes = 1)
    (v : Value) (n : Nat) (xs : List Value) (hown : w.ownsRow base e 1 v n xs) (s : ByteArray)
    (h63 : n + s.size ≤ maxLen) (hbytes : n + s.size ≤ 140737488355328) (hbase : base ≤ w.heap.size) :
    ∃ v' w', (Builtin.append_ #[t, u] ty #[v, .string s]).run P w = .ok v' w' ∧ w'.ownsRow base e 1 v' (n + s.size) (xs ++ Lib.strCells s) ∧ w.grownBy w' v.ownBlock ∧ Stays w v v' := by
  obtain ⟨v', w', hr, h2, h3, h4⟩ := Lib.run_append_own_string (P := P) w base t u ty e i ht hu hi hz hsize hby v n xs hown s h63 hbytes hbase
  refine ⟨v', w', hr, h2, h3, ?_⟩
  rcases hown.2 with ⟨rfl, rfl⟩ | ⟨g, cap, cur, rfl, hbg, hg, hnc, hcm, hcs, htake⟩
  · by_cases hm : s.size = 0
    · rw [h4.2 ⟨rfl, hm⟩]
      exact .inl rfl
    · have hx : xs = [] := List.eq_nil_of_length_eq_zero (by simpa using hown.1)
      subst hx
      obtain ⟨v'', w'', hr', k2, _, _⟩ := Lib.run_append_own_string (P := P) w w.heap.size t u ty e i ht hu hi hz hsize hby (.slice none 0 0) 0 [] (World.ownsRow_nil w w.heap.size e 1) s h63 hbytes (Nat.le_refl _)
      rw [hr] at hr'
      injection hr' with e1 e2
      subst e1
      rcases k2.2 with ⟨e3, _⟩ | ⟨g', cap', cur', e3, hb', _⟩
      · exact absurd (h4.1 e3).2 hm
      · exact .inr ⟨g', by rw [e3]; rfl, hb'⟩
  · have hcs' : cur.size = cap := by simpa using hcs
    by_cases hroom : n + s.size ≤ cap
    · have hr' := Lib.run_append_room_string (P := P) w t u ty e i ht hu hi hsize g n cap cur hg s hroom (by omega)
      rw [hr] at hr'
      injection hr' with e1 e2
      rw [e1]
      exact .inl rfl
    · have hsmall : n + s.size ≤ 9223372036854775807 := by simp only [maxLen] at h63; omega
      have hxl : xs.length = n := by simpa using hown.1
      have holds : ∀ j u, xs[j]? = some u → w.cell? ((⟨g, 0, none⟩ : Addr).add j) = some u := hown.cells (g := g) rfl
      have hr' := Lib.run_append_grow_string (P := P) w t u ty e i (.int .u8 0) ht hu hi hz ⟨g, 0, none⟩ n cap xs (by rw [hsize]; simpa using hxl) holds s (by omega) (by omega) (by rw [hby]; exact growslice_fits (by omega) (by omega))
      rw [hr] at hr'
      injection hr' with e1 e2
      rw [e1]
      exact .inr ⟨w.heap.size, rfl, Nat.le_refl _⟩
/-- A text's bytes more. -/
theorem wpList_append_str {w : World} {ops : Array Oper} {rest : List Oper} {o : Oper} {a : Act} {Q : Exit → Act → World → Prop} (hgd : o.guard = none) (s x : Operand)
    (ho : o.op = .call { callee := .builtin .append, args := #[s, x], argTypes := #[22, 9] })
    (base : Nat) (v : Value) (xs : List UInt8) (hs : a.eval s = v) (hown : OwnB base w v xs) (t : ByteArray) (hx : a.eval x = .string t)
    (n m : Nat) (hn : xs.length = n) (hm : t.size = m) (zs : List UInt8) (hz : xs ++ t.data.toList = zs) (hlen : n + m < 1000000000) (hbase : base ≤ w.heap.size)
    (h : ∀ b c w', OwnB base w' (.slice b (n + m) c) zs → Lays w v w' (.slice b (n + m) c) → wpList Tryz.prog ops Q rest (a.put o.dst (.slice b (n + m) c)) w') : wpList Tryz.prog ops Q (o :: rest) a w := by
  obtain ⟨i0, hi, hz0, hz1, hz2⟩ := info_parts A5
  subst hn
  subst hm
  subst hz
  refine wpList_plain hgd fun K hK => ?_
  obtain ⟨v', w', hr, h2, h3, h4⟩ := run_append_where_str (P := Tryz.prog) w base 22 9 o.type 5 i0 Tryz.underlying22 Tryz.underlying9 hi hz0 hz1 hz2 v xs.length (bcells xs) hown t (by unfold maxLen; omega) (by omega) hbase
  rw [bcells_str] at h2
  have h5 : OwnB base w' v' (xs ++ t.data.toList) := OwnB.joined h2
  obtain ⟨b, c', e⟩ := h5.form
  rw [List.length_append, ← Hog.size_len] at e
  subst e
  unfold Oper.wp execOp
  simp only [ho, resolve, invoke, builtin, Sem.run_bind, Sem.run_pure, Result.andThen_ok, List.map_toArray, List.map_cons, List.map_nil, hs, hx, hr]
  exact hK _ _ (h b c' w' h5 ⟨h3, h4⟩)

end Go.Proofs.YtecjkkipglldlaaGreatDoor
