/- A slice of numbers in memory; the walks of the statements' own SameInts and OverInts. -/
import Derived.Test.YtinjbijigjfdfaaGreatDoorJ14
import Derived.Test.YtinjbijigjfdfaaGreatDoorJ2
namespace Go.Proofs.YtinjbijigjfdfaaGreatDoor
open Go.RowKit

/-- The slice v holds the numbers xs. -/
def Zs (w : World) (v : Value) (xs : List Int) : Prop :=
  (xs = [] ∧ ∃ a c, v = .slice a 0 c) ∨
  (∃ b o c, v = .slice (some ⟨b, o, none⟩) xs.length c ∧ xs.length ≤ c ∧ b < w.heap.size ∧ ∀ (j : Nat) x, xs[j]? = some x → w.cell? ⟨b, o + j, none⟩ = some (.int .i64 x))

/-- The slice v holds the numbers xs in a row of its own, from block number base on. -/
def OwnZ (base : Nat) (w : World) (v : Value) (xs : List Int) : Prop := w.ownsRow base 3 1 v xs.length (xs.map (Value.int .i64))

theorem OwnZ.nil (base : Nat) (w : World) : OwnZ base w (.slice none 0 0) [] := World.ownsRow_nil w base 3 1

theorem OwnZ.txt {base : Nat} {w : World} {v : Value} {xs : List Int} (h : OwnZ base w v xs) : Zs w v xs := by
  obtain ⟨_, h2⟩ := h
  rcases h2 with ⟨rfl, h0⟩ | ⟨g, cap, cur, rfl, hb, hg, hn, hm, hs, ht⟩
  · exact .inl ⟨List.eq_nil_of_length_eq_zero h0, _, _, rfl⟩
  · refine .inr ⟨g, 0, cap, rfl, hn, (Array.getElem?_eq_some_iff.1 hg).1, fun j x hx => ?_⟩
    have hj : (xs.map (Value.int .i64))[j]? = some (.int .i64 x) := by simp [hx]
    rw [← ht, List.getElem?_take] at hj
    split at hj
    · rw [World.cell?, hg]; simpa using hj
    · cases hj

theorem Zs.below {w w' : World} {v : Value} {xs : List Int} (h : Zs w v xs) (hb : Below w.heap.size w w') : Zs w' v xs := by
  rcases h with h | ⟨b, o, c, rfl, hc, hlt, hcell⟩
  · exact .inl h
  · exact .inr ⟨b, o, c, rfl, hc, Nat.lt_of_lt_of_le hlt hb.size, fun j x hx => (hb.cell (p := ⟨b, o + j, none⟩) hlt).trans (hcell j x hx)⟩

theorem OwnZ.below {base : Nat} {w w' : World} {v : Value} {xs : List Int} (h : OwnZ base w v xs) (hb : Below w.heap.size w w') : OwnZ base w' v xs := by
  refine ⟨h.1, ?_⟩
  rcases h.2 with h2 | ⟨g, cap, cur, rfl, hbs, hg, r⟩
  · exact .inl h2
  · exact .inr ⟨g, cap, cur, rfl, hbs, by rw [hb.block g (Array.getElem?_eq_some_iff.1 hg).1]; exact hg, r⟩

theorem OwnZ.base {base base' : Nat} {w : World} {v : Value} {xs : List Int} (h : OwnZ base w v xs) (hb : base' ≤ base) : OwnZ base' w v xs := by
  refine ⟨h.1, ?_⟩
  rcases h.2 with h2 | ⟨g, cap, cur, e, hbs, r⟩
  · exact .inl h2
  · exact .inr ⟨g, cap, cur, e, Nat.le_trans hb hbs, r⟩

/-- A new row that holds just these numbers. -/
theorem OwnZ.made (w : World) (xs : List Int) (hm : xs.length ≤ maxLen) :
    OwnZ w.heap.size (w.alloc (.cells (xs.map (Value.int .i64)).toArray 3)) (.slice (some ⟨w.heap.size, 0, none⟩) xs.length xs.length) xs :=
  ⟨by simp, .inr ⟨w.heap.size, xs.length, _, rfl, Nat.le_refl _, heap_alloc_new w _, Nat.le_refl _, hm, by simp, by simp [List.take_of_length_le]⟩⟩

/-- A slice of numbers that may be read. -/
structure ArgI (w : World) (ao : Option Addr) (n c : Nat) (xs : List Int) : Prop where
  len : xs.length = n
  none : ao = none → n = 0 ∧ c = 0
  cap : n ≤ c
  cell : ∀ ad, ao = some ad → ∀ (j : Nat) u, (xs.map (Value.int .i64))[j]? = some u → w.cell? (ad.add j) = some u
theorem A3 : (Tryz.prog.info? 3).map (fun i => (i.zero, i.size, i.bytes)) = some (some (.int .i64 0), 1, 8) := by kernel_rfl
theorem ints_one (ys : List Int) : ∀ z ∈ ys.map (Value.int .i64), z.oneCell' = true := by
  intro z hz
  obtain ⟨y, _, rfl⟩ := List.mem_map.1 hz
  rfl
theorem OwnZ.joined {base : Nat} {w : World} {v : Value} {n : Nat} {xs ys : List Int} (h : w.ownsRow base 3 1 v n (xs.map (Value.int .i64) ++ ys.map (Value.int .i64))) : OwnZ base w v (xs ++ ys) := by
  have hn : n = (xs ++ ys).length := by have := h.1; simp at this; simp; omega
  subst hn
  rw [← List.map_append] at h
  exact h
theorem OwnZ.grownBelow {base : Nat} {w w' : World} {v : Value} {xs : List Int} (h : OwnZ base w v xs) (hg : w.grownBy w' v.ownBlock) (hB : base ≤ w.heap.size) : Below base w w' :=
  (Below.refl base w).grown hg hB (fun k hk => (h.lt k hk).1)
theorem OwnZ.form {base : Nat} {w : World} {v : Value} {xs : List Int} (h : OwnZ base w v xs) : ∃ a c, v = .slice a xs.length c := by
  obtain ⟨_, h2⟩ := h
  rcases h2 with ⟨rfl, h0⟩ | ⟨g, cap, cur, rfl, _⟩
  · exact ⟨none, 0, by rw [h0]⟩
  · exact ⟨_, _, rfl⟩
theorem OwnZ.alloc {base : Nat} {w : World} {v : Value} {xs : List Int} (h : OwnZ base w v xs) (o : Obj) : OwnZ base (w.alloc o) v xs := h.below (below_box w o)
theorem OwnZ.stored {base : Nat} {w : World} {g cap : Nat} {xs : List Int} (h : OwnZ base w (.slice (some ⟨g, 0, none⟩) xs.length cap) xs) (j : Nat) (x : Int) :
    OwnZ base (w.setCell ⟨g, j, none⟩ (.int .i64 x)) (.slice (some ⟨g, 0, none⟩) (xs.set j x).length cap) (xs.set j x) := by
  have h2 := World.ownsRow.stored h j (.int .i64 x)
  unfold OwnZ
  rw [List.map_set, List.length_set]
  exact h2.1

theorem wpList_append_whereZ {w : World} {ops : Array Oper} {rest : List Oper} {o : Oper} {a : Act} {Q : Exit → Act → World → Prop} (hgd : o.guard = none) (s x : Operand)
    (ho : o.op = .call { callee := .builtin .append, args := #[s, x], argTypes := #[49, 49] })
    (base : Nat) (v : Value) (xs : List Int) (hs : a.eval s = v) (hown : OwnZ base w v xs) (ad : Addr) (m c : Nat) (ys : List Int) (hx : a.eval x = .slice (some ad) m c) (hu : ArgI w (some ad) m c ys)
    (hlen : xs.length + ys.length < 1000000) (hbase : base ≤ w.heap.size)
    (h : ∀ b c w', OwnZ base w' (.slice b (xs.length + ys.length) c) (xs ++ ys) → w.grownBy w' v.ownBlock → Stays w v (.slice b (xs.length + ys.length) c) → wpList Tryz.prog ops Q rest (a.put o.dst (.slice b (xs.length + ys.length) c)) w') : wpList Tryz.prog ops Q (o :: rest) a w := by
  obtain ⟨i0, hi, hz0, hz1, hz2⟩ := info_parts A3
  obtain rfl := hu.len
  refine wpList_plain hgd fun K hK => ?_
  obtain ⟨v', w', hr, h2, h3, h4⟩ := run_append_where (P := Tryz.prog) w base 49 o.type 3 i0 (.int .i64 0) 1 8 Tryz.underlying49 hi hz0 hz1 hz2 rfl (by decide) v xs.length (xs.map (Value.int .i64)) hown ad ys.length c (ys.map (Value.int .i64)) (by simp) (hu.cell ad rfl) (ints_one ys) (by unfold maxLen; omega) (by omega) hbase
  have h5 : OwnZ base w' v' (xs ++ ys) := OwnZ.joined h2
  obtain ⟨b, c', e⟩ := h5.form
  rw [List.length_append] at e
  subst e
  unfold Oper.wp execOp
  simp only [ho, resolve, invoke, builtin, Sem.run_bind, Sem.run_pure, Result.andThen_ok, List.map_toArray, List.map_cons, List.map_nil, hs, hx, hr]
  exact hK _ _ (h b c' w' h5 h3 h4)

theorem argI_one (w : World) (x : Int) : ArgI (w.alloc (.cells #[.int .i64 x] 3)) (some ⟨w.heap.size, 0, none⟩) 1 1 [x] := by
  refine ⟨rfl, by simp, Nat.le_refl _, fun ad e j u hu => ?_⟩
  cases e
  match j, hu with
  | 0, hu => simp at hu; subst hu; simp [add_plain]
  | j + 1, hu => simp at hu
theorem take_sameZ {xs ys : List Int} {k : Nat} {x y : Int} (h : xs.take k = ys.take k) (hx : xs[k]? = some x) (hy : ys[k]? = some y) (e : x = y) : xs.take (k + 1) = ys.take (k + 1) := by
  subst e
  obtain ⟨h1, rfl⟩ := List.getElem?_eq_some_iff.1 hx
  obtain ⟨h2, e2⟩ := List.getElem?_eq_some_iff.1 hy
  rw [List.take_succ_eq_append_getElem h1, List.take_succ_eq_append_getElem h2, h, e2]

end Go.Proofs.YtinjbijigjfdfaaGreatDoor
