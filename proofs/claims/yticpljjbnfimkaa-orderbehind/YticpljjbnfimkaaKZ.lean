/- Places in memory: numbers in a row of one's own; a map of places. -/
import Derived.Test.YticpljjbnfimkaaKB
import Derived.Test.YticpljjbnfimkaaJ14
namespace Go.Proofs.Yticpljjbnfimkaa
open Go.RowKit

theorem grown_new {w wr w2 : World} {row r2 : Option Nat} (h : w.grownBy wr row) (k : wr.grownBy w2 r2) (hn : ∀ g, r2 = some g → w.heap.size ≤ g) : w.grownBy w2 row :=
  ⟨k.os.trans h.os, k.tape.trans h.tape, k.output.trans h.output, Nat.le_trans h.size k.size, fun i hi hr => (k.block i (Nat.lt_of_lt_of_le hi h.size) (fun e => by have := hn i e.symm; omega)).trans (h.block i hi hr)⟩
theorem map_not_cell {w : World} {m : Nat} {f : ByteArray → Option Int} (h : MapF w m f) {b o : Nat} {v : Value} (hc : w.cell? ⟨b, o, none⟩ = some v) : some b ≠ some m := by
  intro e
  obtain rfl : b = m := Option.some.inj e
  obtain ⟨es, c, h1, _⟩ := h.ex
  unfold World.cell? at hc
  rw [h1] at hc
  cases hc
/-- The map's numbers are places. -/
def intM (g : ByteArray → Option Nat) : ByteArray → Option Int := fun x => Option.map (fun k : Nat => (k : Int)) (g x)
theorem intM_some {g : ByteArray → Option Nat} {x : ByteArray} {k : Nat} (h : g x = some k) : intM g x = some (k : Int) := by unfold intM; rw [h]; rfl
theorem intM_none {g : ByteArray → Option Nat} {x : ByteArray} (h : g x = none) : intM g x = none := by unfold intM; rw [h]; rfl
theorem intM_del (g : ByteArray → Option Nat) (x : ByteArray) : Hog.delK (intM g) x = intM (Hog.delK g x) := by
  funext q
  unfold Hog.delK intM
  show (if q = x then none else Option.map (fun k : Nat => (k : Int)) (g q)) = Option.map (fun k : Nat => (k : Int)) (if q = x then none else g q)
  by_cases e : q = x
  · rw [if_pos e, if_pos e]; rfl
  · rw [if_neg e, if_neg e]
/-- Places, as the program's numbers. -/
def numK (L : List Nat) : List Int := L.map fun k : Nat => (k : Int)
theorem nums_len (L : List Nat) : (numK L).length = L.length := List.length_map _
theorem nums_app (L M : List Nat) : numK (L ++ M) = numK L ++ numK M := List.map_append
theorem nums_get {L : List Nat} {j k : Nat} (h : L[j]? = some k) : (numK L)[j]? = some (k : Int) := by unfold numK; rw [List.getElem?_map, h]; rfl
theorem OwnZ.off {base : Nat} {w : World} {v : Value} {xs : List Int} {m : Nat} (h : OwnZ base w v xs) (hm : m < base) : v.ownBlock = none ∨ v.ownBlock ≠ some m := by
  refine .inr fun e => ?_
  have := (h.lt m e).1
  omega
theorem OwnZ.held {base : Nat} {w w' : World} {v : Value} {xs : List Int} {m : Nat} (h : OwnZ base w v xs) (hg : w.grownBy w' (some m)) (hm : m < base) : OwnZ base w' v xs := World.ownsRow.kept h hg (h.off hm)

theorem OwnZ.argI {base : Nat} {w : World} {ao : Option Addr} {n c : Nat} {xs : List Int} (h : OwnZ base w (.slice ao n c) xs) : ArgI w ao n c xs := by
  have h' := h
  obtain ⟨_, h2⟩ := h
  rcases h2 with ⟨e, h0⟩ | ⟨g, cap, cur, e, hb, hg, hn, hm, hs, ht⟩
  · obtain rfl := List.eq_nil_of_length_eq_zero h0
    cases e
    exact ⟨rfl, fun _ => ⟨rfl, rfl⟩, Nat.le_refl _, fun ad e => by cases e⟩
  · obtain ⟨rfl, rfl, rfl⟩ : ao = some ⟨g, 0, none⟩ ∧ n = xs.length ∧ c = cap := by simpa using e
    exact ⟨rfl, fun e => by (cases e), hn, fun ad e j u hu => by cases e; exact World.ownsRow.cells h' (g := g) rfl j u hu⟩
theorem wpList_append_argZ {w : World} {ops : Array Oper} {rest : List Oper} {o : Oper} {a : Act} {Q : Exit → Act → World → Prop} (hgd : o.guard = none) (s x : Operand)
    (ho : o.op = .call { callee := .builtin .append, args := #[s, x], argTypes := #[28, 28] })
    (base : Nat) (v : Value) (xs : List Int) (hs : a.eval s = v) (hown : OwnZ base w v xs) (ao : Option Addr) (m c : Nat) (ys : List Int) (hx : a.eval x = .slice ao m c) (hu : ArgI w ao m c ys)
    (q : Nat) (hq : xs.length + ys.length = q) (zs : List Int) (hz : xs ++ ys = zs) (hlen : q < 1000000) (hbase : base ≤ w.heap.size)
    (h : ∀ b c w', OwnZ base w' (.slice b q c) zs → w.grownBy w' v.ownBlock → wpList Try.prog ops Q rest (a.put o.dst (.slice b q c)) w') : wpList Try.prog ops Q (o :: rest) a w := by
  subst hq hz
  cases ao with
  | none =>
    obtain ⟨i0, hi, hz0, hz1, hz2⟩ := info_parts A3
    obtain ⟨rfl, rfl⟩ := hu.none rfl
    have hy : ys = [] := List.eq_nil_of_length_eq_zero hu.len
    subst hy
    obtain ⟨b, c, e⟩ := hown.form
    subst e
    refine wpList_append_own_none hgd s x 28 ho base 3 i0 1 Try.underlying28 hi _ _ _ hs hown hx ?_
    exact h b c w (by simpa using hown) (grown_refl _ _)
  | some ad =>
    refine wpList_append_whereZ hgd s x ho base v xs hs hown ad m c ys hx hu hlen hbase fun b c w' h1 h2 _ => h b c w' h1 h2
theorem OwnZ.at' {base : Nat} {w : World} {a : Option Addr} {q c k z : Nat} {zs : List Nat} (h : OwnZ base w (.slice a q c) (numK zs)) (hz : zs[k]? = some z) : ∃ g, a = some ⟨g, 0, none⟩ ∧ w.cell? ⟨g, k, none⟩ = some (.int .i64 z) := by
  have h1 := h.argI
  have hk := (List.getElem?_eq_some_iff.1 hz).1
  have hc := h1.cell
  rcases h.2 with ⟨e, h0⟩ | ⟨g, cap, cur, e, _⟩
  · rw [nums_len] at h0; omega
  · obtain ⟨rfl, _⟩ : a = some ⟨g, 0, none⟩ ∧ _ := by simpa using e
    refine ⟨g, rfl, ?_⟩
    have := hc _ rfl k (.int .i64 z) (by rw [List.getElem?_map, nums_get hz]; rfl)
    rw [add_plain, Nat.zero_add] at this
    exact this
end Go.Proofs.Yticpljjbnfimkaa
