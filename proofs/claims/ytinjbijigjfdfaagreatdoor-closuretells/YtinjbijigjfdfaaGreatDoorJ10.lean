/- Texts that stand together, joined: SB, SC, SD, SE, SF. -/
import Derived.Test.YtinjbijigjfdfaaGreatDoorSA
import Derived.Test.YtinjbijigjfdfaaGreatDoorJ7
import Derived.Test.YtinjbijigjfdfaaGreatDoorJ8
import Derived.RegionTactic
import Derived.RangeFuncNested
import Derived.RangeFuncBound
import Derived.RangeFuncCalls
import Derived.RangeFuncLeaves
import Derived.RangeFuncBox
import Derived.RangeFuncFrom
import Derived.Shelf.Abstract
import Derived.Shelf.RegionOpen
import Derived.OwnWalkIn
import Derived.TacticsInMore
import Derived.LoopNIn
import Derived.LoopIn
import Derived.Maps.AppendAt
/- The walk of package scan: grow. -/
namespace Go.Proofs.YtinjbijigjfdfaaGreatDoor
open Go.RowKit

theorem bne_byte {x y : UInt8} (h : x ≠ y) : ((x.toNat : Int) != (y.toNat : Int)) = true := by
  rw [bne_iff_ne]
  intro e
  exact h (UInt8.toNat_inj.1 (by omega))
theorem eq_byte {x y : UInt8} (h : x = y) : ((x.toNat : Int) != (y.toNat : Int)) = false := by rw [h]; simp
theorem beq_byte {x y : UInt8} (h : x = y) : ((x.toNat : Int) == (y.toNat : Int)) = true := by rw [h]; simp
theorem not_byte {x y : UInt8} (h : x ≠ y) : ((x.toNat : Int) == (y.toNat : Int)) = false := by
  rw [beq_eq_false_iff_ne]
  intro e
  exact h (UInt8.toNat_inj.1 (by omega))

end Go.Proofs.YtinjbijigjfdfaaGreatDoor
/- The walk of package scan: borders. -/
namespace Go.Proofs.YtinjbijigjfdfaaGreatDoor
open Go.RowKit

theorem ints_zero (n : Nat) : (madeCells #[Value.int .i64 0] n).toList = (List.replicate n (0 : Int)).map (Value.int .i64) := by
  rw [toList_madeCells_one, List.map_replicate]
theorem OwnZ.cellAt {base : Nat} {w : World} {g n c : Nat} {zs : List Int} (h : OwnZ base w (.slice (some ⟨g, 0, none⟩) n c) zs) {j : Nat} {z : Int} (hz : zs[j]? = some z) : w.cell? ⟨g, j, none⟩ = some (.int .i64 z) := by
  obtain ⟨a, c', e⟩ := h.form
  have hj := (List.getElem?_eq_some_iff.1 hz).1
  simp only [Value.slice.injEq] at e
  obtain ⟨rfl, rfl, rfl⟩ := e
  have h1 := World.ownsRow.cellAt h j (by omega)
  rw [h1]; simp [hz]
theorem OwnZ.free {base : Nat} {w : World} {g n c : Nat} {zs : List Int} (h : OwnZ base w (.slice (some ⟨g, 0, none⟩) n c) zs) (j : Nat) : w.frozen? ⟨g, j, none⟩ = false := by
  obtain ⟨a, c', e⟩ := h.form
  simp only [Value.slice.injEq] at e
  obtain ⟨rfl, rfl, rfl⟩ := e
  exact World.ownsRow.frozenAt h j
theorem OwnZ.put {base : Nat} {w : World} {g n c : Nat} {zs : List Int} (h : OwnZ base w (.slice (some ⟨g, 0, none⟩) n c) zs) (j : Nat) (x : Int) : OwnZ base (w.setCell ⟨g, j, none⟩ (.int .i64 x)) (.slice (some ⟨g, 0, none⟩) n c) (zs.set j x) := by
  obtain ⟨a, c', e⟩ := h.form
  simp only [Value.slice.injEq] at e
  obtain ⟨rfl, rfl, rfl⟩ := e
  have := h.stored j x
  rwa [List.length_set] at this

theorem tail_snoc {P : List UInt8} {k : Nat} {x : UInt8} (hx : P[k + 1]? = some x) : P.tail.take k ++ [x] = P.tail.take (k + 1) := by
  have h1 : P.tail[k]? = some x := by rw [List.getElem?_tail]; exact hx
  obtain ⟨hk, e⟩ := List.getElem?_eq_some_iff.1 h1
  rw [List.take_succ_eq_append_getElem hk, e]

end Go.Proofs.YtinjbijigjfdfaaGreatDoor
/- The iterator of package scan: what it hands to whoever ranges over it. -/
namespace Go.Proofs.YtinjbijigjfdfaaGreatDoor
open Go.RowKit Go.Shelf

attribute [local go_sem] Oper.semAt_some

/-- In which block lie the elements of the slice that is kept in the box B? -/
def rowAt (w : World) (B : Nat) : Option Nat := (w.cell? ⟨B, 0, none⟩).bind Value.ownBlock
/-- Of all cells only the box B, and the elements of its slice, have turned; these lie where they lay, or in a new block. -/
def KpZ (B : Nat) (w w' : World) : Prop :=
  w.heap.size ≤ w'.heap.size ∧ (∀ k o, w.heap[k]? = some o → o.isCells = true → k ≠ B → some k ≠ rowAt w B → w'.heap[k]? = some o) ∧ (rowAt w' B = rowAt w B ∨ ∃ k, rowAt w' B = some k ∧ w.heap.size ≤ k)
theorem KpZ.trans {B : Nat} {a b c : World} (h : KpZ B a b) (k : KpZ B b c) : KpZ B a c := by
  refine ⟨Nat.le_trans h.1 k.1, fun i o hi hc hB hr => ?_, ?_⟩
  · refine k.2.1 i o (h.2.1 i o hi hc hB hr) hc hB ?_
    rcases h.2.2 with e | ⟨j, e, hj⟩
    · rw [e]; exact hr
    · rw [e]
      intro e2
      have h1 := (Array.getElem?_eq_some_iff.1 hi).1
      simp at e2
      omega
  · rcases k.2.2 with e | ⟨j, e, hj⟩
    · rw [e]; exact h.2.2
    · exact .inr ⟨j, e, Nat.le_trans h.1 hj⟩
theorem KpZ.book {B : Nat} {w : World} (hB : B < w.heap.size) (W : World) (l : Nat) (o o' : Obj) (hl : w.heap.size ≤ l) (h : W.heap[l]? = some o) (hc : o.isCells = false) (_ : o.isWalk = false) : KpZ B W (W.putObj l o') := by
  have hg := grownBy_putObj' W l o'
  refine ⟨hg.size, fun k ok hk hck _ _ => ?_, .inl ?_⟩
  · rw [hg.block k (Array.getElem?_eq_some_iff.1 hk).1 (fun e => ?_)]
    · exact hk
    · cases e
      rw [h] at hk
      cases hk
      rw [hc] at hck
      cases hck
  · unfold rowAt
    rw [World.cell?_of_block (hg.block B (by have := (Array.getElem?_eq_some_iff.1 h).1; omega) (fun e => by cases e; omega))]
theorem grown_of_below {w w' : World} (h : Below w.heap.size w w') : w.grownBy w' none := ⟨h.os, h.tape, h.output, h.size, fun k hk _ => h.block k hk⟩

/-- What the iterator reads between two rounds: its two boxes, and its table. -/
structure Sits (B0 Bx Bw Bs : Nat) (p s : ByteArray) (zs : List Int) (w : World) : Prop where
  bw : Boxed w Bw 9 (.string p)
  bs : Boxed w Bs 9 (.string s)
  back : OwnZ B0 w (.slice (some ⟨B0, 0, none⟩) p.size p.size) zs
  row : rowAt w Bx = none ∨ ∃ k, rowAt w Bx = some k ∧ B0 < k
  lw : Bw < B0
  ls : Bs < B0
  lx : Bx < B0
  nw : Bw ≠ Bx
  ns : Bs ≠ Bx
theorem Sits.table {B0 Bx Bw Bs : Nat} {p s : ByteArray} {zs : List Int} {w : World} (h : Sits B0 Bx Bw Bs p s zs w) : ∃ cur, w.heap[B0]? = some (.cells cur 3 (0, 0)) := by
  rcases h.back.2 with ⟨e, _⟩ | ⟨g, cap, cur, e, _, hg, _⟩
  · cases e
  · simp only [Value.slice.injEq, Option.some.injEq, Addr.mk.injEq, and_true] at e
    obtain ⟨rfl, _⟩ := e
    exact ⟨cur, hg⟩
theorem Sits.size {B0 Bx Bw Bs : Nat} {p s : ByteArray} {zs : List Int} {w : World} (h : Sits B0 Bx Bw Bs p s zs w) : B0 < w.heap.size := by
  obtain ⟨cur, hg⟩ := h.table
  exact (Array.getElem?_eq_some_iff.1 hg).1
theorem Sits.not {B0 Bx Bw Bs : Nat} {p s : ByteArray} {zs : List Int} {w : World} (h : Sits B0 Bx Bw Bs p s zs w) {k : Nat} (hk : k ≤ B0) : some k ≠ rowAt w Bx := by
  rcases h.row with e | ⟨j, e, hj⟩
  · rw [e]; simp
  · rw [e]; intro e2; simp at e2; omega
theorem Sits.step {B0 Bx Bw Bs : Nat} {p s : ByteArray} {zs : List Int} {w w' : World} (h : Sits B0 Bx Bw Bs p s zs w) (k : KpZ Bx w w') : Sits B0 Bx Bw Bs p s zs w' := by
  obtain ⟨cur, hg⟩ := h.table
  have hg' : w'.heap[B0]? = w.heap[B0]? := by rw [hg]; exact k.2.1 B0 _ hg rfl (by have := h.lx; omega) (h.not (Nat.le_refl _))
  refine ⟨k.2.1 _ _ h.bw rfl h.nw (h.not (by have := h.lw; omega)), k.2.1 _ _ h.bs rfl h.ns (h.not (by have := h.ls; omega)), ⟨h.back.1, ?_⟩, ?_, h.lw, h.ls, h.lx, h.nw, h.ns⟩
  · rcases h.back.2 with ⟨e, _⟩ | ⟨g, cap, cur', e, hb, hgg, r⟩
    · cases e
    · have e2 := e
      simp only [Value.slice.injEq, Option.some.injEq, Addr.mk.injEq, and_true] at e2
      obtain ⟨e3, _⟩ := e2
      subst e3
      exact .inr ⟨_, cap, cur', e, hb, by rw [hg']; exact hgg, r⟩
  · rcases k.2.2 with e | ⟨j, e, hj⟩
    · rw [e]; exact h.row
    · exact .inr ⟨j, e, by have := h.size; omega⟩
theorem rowAt_below {w w' : World} {B : Nat} (hb : Below w.heap.size w w') (hB : B < w.heap.size) : rowAt w' B = rowAt w B := by
  unfold rowAt
  rw [hb.cell (p := ⟨B, 0, none⟩) hB]
theorem Boxed.belowB {w w' : World} {B : Nat} {t : TypeId} {v : Value} (h : Boxed w B t v) (hb : Below w.heap.size w w') : Boxed w' B t v := (hb.block B h.lt).trans h
theorem Sits.below {B0 Bx Bw Bs : Nat} {p s : ByteArray} {zs : List Int} {w w' : World} (h : Sits B0 Bx Bw Bs p s zs w) (hb : Below w.heap.size w w') : Sits B0 Bx Bw Bs p s zs w' :=
  ⟨Boxed.belowB h.bw hb, Boxed.belowB h.bs hb, h.back.below hb, by rw [rowAt_below hb (by have := h.size; have := h.lx; omega)]; exact h.row, h.lw, h.ls, h.lx, h.nw, h.ns⟩

end Go.Proofs.YtinjbijigjfdfaaGreatDoor
/- The walks of slices.AppendSeq, slices.Collect over the iterator of package scan; Places, Has. -/
namespace Go.Proofs.YtinjbijigjfdfaaGreatDoor
open Go.RowKit Go.Shelf

attribute [local go_sem] Oper.semAt_some

theorem wpListIn_append_where {F : Fence} {n : Nat} {P : Program} (w : World) {ops : Array Oper} {rest : List Oper} {o : Oper} {a : Act} {Q : Exit → Act → World → Prop}
    (hg : o.guard = none) (s x : Operand) (t : TypeId) (hop : o.op = Op.call { callee := Callee.builtin Builtin.append, args := #[s, x], argTypes := #[t, t] })
    (base : Nat) (e : TypeId) (i : TypeInfo) (z : Value) (size bytes : Nat) (h1 : P.underlying t = some (.slice e)) (h2 : P.info? e = some i) (h3 : i.zero = some z) (h4 : i.size = size) (h5 : i.bytes = bytes) (h6 : z.cells.size = size) (h7 : 0 < size)
    (v : Value) (k : Nat) (xs : List Value) (hs : a.eval s = v) (hown : w.ownsRow base e size v k xs) (ad : Addr) (m c : Nat) (news : List Value) (hx : a.eval x = .slice (some ad) m c) (hn : news.length = m * size)
    (hc : ∀ j u, news[j]? = some u → w.cell? (ad.add j) = some u) (h1c : ∀ u ∈ news, u.oneCell' = true) (b1 : k + m ≤ maxLen) (b2 : (k + m) * bytes ≤ 140737488355328) (b3 : base ≤ w.heap.size)
    (hK : ∀ v' w', w'.ownsRow base e size v' (k + m) (xs ++ news) → w.grownBy w' v.ownBlock → Stays w v v' → wpListIn F n P ops Q rest (a.put o.dst v') w') :
    wpListIn F n P ops Q (o :: rest) a w := by
  refine wpListIn_plain hg fun K hK' => ?_
  obtain ⟨v', w', hrun, r1, r2, r3⟩ := run_append_where (P := P) w base t o.type e i z size bytes h1 h2 h3 h4 h5 h6 h7 v k xs hown ad m c news hn hc h1c b1 b2 b3
  unfold Oper.wpIn
  refine ⟨?_, ?_⟩
  · simp [Oper.about, hop, resolve, Target.leads, Sem.run_pure]
  · rw [Oper.semAt_plain F _ _ (by rw [hop]; intro c hc'; cases hc')]
    simp [execOp, hop, resolve, invoke, builtin, hs, hx, hrun, Result.andThen]
    exact hK' _ _ (hK v' w' r1 r2 r3)

theorem rowAt_box {w : World} {B : Nat} {t : TypeId} {v : Value} (h : Boxed w B t v) : rowAt w B = v.ownBlock := by
  unfold rowAt
  rw [h.cell]
  rfl
theorem KpZ.appended {W w1 : World} {B : Nat} {t : TypeId} {v v' : Value} {tmp : Obj} (hv : Boxed W B t v) (hv2 : Boxed (w1.setCell ⟨B, 0, none⟩ v') B t v') (hgrow : (W.alloc tmp).grownBy w1 v.ownBlock) (hst : Stays (W.alloc tmp) v v') :
    KpZ B W (w1.setCell ⟨B, 0, none⟩ v') := by
  have hg2 := grownBy_setCell' w1 B v'
  have hs0 : (W.alloc tmp).heap.size = W.heap.size + 1 := by simp
  refine ⟨?_, fun k o hk hc hB hr => ?_, ?_⟩
  · have h1 := hgrow.size
    have h2 := hg2.size
    omega
  · have hlt := (Array.getElem?_eq_some_iff.1 hk).1
    rw [rowAt_box hv] at hr
    have h1 := hgrow.size
    rw [hg2.block k (by omega) (fun e => hB (by cases e; rfl)), hgrow.block k (by omega) hr, Below.heap_alloc _ _ k hlt]
    exact hk
  · rw [rowAt_box hv2, rowAt_box hv]
    rcases hst with e | ⟨k, e, hk⟩
    · exact .inl e
    · exact .inr ⟨k, e, by omega⟩

/-- The places, as numbers in memory. -/
def nums (l : List Nat) : List Int := List.map (fun x : Nat => (x : Int)) l

end Go.Proofs.YtinjbijigjfdfaaGreatDoor
/- The walks of package scan: Places, Has. -/
namespace Go.Proofs.YtinjbijigjfdfaaGreatDoor
open Go.RowKit Go.Shelf

attribute [local go_sem] Oper.semAt_some

theorem two_boxes (s p : ByteArray) (w : World) : Boxed ((w.alloc (.cells #[.string s] 9)).alloc (.cells #[.string p] 9)) (w.heap.size + 1) 9 (.string p) ∧ Boxed ((w.alloc (.cells #[.string s] 9)).alloc (.cells #[.string p] 9)) w.heap.size 9 (.string s) ∧ Below w.heap.size w ((w.alloc (.cells #[.string s] 9)).alloc (.cells #[.string p] 9)) := by
  refine ⟨?_, (Boxed.new w 9 (.string s)).alloc _, ((Below.refl _ w).alloc (Nat.le_refl _) _).alloc (by simp) _⟩
  have h := Boxed.new (w.alloc (.cells #[.string s] 9)) 9 (.string p)
  rwa [World.size_alloc] at h

end Go.Proofs.YtinjbijigjfdfaaGreatDoor
