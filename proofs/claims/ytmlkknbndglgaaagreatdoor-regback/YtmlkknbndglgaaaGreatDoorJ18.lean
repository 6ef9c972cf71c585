/- Texts that stand together, joined: ME, MF, MG, MH. -/
import Derived.Test.YtmlkknbndglgaaaGreatDoorMA
import Derived.Test.YtmlkknbndglgaaaGreatDoorKCb
import Derived.Test.YtmlkknbndglgaaaGreatDoorJ14
import Derived.Test.YtmlkknbndglgaaaGreatDoorJ6
import Derived.RangeFuncFrom
import Derived.Deep.RegionLaw
import Derived.BigRegion
import Derived.Test.YtmlkknbndglgaaaGreatDoorJ2
import Derived.Test.YtmlkknbndglgaaaGreatDoorShelf
import Derived.Lib.AtoiAll
/- A registration as it is read, in memory: a struct behind a pointer, its items in a row, their references and its profile in rows of texts, no two in one block. -/
namespace Go.Proofs.YtmlkknbndglgaaaGreatDoor
open Go.RowKit

/-- A block that holds a registration's cells. -/
def BoxP (w : World) (g : Nat) (ty : TypeId) (pre : ByteArray) (u v : Value) (pol : Int) : Prop := w.heap[g]? = some (.cells #[.string pre, u, v, .int .i64 pol] ty (0, 0))
theorem BoxP.facts {w : World} {g : Nat} {ty : TypeId} {pre : ByteArray} {u v : Value} {pol : Int} (h : BoxP w g ty pre u v pol) :
    (w.cell? ⟨g, 0, none⟩ = some (.string pre) ∧ w.cell? ⟨g, 1, none⟩ = some u ∧ w.cell? ⟨g, 2, none⟩ = some v ∧ w.cell? ⟨g, 3, none⟩ = some (.int .i64 pol)) ∧
    (w.frozen? ⟨g, 0, none⟩ = false ∧ w.frozen? ⟨g, 1, none⟩ = false ∧ w.frozen? ⟨g, 2, none⟩ = false ∧ w.frozen? ⟨g, 3, none⟩ = false) ∧ g < w.heap.size :=
  ⟨⟨by rw [cell_of_row w g 0 _ _ (0, 0) h]; rfl, by rw [cell_of_row w g 1 _ _ (0, 0) h]; rfl, by rw [cell_of_row w g 2 _ _ (0, 0) h]; rfl, by rw [cell_of_row w g 3 _ _ (0, 0) h]; rfl⟩,
   ⟨frozen_of_row w g 0 _ _ h, frozen_of_row w g 1 _ _ h, frozen_of_row w g 2 _ _ h, frozen_of_row w g 3 _ _ h⟩, (Array.getElem?_eq_some_iff.1 h).1⟩
theorem BoxP.kept {w w' : World} {g : Nat} {ty : TypeId} {pre : ByteArray} {u v : Value} {pol : Int} {row : Option Nat} (h : BoxP w g ty pre u v pol) (hg : w.grownBy w' row) (hr : some g ≠ row) : BoxP w' g ty pre u v pol := by
  unfold BoxP
  rw [hg.block g h.facts.2.2 hr]
  exact h
theorem BoxP.below {w w' : World} {g : Nat} {ty : TypeId} {pre : ByteArray} {u v : Value} {pol : Int} (h : BoxP w g ty pre u v pol) (hb : Below w.heap.size w w') : BoxP w' g ty pre u v pol := by
  unfold BoxP
  rw [hb.block g h.facts.2.2]
  exact h
theorem BoxP.made (w : World) (ty : TypeId) (pre : ByteArray) (u v : Value) (pol : Int) : BoxP (w.alloc (.cells #[.string pre, u, v, .int .i64 pol] ty)) w.heap.size ty pre u v pol := heap_alloc_new w _
theorem BoxP.set0 {w : World} {g : Nat} {ty : TypeId} {pre : ByteArray} {u v : Value} {pol : Int} (h : BoxP w g ty pre u v pol) (x : ByteArray) : BoxP (w.setCell ⟨g, 0, none⟩ (.string x)) g ty x u v pol := by
  unfold BoxP; rw [heap_setCell_same w g 0 _ _ (.string x) h]; rfl
theorem BoxP.set1 {w : World} {g : Nat} {ty : TypeId} {pre : ByteArray} {u v : Value} {pol : Int} (h : BoxP w g ty pre u v pol) (x : Value) : BoxP (w.setCell ⟨g, 1, none⟩ x) g ty pre x v pol := by
  unfold BoxP; rw [heap_setCell_same w g 1 _ _ x h]; rfl
theorem BoxP.set2 {w : World} {g : Nat} {ty : TypeId} {pre : ByteArray} {u v : Value} {pol : Int} (h : BoxP w g ty pre u v pol) (x : Value) : BoxP (w.setCell ⟨g, 2, none⟩ x) g ty pre u x pol := by
  unfold BoxP; rw [heap_setCell_same w g 2 _ _ x h]; rfl
theorem BoxP.set3 {w : World} {g : Nat} {ty : TypeId} {pre : ByteArray} {u v : Value} {pol : Int} (h : BoxP w g ty pre u v pol) (x : Int) : BoxP (w.setCell ⟨g, 3, none⟩ (.int .i64 x)) g ty pre u v x := by
  unfold BoxP; rw [heap_setCell_same w g 3 _ _ (.int .i64 x) h]; rfl

/-- Rows of items and rows of texts do not lie in one block. -/
theorem rows_unlike {D D' : Nat} {w : World} {u v : Value} {ps : List Pr} {xs : List ByteArray} (h : OwnS D w u ps) (k : Own D' w v xs) : u.ownBlock = none ∨ u.ownBlock ≠ v.ownBlock := by
  rcases h.2 with ⟨e, _⟩ | ⟨g, cap, cur, rfl, _, hg, _⟩
  · rw [e]; exact .inl rfl
  · refine .inr fun e => ?_
    rcases k.2 with ⟨e2, _⟩ | ⟨g', cap', cur', rfl, _, hg', _⟩
    · rw [e2] at e; simp [Value.ownBlock] at e
    · obtain rfl : g = g' := by simpa [Value.ownBlock] using e
      rw [hg] at hg'
      simp at hg'
theorem rows_unlike' {D D' : Nat} {w : World} {u v : Value} {ps : List Pr} {xs : List ByteArray} (h : OwnS D w u ps) (k : Own D' w v xs) : v.ownBlock = none ∨ v.ownBlock ≠ u.ownBlock := by
  rcases rows_unlike h k with e | e
  · cases hv : v.ownBlock with
    | none => exact .inl rfl
    | some j => exact .inr (by rw [e]; simp)
  · exact .inr fun e2 => e e2.symm
theorem own_cells {D : Nat} {w : World} {v : Value} {xs : List ByteArray} (h : Own D w v xs) : ∀ (j : Nat) (o : Obj), v.ownBlock = some j → w.heap[j]? = some o → o.isCells = true := by
  intro j o e ho
  rcases h.2 with ⟨e2, _⟩ | ⟨g, cap, cur, rfl, _, hg, _⟩
  · rw [e2] at e; simp [Value.ownBlock] at e
  · obtain rfl : g = j := by simpa [Value.ownBlock] using e
    rw [hg] at ho; cases ho; rfl
theorem ownS_cells {D : Nat} {w : World} {v : Value} {ps : List Pr} (h : OwnS D w v ps) : ∀ (j : Nat) (o : Obj), v.ownBlock = some j → w.heap[j]? = some o → o.isCells = true := by
  intro j o e ho
  rcases h.2 with ⟨e2, _⟩ | ⟨g, cap, cur, rfl, _, hg, _⟩
  · rw [e2] at e; simp [Value.ownBlock] at e
  · obtain rfl : g = j := by simpa [Value.ownBlock] using e
    rw [hg] at ho; cases ho; rfl

def Off (a b : Option Nat) : Prop := a = none ∨ a ≠ b
/-- The blocks of the rows of texts. -/
def rowsOf (v : Value) (ps : List Pr) : List (Option Nat) := v.ownBlock :: ps.map fun p => (refsV p.1).ownBlock
/-- The rows of a registration that is one's own, from block number D on. -/
structure RowsR (D : Nat) (w : World) (ps : List Pr) (u v : Value) (is : List RI) (prof : List ByteArray) : Prop where
  own : OwnS D w u ps
  prf : Own D w v prof
  names : ps.map (fun p => (p.2.1, p.2.2.1)) = is
  each : ∀ p ∈ ps, p.1.1 = p.2.1 ∧ Own D w (refsV p.1) p.2.2.1 ∧ treeV p.1 = .slice none 0 0 ∧ p.2.2.2 = []
  apart : (rowsOf v ps).Pairwise Off
  low : D ≤ w.heap.size
theorem RowsR.kept {D : Nat} {w w' : World} {ps : List Pr} {u v : Value} {is : List RI} {prof : List ByteArray} {row : Option Nat} (h : RowsR D w ps u v is prof) (hg : w.grownBy w' row) (hr : ∀ k, row = some k → k < D) : RowsR D w' ps u v is prof := by
  have off : ∀ a : Option Nat, (∀ k, a = some k → D ≤ k) → a = none ∨ a ≠ row := fun a ha => by
    cases a with
    | none => exact .inl rfl
    | some k => exact .inr fun e => by have := hr k e.symm; have := ha k rfl; omega
  refine ⟨World.ownsRow.kept h.own hg (off _ fun k hk => (h.own.lt k hk).1), World.ownsRow.kept h.prf hg (off _ fun k hk => (h.prf.lt k hk).1), h.names, fun p hp => ?_, h.apart, Nat.le_trans h.low hg.size⟩
  obtain ⟨a, b, c⟩ := h.each p hp
  exact ⟨a, World.ownsRow.kept b hg (off _ fun k hk => (b.lt k hk).1), c⟩
theorem RowsR.below {D : Nat} {w w' : World} {ps : List Pr} {u v : Value} {is : List RI} {prof : List ByteArray} (h : RowsR D w ps u v is prof) (hb : Below w.heap.size w w') : RowsR D w' ps u v is prof :=
  h.kept (row := none) ⟨hb.os, hb.tape, hb.output, hb.size, fun k hk _ => hb.block k hk⟩ (fun k e => by cases e)
theorem RowsR.nil (D : Nat) (w : World) (h : D ≤ w.heap.size) : RowsR D w [] (.slice none 0 0) (.slice none 0 0) [] [] :=
  ⟨OwnS.nil D w, Own.nil D w, rfl, fun p hp => absurd hp (by simp), by simp [rowsOf], h⟩
theorem RowsR.isI {D : Nat} {w : World} {ps : List Pr} {u v : Value} {is : List RI} {prof : List ByteArray} (h : RowsR D w ps u v is prof) : ∀ p ∈ ps, IsI w p := by
  intro p hp
  obtain ⟨a, b, c, d⟩ := h.each p hp
  refine ⟨a, ?_, ?_⟩
  · have h' := b
    unfold refsV at b
    obtain ⟨_, h2⟩ := h'
    rcases h2 with ⟨e, h0⟩ | ⟨g, cap, cur, e, hb, hg, hn, hm, hs, ht⟩
    · have e0 : p.2.2.1 = [] := List.eq_nil_of_length_eq_zero h0
      unfold refsV at e
      obtain ⟨e1, e2, e3⟩ : p.1.2.1.1 = none ∧ p.1.2.1.2.1 = 0 ∧ p.1.2.1.2.2 = 0 := by simpa using e
      rw [e0, e1, e2, e3]
      exact ⟨rfl, fun _ => ⟨rfl, rfl⟩, Nat.le_refl _, fun ad e => by cases e⟩
    · unfold refsV at e
      obtain ⟨e1, e2, e3⟩ : p.1.2.1.1 = some ⟨g, 0, none⟩ ∧ p.1.2.1.2.1 = p.2.2.1.length ∧ p.1.2.1.2.2 = cap := by simpa using e
      rw [e1, e2, e3]
      rw [e1, e2, e3] at b
      exact ⟨rfl, fun e => by (cases e), hn, fun ad e j u hu => by cases e; exact World.ownsRow.cells b (g := g) rfl j u hu⟩
  · unfold treeV at c
    obtain ⟨e1, e2, e3⟩ : p.1.2.2.1 = none ∧ p.1.2.2.2.1 = 0 ∧ p.1.2.2.2.2 = 0 := by simpa using c
    rw [e1, e2, e3, d]
    exact ⟨rfl, fun _ => ⟨rfl, rfl⟩, Nat.le_refl _, fun _ e => by cases e⟩
theorem RowsR.its {D : Nat} {w : World} {ps : List Pr} {u v : Value} {is : List RI} {prof : List ByteArray} (h : RowsR D w ps u v is prof) : Its w u (itsOf ps) := (h.own.sls h.isI).its
theorem RowsR.txt {D : Nat} {w : World} {ps : List Pr} {u v : Value} {is : List RI} {prof : List ByteArray} (h : RowsR D w ps u v is prof) : Txt w v prof := h.prf.txt

/-- What a step of reading leaves as it was: all below D but the struct g; whatever is no cells. -/
structure FrG (g D : Nat) (w w' : World) : Prop where
  below : Below g w w'
  low : ∀ k, k < D → k ≠ g → w'.heap[k]? = w.heap[k]?
  oth : KeepsOthers w w'
theorem FrG.refl (g D : Nat) (w : World) : FrG g D w w := ⟨Below.refl _ _, fun _ _ _ => rfl, KeepsOthers.refl _⟩
theorem FrG.trans {g D : Nat} {a b c : World} (h : FrG g D a b) (k : FrG g D b c) : FrG g D a c := ⟨h.below.trans k.below, fun i hi hn => (k.low i hi hn).trans (h.low i hi hn), h.oth.trans k.oth⟩
theorem FrG.grown {g D : Nat} {a b c : World} {row : Option Nat} (h : FrG g D a b) (hg : b.grownBy c row) (hD : D ≤ b.heap.size) (hgD : g < D) (hr : ∀ k, row = some k → D ≤ k ∨ k = g) (hc : ∀ (j : Nat) (o : Obj), row = some j → b.heap[j]? = some o → o.isCells = true) : FrG g D a c :=
  h.trans ⟨(Below.refl g b).grown hg (by omega) (fun k hk => by rcases hr k hk with e | e <;> omega), fun k hk hn => hg.block k (by omega) (fun e => by rcases hr k e.symm with e2 | e2 <;> omega), KeepsOthers.of_grownBy hg hc⟩
theorem FrG.after {g D : Nat} {a b c : World} (h : FrG g D a b) (hb : Below b.heap.size b c) (hD : D ≤ b.heap.size) (hgD : g < D) : FrG g D a c :=
  h.grown (row := none) ⟨hb.os, hb.tape, hb.output, hb.size, fun k hk _ => hb.block k hk⟩ hD hgD (fun k e => by cases e) (fun j o e => by cases e)
theorem FrG.store {g D : Nat} {a b : World} (h : FrG g D a b) (j : Nat) (x : Value) (hb : ∃ cs ty, b.heap[g]? = some (.cells cs ty (0, 0))) (hD : D ≤ b.heap.size) (hgD : g < D) : FrG g D a (b.setCell ⟨g, j, none⟩ x) :=
  h.grown (grown_setCell b g j x) hD hgD (fun k e => .inr (Option.some.inj e).symm) (fun i o e ho => by
    obtain ⟨cs, ty, hc⟩ := hb
    cases e
    rw [hc] at ho; cases ho; rfl)

theorem pair_set {v : Value} {a : List (Option Nat)} {o o' : Option Nat} (h : (v.ownBlock :: (a ++ [o])).Pairwise Off) (k : ∀ x ∈ v.ownBlock :: a, Off x o') : (v.ownBlock :: (a ++ [o'])).Pairwise Off := by
  rw [← List.cons_append] at h ⊢
  rw [List.pairwise_append] at h ⊢
  exact ⟨h.1, List.pairwise_singleton _ _, fun x hx y hy => by rw [List.mem_singleton.1 hy]; exact k x hx⟩
/-- One more name in the profile. -/
theorem RowsR.profile {D : Nat} {w w1 w2 : World} {ps : List Pr} {u v v2 : Value} {is : List RI} {prof : List ByteArray} (h : RowsR D w ps u v is prof) (hb : Below w.heap.size w w1) {zs : List ByteArray} (ho : Own D w2 v2 zs) (hg : w1.grownBy w2 v.ownBlock) (hs : Stays w1 v v2) :
    RowsR D w2 ps u v2 is zs := by
  have h1 := h.below hb
  refine ⟨World.ownsRow.kept h1.own hg (rows_unlike h1.own h1.prf), ho, h1.names, fun p hp => ?_, ?_, Nat.le_trans h1.low hg.size⟩
  · obtain ⟨a, b, c⟩ := h1.each p hp
    refine ⟨a, World.ownsRow.kept b hg ?_, c⟩
    have := (List.pairwise_cons.1 h1.apart).1 _ (List.mem_map.2 ⟨p, hp, rfl⟩)
    rcases this with e | e
    · cases hq : (refsV p.1).ownBlock with
      | none => exact .inl rfl
      | some j => exact .inr (by rw [e]; simp)
    · exact .inr fun e2 => e e2.symm
  · have hp := List.pairwise_cons.1 h1.apart
    refine List.pairwise_cons.2 ⟨fun o ho' => ?_, hp.2⟩
    rcases hs with e | ⟨j, e, hj⟩
    · rw [e]; exact hp.1 o ho'
    · refine .inr fun e2 => ?_
      obtain ⟨p, hpm, rfl⟩ := List.mem_map.1 ho'
      have := ((h1.each p hpm).2.1.lt j (by rw [← e2]; exact e)).2
      omega
/-- One more item. -/
theorem RowsR.item {D : Nat} {w w1 w2 : World} {ps : List Pr} {u v u2 : Value} {is : List RI} {prof : List ByteArray} (h : RowsR D w ps u v is prof) (hb : Below w.heap.size w w1) (x : ByteArray) (ho : OwnS D w2 u2 (ps ++ [((x, (none, 0, 0), (none, 0, 0)), (x, [], []))])) (hg : w1.grownBy w2 u.ownBlock) :
    RowsR D w2 (ps ++ [((x, (none, 0, 0), (none, 0, 0)), (x, [], []))]) u2 v (is ++ [(x, [])]) prof := by
  have h1 := h.below hb
  refine ⟨ho, World.ownsRow.kept h1.prf hg (rows_unlike' h1.own h1.prf), by rw [List.map_append, h1.names]; rfl, fun p hp => ?_, ?_, Nat.le_trans h1.low hg.size⟩
  · rcases List.mem_append.1 hp with hp | hp
    · obtain ⟨a, b, c⟩ := h1.each p hp
      exact ⟨a, World.ownsRow.kept b hg (rows_unlike' h1.own b), c⟩
    · rw [List.mem_singleton.1 hp]
      exact ⟨rfl, Own.nil _ _, rfl, rfl⟩
  · unfold rowsOf
    rw [List.map_append]
    rw [← List.cons_append, List.pairwise_append]
    refine ⟨h1.apart, by simp, fun a _ b hb' => ?_⟩
    simp at hb'
    subst hb'
    cases a with
    | none => exact .inl rfl
    | some j => exact .inr (by simp [refsV, Value.ownBlock])
/-- One more reference of the last item. -/
theorem RowsR.ref {D : Nat} {w w1 w2 w3 : World} {ps : List Pr} {p : Pr} {g m c : Nat} {v : Value} {is : List RI} {prof : List ByteArray} (h : RowsR D w (ps ++ [p]) (.slice (some ⟨g, 0, none⟩) m c) v is prof) (hb : Below w.heap.size w w1) {a : Option Addr} {l cc : Nat} {zs : List ByteArray} (ho : Own D w2 (.slice a l cc) zs)
    (hg : w1.grownBy w2 (refsV p.1).ownBlock) (hs : Stays w1 (refsV p.1) (.slice a l cc)) (hw3 : w3 = w2.setCell ⟨g, ps.length * 3 + 1, none⟩ (.slice a l cc)) :
    RowsR D w3 (ps ++ [putR p a l cc zs]) (.slice (some ⟨g, 0, none⟩) m c) v (ps.map (fun p => (p.2.1, p.2.2.1)) ++ [(p.2.1, zs)]) prof := by
  have h1 := h.below hb
  have hpm : p ∈ ps ++ [p] := List.mem_append_right _ List.mem_cons_self
  have hlast : (ps ++ [p])[ps.length]? = some p := by simp
  obtain ⟨p1, p2, p3, p4⟩ := h1.each p hpm
  have hap := h1.apart
  unfold rowsOf at hap
  rw [List.map_append] at hap
  have hap' := hap
  rw [← List.cons_append, List.pairwise_append] at hap'
  have hoff : ∀ x ∈ v.ownBlock :: ps.map (fun p => (refsV p.1).ownBlock), Off x (refsV p.1).ownBlock := fun x hx => hap'.2.2 x hx _ (by simp)
  have sym : ∀ {x : Option Nat}, Off x (refsV p.1).ownBlock → x = none ∨ x ≠ (refsV p.1).ownBlock := fun h => h
  have hu2 : OwnS D w2 (.slice (some ⟨g, 0, none⟩) m c) (ps ++ [p]) := World.ownsRow.kept h1.own hg (rows_unlike h1.own p2)
  have hgs := grown_setCell w2 g (ps.length * 3 + 1) (.slice a l cc)
  have hv2 : Own D w2 v prof := World.ownsRow.kept h1.prf hg (hoff _ List.mem_cons_self)
  have hput := hu2.put hlast a l cc zs
  have hset : (ps ++ [p]).set ps.length (putR p a l cc zs) = ps ++ [putR p a l cc zs] := by simp
  rw [hset, ← hw3] at hput
  rw [← hw3] at hgs
  refine ⟨hput, World.ownsRow.kept hv2 hgs (rows_unlike' hu2 hv2), by rw [List.map_append]; rfl, fun q hq => ?_, ?_, Nat.le_trans h1.low (Nat.le_trans hg.size hgs.size)⟩
  · rcases List.mem_append.1 hq with hq | hq
    · obtain ⟨a1, b1, c1⟩ := h1.each q (List.mem_append_left _ hq)
      have b2 : Own D w2 (refsV q.1) q.2.2.1 := World.ownsRow.kept b1 hg (hoff _ (List.mem_cons_of_mem _ (List.mem_map.2 ⟨q, hq, rfl⟩)))
      exact ⟨a1, World.ownsRow.kept b2 hgs (rows_unlike' hu2 b2), c1⟩
    · rw [List.mem_singleton.1 hq]
      exact ⟨p1, World.ownsRow.kept ho hgs (rows_unlike' hu2 ho), p3, p4⟩
  · unfold rowsOf
    rw [List.map_append]
    refine pair_set (o := (refsV p.1).ownBlock) hap fun x hx => ?_
    have e0 : (refsV (putR p a l cc zs).1) = .slice a l cc := rfl
    show Off x (refsV (putR p a l cc zs).1).ownBlock
    rw [e0]
    rcases hs with e | ⟨j, e, hj⟩
    · rw [e]; exact hoff x hx
    · cases x with
      | none => exact .inl rfl
      | some i =>
        refine .inr fun e2 => ?_
        rw [e] at e2
        have hij : i = j := Option.some.inj e2
        rcases List.mem_cons.1 hx with hx | hx
        · have := (h1.prf.lt i hx.symm).2; omega
        · obtain ⟨q, hq, hx⟩ := List.mem_map.1 hx
          have := ((h1.each q (List.mem_append_left _ hq)).2.1.lt i hx).2; omega
end Go.Proofs.YtmlkknbndglgaaaGreatDoor
/- The walks of the reader of package reg: prefix, item, ref, profile. -/
namespace Go.Proofs.YtmlkknbndglgaaaGreatDoor
open Go.RowKit

/-- An append of texts, as a step of a region; where the answer lies. -/
theorem step_append_whereT {ops : Array Oper} {o : Oper} {a : Act} {w : World} {K : Act → World → Prop} {Q : Exit → Act → World → Prop} {E : Prop} (hgd : o.guard = none) (s x : Operand)
    (ho : o.op = .call { callee := .builtin .append, args := #[s, x], argTypes := #[23, 23] })
    (base : Nat) (v : Value) (xs : List ByteArray) (hs : a.eval s = v) (hown : Own base w v xs) (ad : Addr) (m c : Nat) (ys : List ByteArray) (hx : a.eval x = .slice (some ad) m c) (hu : Arg w (some ad) m c ys)
    (q : Nat) (hq : xs.length + ys.length = q) (zs : List ByteArray) (hz : xs ++ ys = zs) (hlen : q < 1000000) (hbase : base ≤ w.heap.size)
    (h : ∀ b c w', Own base w' (.slice b q c) zs → w.grownBy w' v.ownBlock → Stays w v (.slice b q c) → K (a.put o.dst (.slice b q c)) w') :
    if Region.wanted o (yielded ops a.tmps) = true then Oper.wp Tryz.prog o a w K Q else E := by
  subst hq hz
  have hw : Region.wanted o (yielded ops a.tmps) = true := by simp [Region.wanted, hgd]
  rw [if_pos hw]
  obtain ⟨i0, hi, hz0, hz1, hz2⟩ := info_parts A9
  obtain rfl := hu.len
  obtain ⟨v', w', hr, h2, h3, h4⟩ := run_append_where (P := Tryz.prog) w base 23 o.type 9 i0 (.string ByteArray.empty) 1 16 Tryz.underlying23 hi hz0 hz1 hz2 rfl (by decide) v xs.length (xs.map Value.string) hown ad ys.length c (ys.map Value.string) (by simp) (hu.cell ad rfl) (strs_one ys) (by unfold maxLen; omega) (by omega) hbase
  have h5 : Own base w' v' (xs ++ ys) := Own.joined h2
  obtain ⟨b, c', e⟩ := h5.form
  rw [List.length_append] at e
  subst e
  unfold Oper.wp
  simp [execOp, ho, resolve, invoke, builtin, hs, hx, hr, Result.andThen]
  exact h b c' w' h5 h3 h4

/-- The struct g holds the registration st, its rows from block number D on. -/
def RdP (ty : TypeId) (w : World) (g D : Nat) (st : Hog.RegP) : Prop := ∃ ps u v, BoxP w g ty st.pre u v st.pol ∧ RowsR D w ps u v st.items st.prof
theorem RdP.below {ty : TypeId} {w w' : World} {g D : Nat} {st : Hog.RegP} (h : RdP ty w g D st) (hb : Below w.heap.size w w') : RdP ty w' g D st := by
  obtain ⟨ps, u, v, h1, h2⟩ := h
  exact ⟨ps, u, v, h1.below hb, h2.below hb⟩
theorem rows_len {ps : List Pr} {is : List RI} (h : ps.map (fun p => (p.2.1, p.2.2.1)) = is) : ps.length = is.length := by rw [← h, List.length_map]

set_option maxRecDepth 100000 in
theorem mprefix_ok (w : World) (g D : Nat) (st : Hog.RegP) (x : ByteArray) (hgD : g < D) (h : RdP 58 w g D st) :
    Calls Tryz.prog 34 #[.pointer (some ⟨g, 0, none⟩), .string x] w fun e w' => e = .returned (.tuple #[]) ∧ RdP 58 w' g D { st with pre := x } ∧ FrG g D w w' := by
  obtain ⟨ps, u, v, hb, hr⟩ := h
  obtain ⟨⟨c0, _⟩, ⟨f0, _⟩, hlt⟩ := hb.facts
  have HB := hide hb
  have HR := hide hr
  clear hb hr
  go_enter Tryz.func34, Tryz.ntmps34
  go_wp2
  go_end0
  have hg := grown_setCell w g 0 (.string x)
  exact ⟨rfl, ⟨ps, u, v, HB.out.set0 x, HR.out.kept hg (fun k e => by cases e; exact hgD)⟩, (FrG.refl g D w).store 0 _ ⟨_, _, HB.out⟩ HR.out.low hgD⟩

/-- An item without references. -/
def bareP (x : ByteArray) : Pr := ((x, (none, 0, 0), (none, 0, 0)), (x, [], []))
theorem bare_is (w : World) (x : ByteArray) : IsI w (bareP x) := ⟨rfl, ⟨rfl, fun _ => ⟨rfl, rfl⟩, Nat.le_refl _, fun _ e => by cases e⟩, ⟨rfl, fun _ => ⟨rfl, rfl⟩, Nat.le_refl _, fun _ e => by cases e⟩⟩

set_option maxRecDepth 100000 in
set_option maxHeartbeats 1000000 in
theorem mitem_ok (w : World) (g D : Nat) (st : Hog.RegP) (x : ByteArray) (hgD : g < D) (h : RdP 58 w g D st) (hl : st.items.length < 900000) :
    Calls Tryz.prog 36 #[.pointer (some ⟨g, 0, none⟩), .string x] w fun e w' => e = .returned (.tuple #[]) ∧ RdP 58 w' g D { st with items := st.items ++ [(x, [])] } ∧ FrG g D w w' := by
  obtain ⟨ps, u, v, hb, hr⟩ := h
  have hpl := rows_len hr.names
  obtain ⟨n, hn⟩ : ∃ n, ps.length = n := ⟨_, rfl⟩
  have hD := hr.low
  obtain ⟨⟨_, c1, _⟩, ⟨_, f1, _⟩, hlt⟩ := hb.facts
  have HB := hide hb
  have HR := hide hr
  have HN := hide hn
  obtain ⟨W, hW⟩ : ∃ W, W = w.alloc (.cells #[.string x, .slice none 0 0, .slice none 0 0] 47) := ⟨_, rfl⟩
  have HBX : Hid (Below w.heap.size w W) := by rw [hW]; exact below_box _ _
  have HA : Hid (ArgS W (some ⟨w.heap.size, 0, none⟩) 1 1 [bareP x]) := by rw [hW]; exact argS_one (bare_is w x)
  have HO : Hid (OwnS D W u ps) := hr.own.below HBX.out
  have hsz : W.heap.size = w.heap.size + 1 := by rw [hW]; simp
  have HBW := hide (hb.below HBX.out)
  have HW : Hid (w.alloc (.cells #[.string x, .slice none 0 0, .slice none 0 0] 47) = W) := hW.symm
  have HS := hide hsz
  have hq : n < 900000 := by omega
  clear hb hr hn hpl hW hsz hl
  go_enter Tryz.func36, Tryz.ntmps36
  go_wp2_with (at_builtin; rw [HW.out]; refine wpList_append_items rfl _ _ rfl D _ ps rfl HO.out _ _ _ [bareP x] rfl HA.out (n + 1) ?d0 (ps ++ [bareP x]) rfl ?d1 ?d2 ?_)
  case d0 => rw [HN.out]; rfl
  case d1 => omega
  case d2 => have := HS.out; omega
  intro b2 c2 w2 ho2 hg2
  have HO2 := hide ho2
  have HG2 := hide hg2
  have HB2 : Hid (BoxP w2 g 58 st.pre u v st.pol) := HBW.out.kept hg2 (fun e => by have := (HO.out.lt g e.symm).1; omega)
  obtain ⟨⟨_, d1, _⟩, ⟨_, k1, _⟩, _⟩ := HB2.out.facts
  clear ho2 hg2 c1 f1
  go_wp2
  go_end0
  have hgs := grown_setCell w2 g 1 (.slice b2 (n + 1) c2)
  have hrw := HR.out.item HBX.out x HO2.out HG2.out
  refine ⟨rfl, ⟨_, _, v, HB2.out.set1 _, hrw.kept hgs (fun k e => by cases e; exact hgD)⟩, ?_⟩
  refine FrG.store ?_ 1 _ ⟨_, _, HB2.out⟩ hrw.low hgD
  exact ((FrG.refl g D w).after HBX.out HR.out.low hgD).grown HG2.out (by have := HS.out; omega) hgD (fun k e => .inl (HO.out.lt k e).1) (ownS_cells HO.out)

set_option maxRecDepth 100000 in
set_option maxHeartbeats 1000000 in
theorem mprofile_ok (w : World) (g D : Nat) (st : Hog.RegP) (x : ByteArray) (hgD : g < D) (h : RdP 58 w g D st) (hl : st.prof.length < 900000) :
    Calls Tryz.prog 38 #[.pointer (some ⟨g, 0, none⟩), .string x] w fun e w' => e = .returned (.tuple #[]) ∧ RdP 58 w' g D { st with prof := st.prof ++ [x] } ∧ FrG g D w w' := by
  obtain ⟨ps, u, v, hb, hr⟩ := h
  obtain ⟨n, hn⟩ : ∃ n, st.prof.length = n := ⟨_, rfl⟩
  have hD := hr.low
  obtain ⟨⟨_, _, c2, _⟩, ⟨_, _, f2, _⟩, hlt⟩ := hb.facts
  have HB := hide hb
  have HR := hide hr
  have HN := hide hn
  obtain ⟨W, hW⟩ : ∃ W, W = w.alloc (.cells #[.string x] 9) := ⟨_, rfl⟩
  have HBX : Hid (Below w.heap.size w W) := by rw [hW]; exact below_box _ _
  have HA : Hid (Arg W (some ⟨w.heap.size, 0, none⟩) 1 1 [x]) := by rw [hW]; exact arg_one w x
  have HO : Hid (Own D W v st.prof) := hr.prf.below HBX.out
  have hsz : W.heap.size = w.heap.size + 1 := by rw [hW]; simp
  have HBW := hide (hb.below HBX.out)
  have HW : Hid (w.alloc (.cells #[.string x] 9) = W) := hW.symm
  have HS := hide hsz
  have hq : n < 900000 := by omega
  clear hb hr hn hW hsz hl
  go_enter Tryz.func38, Tryz.ntmps38
  go_wp2_with (at_builtin; rw [HW.out]; refine wpList_append_whereT rfl _ _ rfl D _ st.prof rfl HO.out _ _ _ [x] rfl HA.out ?d1 ?d2 ?_)
  case d1 => rw [HN.out]; simp; omega
  case d2 => have := HS.out; omega
  intro b2 c2' w2 ho2 hg2 hs2
  have HO2 := hide ho2
  have HG2 := hide hg2
  have HS2 := hide hs2
  have HB2 : Hid (BoxP w2 g 58 st.pre u v st.pol) := HBW.out.kept hg2 (fun e => by have := (HO.out.lt g e.symm).1; omega)
  obtain ⟨⟨_, _, d1, _⟩, ⟨_, _, k1, _⟩, _⟩ := HB2.out.facts
  clear ho2 hg2 hs2 c2 f2
  go_wp2
  go_end0
  have hgs := grown_setCell w2 g 2 (.slice b2 (st.prof.length + [x].length) c2')
  have hrw := HR.out.profile HBX.out HO2.out HG2.out HS2.out
  refine ⟨rfl, ⟨_, _, _, HB2.out.set2 _, hrw.kept hgs (fun k e => by cases e; exact hgD)⟩, ?_⟩
  refine FrG.store ?_ 2 _ ⟨_, _, HB2.out⟩ hrw.low hgD
  exact ((FrG.refl g D w).after HBX.out HR.out.low hgD).grown HG2.out (by have := HS.out; omega) hgD (fun k e => .inl (HO.out.lt k e).1) (own_cells HO.out)
end Go.Proofs.YtmlkknbndglgaaaGreatDoor
/- The walk of the reader of package reg: ref. -/
namespace Go.Proofs.YtmlkknbndglgaaaGreatDoor
open Go.RowKit

set_option maxRecDepth 100000 in
set_option maxHeartbeats 4000000 in
theorem mref_none (w : World) (g D : Nat) (st : Hog.RegP) (x : ByteArray) (h : RdP 58 w g D st) (hl : st.items = []) :
    Calls Tryz.prog 37 #[.pointer (some ⟨g, 0, none⟩), .string x] w fun e w' => e = .returned (.tuple #[]) ∧ w' = w := by
  obtain ⟨ps, u, v, hb, hr⟩ := h
  have hpl := rows_len hr.names
  rw [hl] at hpl
  obtain rfl : ps = [] := List.eq_nil_of_length_eq_zero hpl
  obtain ⟨a, c, rfl⟩ := hr.own.form
  obtain ⟨⟨_, c1, _⟩, _, hlt⟩ := hb.facts
  rw [List.length_nil] at c1
  clear hb hr hpl hl
  go_enter Tryz.func37, Tryz.ntmps37
  go_wp2
  go_end0
  exact ⟨rfl, rfl⟩

set_option maxRecDepth 100000 in
set_option maxHeartbeats 4000000 in
theorem mref_some (w : World) (g D : Nat) (st : Hog.RegP) (x : ByteArray) (is : List RI) (i : RI) (hgD : g < D) (h : RdP 58 w g D st) (hi : st.items = is ++ [i]) (hl : st.items.length < 900000) (hil : i.2.length < 900000) :
    Calls Tryz.prog 37 #[.pointer (some ⟨g, 0, none⟩), .string x] w fun e w' => e = .returned (.tuple #[]) ∧ RdP 58 w' g D { st with items := is ++ [(i.1, i.2 ++ [x])] } ∧ FrG g D w w' := by
  obtain ⟨qs, u, v, hb, hr⟩ := h
  have hpl := rows_len hr.names
  rw [hi, List.length_append, List.length_singleton] at hpl
  obtain ⟨ps, p, rfl⟩ : ∃ ps p, qs = ps ++ [p] := by
    rcases List.eq_nil_or_concat qs with e | ⟨ps, p, e⟩
    · rw [e] at hpl; simp at hpl
    · exact ⟨ps, p, by rw [e, List.concat_eq_append]⟩
  have hnm := hr.names
  rw [hi, List.map_append] at hnm
  have hnm2 := List.append_inj' hnm rfl
  have hpi : p.2.1 = i.1 ∧ p.2.2.1 = i.2 := by
    have := hnm2.2
    simp at this
    exact ⟨by rw [← this], by rw [← this]⟩
  obtain ⟨n, hn⟩ : ∃ n, ps.length = n := ⟨_, rfl⟩
  have hn1 : (ps ++ [p]).length = n + 1 := by rw [List.length_append, hn]; rfl
  obtain ⟨a, c, hu⟩ := hr.own.form
  rw [hn1] at hu
  subst hu
  obtain ⟨gi, rfl, hDi, hgi, hcap⟩ := hr.own.block (by omega)
  have hD := hr.low
  obtain ⟨p1, p2, p3, p4⟩ := hr.each p (List.mem_append_right _ List.mem_cons_self)
  obtain ⟨⟨_, c1, _⟩, ⟨_, f1, _⟩, hlt⟩ := hb.facts
  have hlast : (ps ++ [p])[n]? = some p := by rw [← hn]; simp
  have r1 : w.cell? ⟨gi, n * 3 + 1, none⟩ = some (refsV p.1) := hr.own.cellAt hlast
  have r2 := hr.own.free (n * 3 + 1)
  obtain ⟨ra, rn, rc, hrv⟩ : ∃ ra rn rc, refsV p.1 = .slice ra rn rc := ⟨_, _, _, rfl⟩
  rw [hrv] at r1
  have HRV := hide hrv
  have HPI := hide hpi
  have HNM := hide hnm2.1
  have HB := hide hb
  have HR := hide hr
  have HN := hide hn
  have hni : (n : Int) < (n : Int) + 1 := by omega
  have hn9 : n < 900000 := by rw [hi, List.length_append, List.length_singleton] at hl; omega
  have HBD : Hid (Below w.heap.size w (w.drew.alloc (.cells #[.string x] 9))) := hide ((Below.refl w.heap.size w).drew.alloc (Nat.le_refl _) _)
  have HO : Hid (Own D (w.drew.alloc (.cells #[.string x] 9)) (.slice ra rn rc) i.2) := by rw [← hpi.2, ← hrv]; exact hide (p2.below HBD.out)
  have HA := hide (arg_one w.drew x)
  have HGS : Hid (D ≤ w.heap.size + 1) := hide (by omega)
  have HIL : Hid (i.2.length < 900000) := hil
  have HVB : Hid (∀ w2, (w.drew.alloc (.cells #[.string x] 9)).grownBy w2 (Value.slice ra rn rc).ownBlock → BoxP w2 g 58 st.pre (.slice (some ⟨gi, 0, none⟩) (n + 1) c) v st.pol ∧ w2.cell? ⟨gi, n * 3 + 1, none⟩ = some (.slice ra rn rc) ∧ w2.frozen? ⟨gi, n * 3 + 1, none⟩ = false) := fun w2 hg2 => by
    have h1 := (hb.below HBD.out).kept hg2 (fun e => by have := (HO.out.lt g e.symm).1; omega)
    have h2 : OwnS D w2 (.slice (some ⟨gi, 0, none⟩) (n + 1) c) (ps ++ [p]) := World.ownsRow.kept (hr.own.below HBD.out) hg2 (by
      have := rows_unlike (hr.own.below HBD.out) HO.out
      exact this)
    exact ⟨h1, (h2.cellAt hlast).trans (by rw [hrv]), h2.free _⟩
  clear hb hr hn hn1 hpl hnm hnm2 hpi hrv hlast p1 p2 p3 p4 hl hil hi
  go_enter Tryz.func37, Tryz.ntmps37
  go_wp2
  go_region_law (refine step_append_whereT rfl (.tmp 28) (.tmp 30) rfl D (.slice ra rn rc) i.2 rfl HO.out _ _ _ [x] rfl HA.out (i.2.length + 1) rfl (i.2 ++ [x]) rfl (by have := HIL.out; omega) (by have := HGS.out; simp; omega) ?_; intro b2 c2 w2 ho hg2 hs2; obtain ⟨hbx, q1, q2⟩ := HVB.out w2 hg2; obtain ⟨⟨_, z1, _⟩, ⟨_, y1, _⟩, _⟩ := hbx.facts)
  all_goals
    have HO2 := hide ho
    have HG2 := hide hg2
    have HS2 := hide hs2
    have HBX2 := hide hbx
    clear ho hg2 hs2 hbx q1 q2 z1 y1 c1 f1 r1 r2
    go_wp2
    go_end0
    have hrv := HRV.out
    have hg3 := HG2.out
    have hs3 := HS2.out
    rw [← hrv] at hg3 hs3
    have hrw := HR.out.ref HBD.out HO2.out hg3 hs3 (by rw [HN.out])
    rw [HNM.out, HPI.out.1] at hrw
    have hw3 := grown_setCell w2 gi (n * 3 + 1) (.slice b2 (i.2.length + 1) c2)
    refine ⟨rfl, ⟨_, _, v, HBX2.out.kept hw3 (fun e => by cases e; omega), hrw⟩, ?_⟩
    have f1 : FrG g D w w2 := ((FrG.refl g D w).after HBD.out hD hgD).grown HG2.out (by simp; exact HGS.out) hgD (fun k e => .inl (HO.out.lt k e).1) (own_cells HO.out)
    have hu2 : OwnS D w2 (.slice (some ⟨gi, 0, none⟩) (n + 1) c) (ps ++ [p]) := World.ownsRow.kept (HR.out.own.below HBD.out) HG2.out (rows_unlike (HR.out.own.below HBD.out) HO.out)
    exact f1.grown hw3 (Nat.le_trans hD f1.below.size) hgD (fun k e => by cases e; exact .inl hDi) (fun j o e ho => by cases e; exact ownS_cells hu2 _ o rfl ho)
/-- Either way. -/
theorem mref_ok (f : Int → ByteArray → Int) (w : World) (g D : Nat) (st : Hog.RegP) (x : ByteArray) (hgD : g < D) (h : RdP 58 w g D st) (hl : st.items.length < 900000) (hil : ∀ i ∈ st.items, i.2.length < 900000) :
    Calls Tryz.prog 37 #[.pointer (some ⟨g, 0, none⟩), .string x] w fun e w' => e = .returned (.tuple #[]) ∧ RdP 58 w' g D (Hog.putM f 3 st x) ∧ FrG g D w w' := by
  rcases List.eq_nil_or_concat st.items with e | ⟨is, i, e⟩
  · refine (mref_none w g D st x h e).mono ?_
    rintro e1 w' ⟨rfl, rfl⟩
    rw [Hog.put3_none f st x e]
    exact ⟨rfl, h, FrG.refl g D _⟩
  · rw [List.concat_eq_append] at e
    rw [Hog.put3_last f st x is i e]
    exact mref_some w g D st x is i hgD h e hl (hil i (by rw [e]; exact List.mem_append_right _ List.mem_cons_self))
end Go.Proofs.YtmlkknbndglgaaaGreatDoor
/- The walk of the reader of package reg: policy. What the library says of a text that is no number lies in two variables. -/
namespace Go.Proofs.YtmlkknbndglgaaaGreatDoor
open Go.RowKit

/-- The library's two errors are there. -/
def Errs (w : World) : Prop := (∃ tp p, w.var? Tryz.prog "strconv.ErrSyntax" = some #[.iface tp p]) ∧ ∃ tp p, w.var? Tryz.prog "strconv.ErrRange" = some #[.iface tp p]
theorem var_below {w w' : World} {n : String} {cs : Array Value} (h : w.var? Tryz.prog n = some cs) (hb : Below w.heap.size w w') : w'.var? Tryz.prog n = some cs := by
  unfold World.var? at h ⊢
  cases hg : Tryz.prog.globalNamed n with
  | none => rw [hg] at h; simp at h
  | some g =>
    rw [hg] at h
    simp only [Option.bind_some] at h ⊢
    have hlt : g < w.heap.size := by
      rcases Nat.lt_or_ge g w.heap.size with h' | h'
      · exact h'
      · rw [Array.getElem?_eq_none h'] at h; simp at h
    rw [hb.block g hlt]
    exact h
theorem Errs.below {w w' : World} (h : Errs w) (hb : Below w.heap.size w w') : Errs w' := by
  obtain ⟨⟨a, b, h1⟩, ⟨c, d, h2⟩⟩ := h
  exact ⟨⟨a, b, var_below h1 hb⟩, ⟨c, d, var_below h2 hb⟩⟩
/-- What a text comes to as a number, right or wrong. -/
def atoiV (x : ByteArray) : Int := match Lib.atoiAll x.data.toList with
  | .ok v => v
  | .range => Lib.atoiSat x.data.toList
  | _ => 0
def polF : Int → ByteArray → Int := fun _ x => atoiV x
theorem polF_zero : polF 0 (Hog.mk [48]) = 0 := by decide +kernel
theorem polF_one : polF 0 (Hog.mk [49]) = 1 := by decide +kernel
theorem atoi_any (x : ByteArray) (w : World) (hx : x.size < 900000) (hE : Errs w) :
    Calls Tryz.prog 56 #[.string x] w fun e w' => ∃ v, e = .returned (.tuple #[.int .i64 (atoiV x), v]) ∧ Below w.heap.size w w' := by
  obtain ⟨⟨a, b, h1⟩, ⟨c, d, h2⟩⟩ := hE
  unfold atoiV
  cases h : Lib.atoiAll x.data.toList
  · refine (Tryz.strconv_Atoi_ok x (by omega) _ h w).mono ?_
    rintro e w' ⟨rfl, hw⟩
    refine ⟨_, rfl, ?_⟩
    rcases hw with rfl | ⟨t, rfl⟩
    · exact Below.refl _ _
    · exact Lib.bytesWorld_below ..
  · refine (Any.strconv_Atoi_syntax_var Tryz.laysC172 x (by omega) h a b w h1).mono ?_
    rintro e w' ⟨N, rfl, _, _, hb⟩
    exact ⟨_, rfl, hb⟩
  · refine (Tryz.strconv_Atoi_range_var x (by omega) h c d w h2).mono ?_
    rintro e w' ⟨N, rfl, _, _, hb⟩
    exact ⟨_, rfl, hb⟩

set_option maxRecDepth 100000 in
theorem mpolicy_ok (w : World) (g D : Nat) (st : Hog.RegP) (x : ByteArray) (hgD : g < D) (h : RdP 58 w g D st) (hx : x.size < 900000) (hE : Errs w) :
    Calls Tryz.prog 35 #[.pointer (some ⟨g, 0, none⟩), .string x] w fun e w' => e = .returned (.tuple #[]) ∧ RdP 58 w' g D { st with pol := polF st.pol x } ∧ FrG g D w w' := by
  obtain ⟨ps, u, v, hb, hr⟩ := h
  have HB := hide hb
  have HR := hide hr
  have HE := hide hE
  clear hb hr hE
  go_enter Tryz.func35, Tryz.ntmps35
  go_wp2_with fail
  refine (atoi_any x w hx HE.out).mono ?_
  rintro e w1 ⟨y, rfl, hb1⟩
  have HB1 := hide (HB.out.below hb1)
  have HR1 := hide (HR.out.below hb1)
  have HF1 := hide ((FrG.refl g D w).after hb1 HR.out.low hgD)
  obtain ⟨⟨_, _, _, c3⟩, ⟨_, _, _, f3⟩, hlt⟩ := HB1.out.facts
  obtain ⟨z, hz⟩ : ∃ z, atoiV x = z := ⟨_, rfl⟩
  rw [hz]
  have HZ := hide hz
  clear hb1 hz
  go_wp2
  go_end0
  have hg := grown_setCell w1 g 3 (.int .i64 z)
  refine ⟨rfl, ⟨ps, u, v, ?_, HR1.out.kept hg (fun k e => by cases e; exact hgD)⟩, HF1.out.store 3 _ ⟨_, _, HB1.out⟩ HR1.out.low hgD⟩
  show BoxP _ _ _ _ _ _ (atoiV x)
  rw [HZ.out]
  exact HB1.out.set3 z
end Go.Proofs.YtmlkknbndglgaaaGreatDoor
