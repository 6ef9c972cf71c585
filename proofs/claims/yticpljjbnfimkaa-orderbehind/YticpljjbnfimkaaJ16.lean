/- Texts that stand together, joined: QA, QB, QC. -/
import Derived.Test.YticpljjbnfimkaaKZ
import Derived.Test.YticpljjbnfimkaaJ15
import Derived.Handy
import Derived.BigRegion
import Derived.RegionTactic
import Derived.Deep.RegionLaw
/- The heap of package order in memory; the walks of its own Len, Less, Swap, Push, Pop. -/
namespace Go.Proofs.Yticpljjbnfimkaa
open Go.RowKit

/-- The heap's box: the names, and the slice of places. -/
def BoxQ (w : World) (g : Nat) (u v : Value) : Prop := w.heap[g]? = some (.cells #[u, v] 59 (0, 0))
theorem BoxQ.facts {w : World} {g : Nat} {u v : Value} (h : BoxQ w g u v) : w.cell? ⟨g, 0, none⟩ = some u ∧ w.cell? ⟨g, 1, none⟩ = some v ∧ w.frozen? ⟨g, 0, none⟩ = false ∧ w.frozen? ⟨g, 1, none⟩ = false ∧ g < w.heap.size :=
  ⟨by rw [cell_of_row w g 0 _ _ (0, 0) h]; rfl, by rw [cell_of_row w g 1 _ _ (0, 0) h]; rfl, frozen_of_row w g 0 _ _ h, frozen_of_row w g 1 _ _ h, (Array.getElem?_eq_some_iff.1 h).1⟩
theorem BoxQ.made (w : World) (u v : Value) : BoxQ (w.alloc (.cells #[u, v] 59)) w.heap.size u v := heap_alloc_new w _
theorem BoxQ.stored {w : World} {g : Nat} {u v : Value} (h : BoxQ w g u v) (v' : Value) : BoxQ (w.setCell ⟨g, 1, none⟩ v') g u v' := by
  have h1 := heap_setCell_same w g 1 _ _ v' h
  unfold BoxQ
  rw [h1]; rfl
theorem BoxQ.same {w w' : World} {g : Nat} {u v : Value} (h : BoxQ w g u v) (e : w'.heap[g]? = w.heap[g]?) : BoxQ w' g u v := e.trans h

/-- Of what was there only the block g, and the row r, have turned. -/
structure Ke (g : Nat) (r : Option Nat) (w w' : World) : Prop where
  os : w'.os = w.os
  tape : w'.tape = w.tape
  output : w'.output = w.output
  size : w.heap.size ≤ w'.heap.size
  block : ∀ k, k < w.heap.size → k ≠ g → some k ≠ r → w'.heap[k]? = w.heap[k]?
theorem Ke.refl (g : Nat) (r : Option Nat) (w : World) : Ke g r w w := ⟨rfl, rfl, rfl, Nat.le_refl _, fun _ _ _ _ => rfl⟩
theorem Ke.trans {g : Nat} {r : Option Nat} {a b c : World} (h : Ke g r a b) {r' : Option Nat} (hr : r' = r ∨ ∃ k, r' = some k ∧ a.heap.size ≤ k) (k : Ke g r' b c) : Ke g r a c :=
  ⟨k.os.trans h.os, k.tape.trans h.tape, k.output.trans h.output, Nat.le_trans h.size k.size, fun i hi hg hn => (k.block i (Nat.lt_of_lt_of_le hi h.size) hg (fun e => by
    rcases hr with e2 | ⟨j, e2, hj⟩
    · rw [e2] at e; exact hn e
    · rw [e2] at e; cases e; omega)).trans (h.block i hi hg hn)⟩
theorem Ke.grown {g : Nat} {r : Option Nat} {w w' : World} (h : w.grownBy w' r) : Ke g r w w' := ⟨h.os, h.tape, h.output, h.size, fun k hk _ hn => h.block k hk hn⟩
theorem Ke.grownG {g : Nat} {r : Option Nat} {w w' : World} (h : w.grownBy w' (some g)) : Ke g r w w' := ⟨h.os, h.tape, h.output, h.size, fun k hk hg _ => h.block k hk (fun e => hg (Option.some.inj e))⟩
theorem Ke.below {g : Nat} {r : Option Nat} {w w' : World} {B : Nat} (h : Ke g r w w') (hB : B ≤ g) (hr : ∀ k, r = some k → B ≤ k) (hw : B ≤ w.heap.size) : Below B w w' :=
  ⟨h.os, h.tape, h.output, h.size, fun k hk => h.block k (by omega) (by omega) (fun e => by have := hr k e.symm; omega)⟩
theorem Ke.ofBelow {g : Nat} {r : Option Nat} {w w' : World} (h : Below w.heap.size w w') : Ke g r w w' := ⟨h.os, h.tape, h.output, h.size, fun k hk _ _ => h.block k hk⟩
theorem OwnZ.ke {base g : Nat} {r : Option Nat} {w w' : World} {v : Value} {xs : List Int} (h : OwnZ base w v xs) (k : Ke g r w w') (h1 : v.ownBlock ≠ some g) (h2 : v.ownBlock = none ∨ v.ownBlock ≠ r) : OwnZ base w' v xs := by
  refine ⟨h.1, ?_⟩
  rcases h.2 with h3 | ⟨b, cap, cur, rfl, hbs, hg, r'⟩
  · exact .inl h3
  · refine .inr ⟨b, cap, cur, rfl, hbs, ?_, r'⟩
    rw [k.block b (Array.getElem?_eq_some_iff.1 hg).1 (fun e => h1 (by rw [← e]; rfl)) (fun e => by
      rcases h2 with h2 | h2
      · cases h2
      · exact h2 e)]
    exact hg

/-- The heap in block g: all names; those places that could come next, in a slice of their own. -/
structure Rdy (H : Nat) (w : World) (g : Nat) (ns : List ByteArray) (L : List Nat) (a : Option Addr) (c : Nat) : Prop where
  ex : ∃ na nc, BoxQ w g (.slice na ns.length nc) (.slice a L.length c) ∧ ∀ (j : Nat) x, ns[j]? = some x → ∃ nb no, na = some ⟨nb, no, none⟩ ∧ nb < H ∧ w.cell? ⟨nb, no + j, none⟩ = some (.string x)
  own : OwnZ (g + 1) w (.slice a L.length c) (numK L)
  low : ∀ x ∈ L, x < ns.length
  hH : H ≤ g
variable {H : Nat}
theorem Rdy.lt {w : World} {g : Nat} {ns : List ByteArray} {L : List Nat} {a : Option Addr} {c : Nat} (h : Rdy H w g ns L a c) : g < w.heap.size := by
  obtain ⟨_, _, hb, _⟩ := h.ex
  exact hb.facts.2.2.2.2
/-- What the heap's calls see of it at the place i. -/
theorem Rdy.place {w : World} {g : Nat} {ns : List ByteArray} {L : List Nat} {a : Option Addr} {c i z : Nat} (h : Rdy H w g ns L a c) (hz : L[i]? = some z) : ∃ b, a = some ⟨b, 0, none⟩ ∧ g < b ∧ w.cell? ⟨b, i, none⟩ = some (.int .i64 z) ∧ w.frozen? ⟨b, i, none⟩ = false := by
  obtain ⟨b, rfl, hc⟩ := h.own.at' hz
  have h1 := (h.own.lt b rfl).1
  have h2 := h.own
  have e : L.length = (numK L).length := (nums_len L).symm
  unfold OwnZ at h2
  rw [e] at h2
  exact ⟨b, rfl, by omega, hc, World.ownsRow.frozenAt h2 i⟩
/-- The name that stands at the place z. -/
def nmN (ns : List ByteArray) (z : Nat) : ByteArray := match ns[z]? with
  | some x => x
  | none => ByteArray.empty
theorem nmN_at {ns : List ByteArray} {z : Nat} {x : ByteArray} (h : ns[z]? = some x) : nmN ns z = x := by unfold nmN; rw [h]
/-- Which of two places has the lesser name? -/
def ltQ (ns : List ByteArray) (a b : Nat) : Prop := Op.bytesLess (nmN ns a).toList (nmN ns b).toList = true

set_option maxRecDepth 100000 in
set_option maxHeartbeats 1000000 in
theorem lenQ_ok (w : World) (g : Nat) (ns : List ByteArray) (L : List Nat) (a : Option Addr) (c n : Nat) (h : Rdy H w g ns L a c) (hn : L.length = n) :
    Calls Try.prog 29 #[.pointer (some ⟨g, 0, none⟩)] w fun e w' => e = .returned (.int .i64 n) ∧ w' = w := by
  subst hn
  obtain ⟨na, nc, hb, _⟩ := h.ex
  obtain ⟨_, h1, _, _, _⟩ := hb.facts
  clear h hb
  go_enter Try.func29, Try.ntmps29
  go_wp2
  go_ret
  exact ⟨rfl, rfl⟩
set_option maxRecDepth 100000 in
set_option maxHeartbeats 2000000 in
theorem lessQ_ok (w : World) (g : Nat) (ns : List ByteArray) (L : List Nat) (a : Option Addr) (c i j x y : Nat) (r : Bool) (h : Rdy H w g ns L a c) (hx : L[i]? = some x) (hy : L[j]? = some y) (hr : Op.bytesLess (nmN ns x).toList (nmN ns y).toList = r) :
    Calls Try.prog 50 #[.pointer (some ⟨g, 0, none⟩), .int .i64 i, .int .i64 j] w fun e w' => e = .returned (.bool r) ∧ Below w.heap.size w w' := by
  obtain ⟨na, nc, hb, hnm⟩ := h.ex
  obtain ⟨h0, h1, _, _, hg⟩ := hb.facts
  obtain ⟨b, rfl, hgb, hcx, _⟩ := h.place hx
  obtain ⟨b', e, _, hcy, _⟩ := h.place hy
  cases e
  have hxn := h.low x (List.mem_of_getElem? hx)
  have hyn := h.low y (List.mem_of_getElem? hy)
  have hxs : ns[x]? = some ns[x] := List.getElem?_eq_getElem hxn
  have hys : ns[y]? = some ns[y] := List.getElem?_eq_getElem hyn
  obtain ⟨nb, no, rfl, _, hcn⟩ := hnm x _ hxs
  obtain ⟨nb', no', e, _, hcm⟩ := hnm y _ hys
  cases e
  rw [nmN_at hxs, nmN_at hys] at hr
  generalize ns[x] = sx at *
  generalize ns[y] = sy at *
  have hil : i < L.length := (List.getElem?_eq_some_iff.1 hx).1
  have hjl : j < L.length := (List.getElem?_eq_some_iff.1 hy).1
  have hii : (i : Int) < (L.length : Int) := by omega
  have hji : (j : Int) < (L.length : Int) := by omega
  have hxi : (x : Int) < (ns.length : Int) := by omega
  have hyi : (y : Int) < (ns.length : Int) := by omega
  clear h hb hnm hxs hys hx hy hil hjl hxn hyn
  subst hr
  go_enter Try.func50, Try.ntmps50
  go_wp2
  go_quiet (fail)
  go_wp2
  go_ret
  exact ⟨rfl, below_drewN (Below.refl _ _) _⟩
end Go.Proofs.Yticpljjbnfimkaa
/- The walks of the heap's own Swap, Push and Pop. -/
namespace Go.Proofs.Yticpljjbnfimkaa
open Go.RowKit
variable {H : Nat}

theorem nums_set (L : List Nat) (i x : Nat) : numK (L.set i x) = (numK L).set i (x : Int) := by unfold numK; rw [List.map_set]
theorem nums_swp (L : List Nat) (i j x y : Nat) : numK (Hog.swp L i j x y) = ((numK L).set i (y : Int)).set j (x : Int) := by unfold Hog.swp; rw [nums_set, nums_set]
theorem OwnZ.stored2 {base : Nat} {w : World} {g cap n : Nat} {xs : List Int} (h : OwnZ base w (.slice (some ⟨g, 0, none⟩) n cap) xs) (hn : n = xs.length) (j : Nat) (x : Int) :
    OwnZ base (w.setCell ⟨g, j, none⟩ (.int .i64 x)) (.slice (some ⟨g, 0, none⟩) n cap) (xs.set j x) := by
  subst hn
  have := h.stored j x
  rw [List.length_set] at this
  exact this
/-- The heap behind an exchange. -/
theorem Rdy.swapped {w : World} {g b : Nat} {ns : List ByteArray} {L : List Nat} {c i j x y : Nat} (h : Rdy H w g ns L (some ⟨b, 0, none⟩) c) (hgb : g < b) (hx : L[i]? = some x) (hy : L[j]? = some y) :
    Rdy H ((w.setCell ⟨b, i, none⟩ (.int .i64 y)).setCell ⟨b, j, none⟩ (.int .i64 x)) g ns (Hog.swp L i j x y) (some ⟨b, 0, none⟩) c := by
  obtain ⟨na, nc, hb, hn⟩ := h.ex
  have hl : (Hog.swp L i j x y).length = L.length := Hog.swp_len _ _ _ _ _
  have hg : w.grownBy ((w.setCell ⟨b, i, none⟩ (.int .i64 y)).setCell ⟨b, j, none⟩ (.int .i64 x)) (some b) := grown_trans (grown_setCell w b i _) (grown_setCell _ b j _)
  refine ⟨⟨na, nc, ?_, fun k z hz => ?_⟩, ?_, fun z hz => h.low z ((Hog.swp_perm hx hy).mem_iff.1 hz), h.hH⟩
  · rw [hl]
    exact hb.same (hg.block g h.lt (fun e => by cases e; omega))
  · obtain ⟨nb, no, e, h1, h2⟩ := hn k z hz
    refine ⟨nb, no, e, h1, ?_⟩
    have hH := h.hH
    rw [World.cell?_of_block (hg.block nb (by have := h.lt; omega) (fun e => by cases e; omega))]
    exact h2
  · rw [nums_swp, hl]
    have h2 := h.own
    exact (h2.stored2 (nums_len L).symm i y).stored2 (by rw [List.length_set, nums_len]) j x
set_option maxRecDepth 100000 in
set_option maxHeartbeats 4000000 in
theorem swapQ_ok (w : World) (g : Nat) (ns : List ByteArray) (L : List Nat) (a : Option Addr) (c i j x y : Nat) (h : Rdy H w g ns L a c) (hx : L[i]? = some x) (hy : L[j]? = some y) :
    Calls Try.prog 53 #[.pointer (some ⟨g, 0, none⟩), .int .i64 i, .int .i64 j] w fun e w' => e = .returned (.tuple #[]) ∧ Rdy H w' g ns (Hog.swp L i j x y) a c ∧ Ke g (Value.slice a L.length c).ownBlock w w' := by
  obtain ⟨na, nc, hb, hnm⟩ := h.ex
  obtain ⟨h0, h1, _, _, hg⟩ := hb.facts
  obtain ⟨b, rfl, hgb, hcx, hfx⟩ := h.place hx
  obtain ⟨b', e, _, hcy, hfy⟩ := h.place hy
  cases e
  have hil : i < L.length := (List.getElem?_eq_some_iff.1 hx).1
  have hjl : j < L.length := (List.getElem?_eq_some_iff.1 hy).1
  have hii : (i : Int) < (L.length : Int) := by omega
  have hji : (j : Int) < (L.length : Int) := by omega
  have HF : Hid (Rdy H ((w.drew.setCell ⟨b, i, none⟩ (.int .i64 y)).setCell ⟨b, j, none⟩ (.int .i64 x)) g ns (Hog.swp L i j x y) (some ⟨b, 0, none⟩) c) := by
    have hbd : BoxQ w.drew g (.slice na ns.length nc) (.slice (some ⟨b, 0, none⟩) L.length c) := hb
    have : Rdy H w.drew g ns L (some ⟨b, 0, none⟩) c := ⟨⟨na, nc, hbd, hnm⟩, h.own.below (Below.refl _ _).drew, h.low, h.hH⟩
    exact this.swapped hgb hx hy
  have HK : Hid (Ke g (some b) w ((w.drew.setCell ⟨b, i, none⟩ (.int .i64 y)).setCell ⟨b, j, none⟩ (.int .i64 x))) :=
    (Ke.ofBelow (Below.refl _ _).drew).trans (.inl rfl) (Ke.grown (grown_trans (grown_setCell w.drew b i _) (grown_setCell _ b j _)))
  by_cases e : i = j
  · subst e
    rw [hx] at hy
    cases hy
    clear h hb hnm hx hil hjl
    go_enter Try.func53, Try.ntmps53
    go_wp2
    go_region
    all_goals
      go_wp2
      go_end0
      exact ⟨rfl, HF.out, HK.out⟩
  have hij : ¬ j = i := fun k => e k.symm
  clear h hb hnm hx hy hil hjl
  go_enter Try.func53, Try.ntmps53
  go_wp2
  go_region
  all_goals
    go_wp2
    go_end0
    exact ⟨rfl, HF.out, HK.out⟩
end Go.Proofs.Yticpljjbnfimkaa
/- The walks of the heap's own Push and Pop. -/
namespace Go.Proofs.Yticpljjbnfimkaa
open Go.RowKit
variable {H : Nat}

theorem step_append_whereZ {ops : Array Oper} {o : Oper} {a : Act} {w : World} {K : Act → World → Prop} {Q : Exit → Act → World → Prop} {E : Prop} (hgd : o.guard = none) (s x : Operand)
    (ho : o.op = .call { callee := .builtin .append, args := #[s, x], argTypes := #[28, 28] })
    (base : Nat) (v : Value) (xs : List Int) (hs : a.eval s = v) (hown : OwnZ base w v xs) (ad : Addr) (m c : Nat) (ys : List Int) (hx : a.eval x = .slice (some ad) m c) (hu : ArgI w (some ad) m c ys)
    (q : Nat) (hq : xs.length + ys.length = q) (zs : List Int) (hz : xs ++ ys = zs) (hlen : q < 1000000) (hbase : base ≤ w.heap.size)
    (h : ∀ b c w', OwnZ base w' (.slice b q c) zs → w.grownBy w' v.ownBlock → Stays w v (.slice b q c) → K (a.put o.dst (.slice b q c)) w') :
    if Region.wanted o (yielded ops a.tmps) = true then Oper.wp Try.prog o a w K Q else E := by
  subst hq hz
  have hw : Region.wanted o (yielded ops a.tmps) = true := by simp [Region.wanted, hgd]
  rw [if_pos hw]
  obtain ⟨i0, hi, hz0, hz1, hz2⟩ := info_parts A3
  obtain rfl := hu.len
  obtain ⟨v', w', hr, h2, h3, h4⟩ := run_append_where (P := Try.prog) w base 28 o.type 3 i0 (.int .i64 0) 1 8 Try.underlying28 hi hz0 hz1 hz2 rfl (by decide) v xs.length (xs.map (Value.int .i64)) hown ad ys.length c (ys.map (Value.int .i64)) (by simp) (hu.cell ad rfl) (ints_one ys) (by unfold maxLen; omega) (by omega) hbase
  have h5 : OwnZ base w' v' (xs ++ ys) := OwnZ.joined h2
  obtain ⟨b, c', e⟩ := h5.form
  rw [List.length_append] at e
  subst e
  unfold Oper.wp
  simp [execOp, ho, resolve, invoke, builtin, hs, hx, hr, Result.andThen]
  exact h b c' w' h5 h3 h4
/-- 'x.(int)' of what is an int. -/
theorem run_is_int (z : Int) (W : World) : (Instr.typeAssert (.iface 3 (.int .i64 z)) 20 3 false).run Try.prog W = .ok (.int .i64 z) W := by
  simp [Instr.typeAssert, run_underlying Try.underlying3, go_sem, Result.andThen]
theorem Ke.alloc (g : Nat) (r : Option Nat) (w : World) (o : Obj) : Ke g r w (w.alloc o) := Ke.ofBelow (below_box w o)
theorem Ke.stored (g : Nat) (r : Option Nat) (w : World) (j : Nat) (v : Value) : Ke g r w (w.setCell ⟨g, j, none⟩ v) := Ke.grownG (grown_setCell w g j v)
theorem Stays.none (w : World) (v : Value) : Stays w v v := .inl rfl
/-- The heap behind a push. -/
theorem Rdy.pushed {w w1 w2 w3 : World} {g : Nat} {ns : List ByteArray} {L : List Nat} {a : Option Addr} {c z : Nat} (h : Rdy H w g ns L a c) (hz : z < ns.length) (hb1 : Below w.heap.size w w1) {b2 : Option Addr} {c2 : Nat}
    (ho : OwnZ (g + 1) w2 (.slice b2 (L.length + 1) c2) (numK (L ++ [z]))) (hg : w1.grownBy w2 (Value.slice a L.length c).ownBlock) (hs : Stays w1 (.slice a L.length c) (.slice b2 (L.length + 1) c2))
    (hw3 : w3 = w2.setCell ⟨g, 1, none⟩ (.slice b2 (L.length + 1) c2)) :
    Rdy H w3 g ns (L ++ [z]) b2 c2 ∧ Ke g (Value.slice a L.length c).ownBlock w w3 ∧ Stays w (.slice a L.length c) (.slice b2 (L.length + 1) c2) := by
  obtain ⟨na, nc, hb, hn⟩ := h.ex
  have hr : ∀ k, (Value.slice a L.length c).ownBlock = some k → g < k := fun k e => by have := (h.own.lt k e).1; omega
  have hgs := h.lt
  have hH := h.hH
  have key : ∀ k, k ≤ g → w2.heap[k]? = w.heap[k]? := fun k hk => (hg.block k (by have := hb1.size; omega) (fun e => by have := hr k e.symm; omega)).trans (hb1.block k (by omega))
  refine ⟨⟨⟨na, nc, ?_, fun k x hx => ?_⟩, ?_, fun x hx => ?_, h.hH⟩, ?_, ?_⟩
  · rw [hw3, List.length_append]
    exact (hb.same (key g (Nat.le_refl _))).stored _
  · obtain ⟨nb, no, e, h1, h2⟩ := hn k x hx
    refine ⟨nb, no, e, h1, ?_⟩
    rw [hw3, World.cell?_of_block ((grown_setCell w2 g 1 _).block nb (by have := hg.size; have := hb1.size; omega) (fun e => by cases e; omega))]
    rw [World.cell?_of_block (w := w) (key nb (by omega))]
    exact h2
  · rw [hw3, List.length_append]
    exact ho.ke (Ke.stored g none w2 1 _) (fun e => by have := (ho.lt g e).1; omega) (.inr (fun e => by
      unfold Value.ownBlock at e
      split at e
      · cases e
      · rename_i hh
        rcases ho.2 with ⟨e2, h0⟩ | ⟨q, cap, cur, e2, _⟩
        · rw [nums_len, List.length_append] at h0
          simp at h0
        · exact hh _ _ _ e2))
  · rcases List.mem_append.1 hx with hx | hx
    · exact h.low x hx
    · rw [List.mem_singleton.1 hx]; exact hz
  · rw [hw3]
    exact ((Ke.ofBelow hb1).trans (.inl rfl) (Ke.grown hg)).trans (.inl rfl) (Ke.stored g _ w2 1 _)
  · rcases hs with e | ⟨k, e, hk⟩
    · exact .inl e
    · exact .inr ⟨k, e, Nat.le_trans hb1.size hk⟩
set_option maxRecDepth 100000 in
set_option maxHeartbeats 4000000 in
theorem pushQ_ok (w : World) (g : Nat) (ns : List ByteArray) (L : List Nat) (a : Option Addr) (c z : Nat) (h : Rdy H w g ns L a c) (hz : z < ns.length) (hl : L.length < 900000) :
    Calls Try.prog 52 #[.pointer (some ⟨g, 0, none⟩), .iface 3 (.int .i64 z)] w fun e w' => e = .returned (.tuple #[]) ∧ ∃ b2 c2, Rdy H w' g ns (L ++ [z]) b2 c2 ∧ Ke g (Value.slice a L.length c).ownBlock w w' ∧ Stays w (.slice a L.length c) (.slice b2 (L.length + 1) c2) := by
  obtain ⟨n, hn⟩ : ∃ n, n = L.length := ⟨_, rfl⟩
  obtain ⟨na, nc, hb, _⟩ := h.ex
  obtain ⟨h0, h1, _, hfz, hg⟩ := hb.facts
  obtain ⟨wa, hwa⟩ : ∃ wa, wa = w.drew := ⟨_, rfl⟩
  obtain ⟨v, hv⟩ : ∃ v, v = Value.slice a L.length c := ⟨_, rfl⟩
  have HWA := hide hwa
  have HH := hide h
  have HZ := hide hz
  have HV := hide hv
  have HN := hide hn
  have HBD : Hid (Below w.heap.size w (w.drew.alloc (.cells #[.int .i64 z] 3))) := hide ((Below.refl w.heap.size w).drew.alloc (Nat.le_refl _) _)
  have HO : Hid (OwnZ (g + 1) (w.drew.alloc (.cells #[.int .i64 z] 3)) v (numK L)) := by rw [hv]; exact hide (h.own.below HBD.out)
  have HA := hide (argI_one w.drew (z : Int))
  have HGS : Hid (g + 1 ≤ w.heap.size + 1) := hide (by omega)
  have HVB : Hid (∀ w2, (w.drew.alloc (.cells #[.int .i64 z] 3)).grownBy w2 v.ownBlock → w2.cell? ⟨g, 1, none⟩ = some v ∧ w2.frozen? ⟨g, 1, none⟩ = false) := fun w2 hg2 => by
    have hb2 : BoxQ w2 g (.slice na ns.length nc) (.slice a L.length c) := (hb.same (HBD.out.block g hg)).same (hg2.block g (by simp; have : w.drew.heap.size = w.heap.size := rfl; omega) (fun e => by have := (HO.out.lt g e.symm).1; omega))
    rw [hv]
    exact ⟨hb2.facts.2.1, hb2.facts.2.2.2.1⟩
  have hta := run_is_int (z : Int)
  rw [← hv] at h1
  clear h hz hb h0 hwa hn
  rw [← hv]
  clear hv
  go_enter Try.func52, Try.ntmps52
  go_wp2
  go_region_law (refine step_append_whereZ rfl (.tmp 8) (.tmp 11) rfl (g + 1) v (numK L) rfl HO.out _ _ _ [(z : Int)] rfl HA.out (L.length + 1) (by rw [nums_len]; rfl) (numK (L ++ [z])) (nums_app L [z]).symm (by omega) (by have := HGS.out; simp; omega) ?_; intro b2 c2 w2 ho hg2 hs2; obtain ⟨q1, q2⟩ := HVB.out w2 hg2)
  all_goals
    have HO2 := hide ho
    have HG2 := hide hg2
    have HS2 := hide hs2
    clear ho hg2 hs2 q1 q2 h1 hfz
    go_wp2
    go_end0
    have hv := HV.out
    subst hv
    obtain ⟨k1, k2, k3⟩ := HH.out.pushed HZ.out HBD.out HO2.out HG2.out HS2.out rfl
    exact ⟨rfl, b2, c2, k1, k2, k3⟩
/-- The row without its last one. -/
theorem OwnZ.cut {base b n c : Nat} {w : World} {xs : List Int} {z : Int} (h : OwnZ base w (.slice (some ⟨b, 0, none⟩) (n + 1) c) (xs ++ [z])) (hn : xs.length = n) : OwnZ base w (.slice (some ⟨b, 0, none⟩) n c) xs := by
  subst hn
  refine ⟨by simp, .inr ?_⟩
  rcases h.2 with ⟨e, _⟩ | ⟨g, cap, cur, e, hb, hg, hn, hm, hs, ht⟩
  · cases e
  · simp only [Value.slice.injEq, Option.some.injEq, Addr.mk.injEq, and_true] at e
    obtain ⟨rfl, _, rfl⟩ := e
    rw [List.length_append] at hn
    simp at hn
    refine ⟨b, c, cur, rfl, hb, hg, by omega, hm, hs, ?_⟩
    have h2 := congrArg (List.take (xs.length * 1)) ht
    rw [List.take_take, List.length_append, List.length_singleton, Nat.min_eq_left (by omega), List.map_append] at h2
    rw [h2]
    exact List.take_left' (by simp)
set_option maxRecDepth 100000 in
set_option maxHeartbeats 4000000 in
theorem popQ_ok (w : World) (g : Nat) (ns : List ByteArray) (L M : List Nat) (a : Option Addr) (c z n : Nat) (h : Rdy H w g ns L a c) (hL : L = M ++ [z]) (hn : M.length = n) (hl : n < 900000) :
    Calls Try.prog 51 #[.pointer (some ⟨g, 0, none⟩)] w fun e w' => e = .returned (.iface 3 (.int .i64 z)) ∧ Rdy H w' g ns M a c ∧ Ke g none w w' := by
  obtain ⟨na, nc, hb, hnm⟩ := h.ex
  have hH := h.hH
  have hz : L[n]? = some z := by rw [hL, ← hn]; simp
  obtain ⟨b, rfl, hgb, hcz, _⟩ := h.place hz
  have hln : L.length = n + 1 := by rw [hL, List.length_append, hn]; rfl
  obtain ⟨h0, h1, _, hfz, hg⟩ := hb.facts
  rw [hln] at h1
  have HF : Hid (Rdy H (w.drew.setCell ⟨g, 1, none⟩ (.slice (some ⟨b, 0, none⟩) n c)) g ns M (some ⟨b, 0, none⟩) c) := by
    have hbd : BoxQ w.drew g (.slice na ns.length nc) (.slice (some ⟨b, 0, none⟩) L.length c) := hb
    have hgr := grown_setCell w.drew g 1 (.slice (some ⟨b, 0, none⟩) n c)
    refine ⟨⟨na, nc, ?_, fun k x hx => ?_⟩, ?_, fun x hx => h.low x (by rw [hL]; exact List.mem_append_left _ hx), h.hH⟩
    · rw [hn]; exact hbd.stored _
    · obtain ⟨nb, no, e, k1, k2⟩ := hnm k x hx
      refine ⟨nb, no, e, k1, ?_⟩
      rw [World.cell?_of_block (hgr.block nb (by show nb < w.heap.size; omega) (fun e => by cases e; omega))]
      exact k2
    · have ho := h.own
      rw [hln, hL, nums_app] at ho
      rw [hn]
      exact (((ho.cut (by rw [nums_len, hn])).below (Below.refl _ _).drew).ke (Ke.stored g none w.drew 1 _) (fun e => by have e2 : b = g := Option.some.inj e; omega) (.inr (fun e => by cases e)))
  have HF0 : Hid (Rdy H (w.setCell ⟨g, 1, none⟩ (.slice (some ⟨b, 0, none⟩) n c)) g ns M (some ⟨b, 0, none⟩) c) := by
    have hgr := grown_setCell w g 1 (.slice (some ⟨b, 0, none⟩) n c)
    refine ⟨⟨na, nc, ?_, fun k x hx => ?_⟩, ?_, fun x hx => h.low x (by rw [hL]; exact List.mem_append_left _ hx), h.hH⟩
    · rw [hn]; exact hb.stored _
    · obtain ⟨nb, no, e, k1, k2⟩ := hnm k x hx
      refine ⟨nb, no, e, k1, ?_⟩
      rw [World.cell?_of_block (hgr.block nb (by omega) (fun e => by cases e; omega))]
      exact k2
    · have ho := h.own
      rw [hln, hL, nums_app] at ho
      rw [hn]
      exact ((ho.cut (by rw [nums_len, hn])).ke (Ke.stored g none w 1 _) (fun e => by have e2 : b = g := Option.some.inj e; omega) (.inr (fun e => by cases e)))
  have hc1 : (n : Int) < ((n + 1 : Nat) : Int) := by omega
  have hcap : n + 1 ≤ c := by
    rcases h.own.2 with ⟨e, _⟩ | ⟨q, cap, cur, e, _, _, k, _⟩
    · cases e
    · simp only [Value.slice.injEq, Option.some.injEq, Addr.mk.injEq, and_true] at e
      omega
  clear h hb hnm hz h0 hL hn hln HF
  go_enter Try.func51, Try.ntmps51
  go_wp2
  go_ret
  exact ⟨rfl, HF0.out, Ke.stored g none w 1 _⟩
end Go.Proofs.Yticpljjbnfimkaa
