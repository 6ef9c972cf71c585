/- The heap of package order in memory; the walks of its own Len, Less, Swap, Push, Pop. -/
import Derived.Test.YticpljjbnfimkaaKZ
import Derived.Test.YticpljjbnfimkaaPlainZ
import Derived.Handy
import Derived.BigRegion
import Derived.RegionTactic
namespace Go.Proofs.Yticpljjbnfimkaa
open Go.RowKit

/-- The heap's box: the names, and the slice of places. -/
def BoxQ (w : World) (g : Nat) (u v : Value) : Prop := w.heap[g]? = some (.cells #[u, v] 59 (0, 0))
theorem BoxQ.facts {w : World} {g : Nat} {u v : Value} (h : BoxQ w g u v) : w.cell? ⟨g, 0, none⟩ = some u ∧ w.cell? ⟨g, 1, none⟩ = some v ∧ w.frozen? ⟨g, 0, none⟩ = false ∧ w.frozen? ⟨g, 1, none⟩ = false ∧ g < w.heap.size :=
  ⟨by rw [cell_of_row w g 0 _ _ (0, 0) h]; rfl, by rw [cell_of_row w g 1 _ _ (0, 0) h]; rfl, frozen_of_row w g 0 _ _ h, frozen_of_row w g 1 _ _ h, (Array.getElem?_eq_some_iff.1 h).1⟩
theorem BoxQ.made (w : World) (u v : Value) : BoxQ (w.alloc (.cells #[u, v] 59)) w.heap.size u v := heap_alloc_new w _
theorem BoxQ.stored {w : World} {g : Nat} {u v : Value} (h : BoxQ w g u v) (v' : Value) : BoxQ (w.setCell ⟨g, 1, none⟩ v') g u v' := by
  have h1 := heap_setCell_same w g 1 _ _ v' h
  unfold BoxQ
  rw [h1]; rfl
theorem BoxQ.same {w w' : World} {g : Nat} {u v : Value} (h : BoxQ w g u v) (e : w'.heap[g]? = w.heap[g]?) : BoxQ w' g u v := e.trans h

/-- Of what was there only the block g, and the row r, have turned. -/
structure Ke (g : Nat) (r : Option Nat) (w w' : World) : Prop where
  os : w'.os = w.os
  tape : w'.tape = w.tape
  output : w'.output = w.output
  size : w.heap.size ≤ w'.heap.size
  block : ∀ k, k < w.heap.size → k ≠ g → some k ≠ r → w'.heap[k]? = w.heap[k]?
theorem Ke.refl (g : Nat) (r : Option Nat) (w : World) : Ke g r w w := ⟨rfl, rfl, rfl, Nat.le_refl _, fun _ _ _ _ => rfl⟩
theorem Ke.trans {g : Nat} {r : Option Nat} {a b c : World} (h : Ke g r a b) {r' : Option Nat} (hr : r' = r ∨ ∃ k, r' = some k ∧ a.heap.size ≤ k) (k : Ke g r' b c) : Ke g r a c :=
  ⟨k.os.trans h.os, k.tape.trans h.tape, k.output.trans h.output, Nat.le_trans h.size k.size, fun i hi hg hn => (k.block i (Nat.lt_of_lt_of_le hi h.size) hg (fun e => by
    rcases hr with e2 | ⟨j, e2, hj⟩
    · rw [e2] at e; exact hn e
    · rw [e2] at e; cases e; omega)).trans (h.block i hi hg hn)⟩
theorem Ke.grown {g : Nat} {r : Option Nat} {w w' : World} (h : w.grownBy w' r) : Ke g r w w' := ⟨h.os, h.tape, h.output, h.size, fun k hk _ hn => h.block k hk hn⟩
theorem Ke.grownG {g : Nat} {r : Option Nat} {w w' : World} (h : w.grownBy w' (some g)) : Ke g r w w' := ⟨h.os, h.tape, h.output, h.size, fun k hk hg _ => h.block k hk (fun e => hg (Option.some.inj e))⟩
theorem Ke.below {g : Nat} {r : Option Nat} {w w' : World} {B : Nat} (h : Ke g r w w') (hB : B ≤ g) (hr : ∀ k, r = some k → B ≤ k) (hw : B ≤ w.heap.size) : Below B w w' :=
  ⟨h.os, h.tape, h.output, h.size, fun k hk => h.block k (by omega) (by omega) (fun e => by have := hr k e.symm; omega)⟩
theorem Ke.ofBelow {g : Nat} {r : Option Nat} {w w' : World} (h : Below w.heap.size w w') : Ke g r w w' := ⟨h.os, h.tape, h.output, h.size, fun k hk _ _ => h.block k hk⟩
theorem OwnZ.ke {base g : Nat} {r : Option Nat} {w w' : World} {v : Value} {xs : List Int} (h : OwnZ base w v xs) (k : Ke g r w w') (h1 : v.ownBlock ≠ some g) (h2 : v.ownBlock = none ∨ v.ownBlock ≠ r) : OwnZ base w' v xs := by
  refine ⟨h.1, ?_⟩
  rcases h.2 with h3 | ⟨b, cap, cur, rfl, hbs, hg, r'⟩
  · exact .inl h3
  · refine .inr ⟨b, cap, cur, rfl, hbs, ?_, r'⟩
    rw [k.block b (Array.getElem?_eq_some_iff.1 hg).1 (fun e => h1 (by rw [← e]; rfl)) (fun e => by
      rcases h2 with h2 | h2
      · cases h2
      · exact h2 e)]
    exact hg

/-- The heap in block g: all names; those places that could come next, in a slice of their own. -/
structure Rdy (H : Nat) (w : World) (g : Nat) (ns : List ByteArray) (L : List Nat) (a : Option Addr) (c : Nat) : Prop where
  ex : ∃ na nc, BoxQ w g (.slice na ns.length nc) (.slice a L.length c) ∧ ∀ (j : Nat) x, ns[j]? = some x → ∃ nb no, na = some ⟨nb, no, none⟩ ∧ nb < H ∧ w.cell? ⟨nb, no + j, none⟩ = some (.string x)
  own : OwnZ (g + 1) w (.slice a L.length c) (numK L)
  low : ∀ x ∈ L, x < ns.length
  hH : H ≤ g
variable {H : Nat}
theorem Rdy.lt {w : World} {g : Nat} {ns : List ByteArray} {L : List Nat} {a : Option Addr} {c : Nat} (h : Rdy H w g ns L a c) : g < w.heap.size := by
  obtain ⟨_, _, hb, _⟩ := h.ex
  exact hb.facts.2.2.2.2
/-- What the heap's calls see of it at the place i. -/
theorem Rdy.place {w : World} {g : Nat} {ns : List ByteArray} {L : List Nat} {a : Option Addr} {c i z : Nat} (h : Rdy H w g ns L a c) (hz : L[i]? = some z) : ∃ b, a = some ⟨b, 0, none⟩ ∧ g < b ∧ w.cell? ⟨b, i, none⟩ = some (.int .i64 z) ∧ w.frozen? ⟨b, i, none⟩ = false := by
  obtain ⟨b, rfl, hc⟩ := h.own.at' hz
  have h1 := (h.own.lt b rfl).1
  have h2 := h.own
  have e : L.length = (numK L).length := (nums_len L).symm
  unfold OwnZ at h2
  rw [e] at h2
  exact ⟨b, rfl, by omega, hc, World.ownsRow.frozenAt h2 i⟩
/-- The name that stands at the place z. -/
def nmN (ns : List ByteArray) (z : Nat) : ByteArray := match ns[z]? with
  | some x => x
  | none => ByteArray.empty
theorem nmN_at {ns : List ByteArray} {z : Nat} {x : ByteArray} (h : ns[z]? = some x) : nmN ns z = x := by unfold nmN; rw [h]
/-- Which of two places has the lesser name? -/
def ltQ (ns : List ByteArray) (a b : Nat) : Prop := Op.bytesLess (nmN ns a).toList (nmN ns b).toList = true

set_option maxRecDepth 100000 in
set_option maxHeartbeats 1000000 in
theorem lenQ_ok (w : World) (g : Nat) (ns : List ByteArray) (L : List Nat) (a : Option Addr) (c n : Nat) (h : Rdy H w g ns L a c) (hn : L.length = n) :
    Calls Try.prog 29 #[.pointer (some ⟨g, 0, none⟩)] w fun e w' => e = .returned (.int .i64 n) ∧ w' = w := by
  subst hn
  obtain ⟨na, nc, hb, _⟩ := h.ex
  obtain ⟨_, h1, _, _, _⟩ := hb.facts
  clear h hb
  go_enter Try.func29, Try.ntmps29
  go_wp2
  go_ret
  exact ⟨rfl, rfl⟩
set_option maxRecDepth 100000 in
set_option maxHeartbeats 2000000 in
theorem lessQ_ok (w : World) (g : Nat) (ns : List ByteArray) (L : List Nat) (a : Option Addr) (c i j x y : Nat) (r : Bool) (h : Rdy H w g ns L a c) (hx : L[i]? = some x) (hy : L[j]? = some y) (hr : Op.bytesLess (nmN ns x).toList (nmN ns y).toList = r) :
    Calls Try.prog 50 #[.pointer (some ⟨g, 0, none⟩), .int .i64 i, .int .i64 j] w fun e w' => e = .returned (.bool r) ∧ Below w.heap.size w w' := by
  obtain ⟨na, nc, hb, hnm⟩ := h.ex
  obtain ⟨h0, h1, _, _, hg⟩ := hb.facts
  obtain ⟨b, rfl, hgb, hcx, _⟩ := h.place hx
  obtain ⟨b', e, _, hcy, _⟩ := h.place hy
  cases e
  have hxn := h.low x (List.mem_of_getElem? hx)
  have hyn := h.low y (List.mem_of_getElem? hy)
  have hxs : ns[x]? = some ns[x] := List.getElem?_eq_getElem hxn
  have hys : ns[y]? = some ns[y] := List.getElem?_eq_getElem hyn
  obtain ⟨nb, no, rfl, _, hcn⟩ := hnm x _ hxs
  obtain ⟨nb', no', e, _, hcm⟩ := hnm y _ hys
  cases e
  rw [nmN_at hxs, nmN_at hys] at hr
  generalize ns[x] = sx at *
  generalize ns[y] = sy at *
  have hil : i < L.length := (List.getElem?_eq_some_iff.1 hx).1
  have hjl : j < L.length := (List.getElem?_eq_some_iff.1 hy).1
  have hii : (i : Int) < (L.length : Int) := by omega
  have hji : (j : Int) < (L.length : Int) := by omega
  have hxi : (x : Int) < (ns.length : Int) := by omega
  have hyi : (y : Int) < (ns.length : Int) := by omega
  clear h hb hnm hxs hys hx hy hil hjl hxn hyn
  subst hr
  go_enter Try.func50, Try.ntmps50
  go_wp2
  go_quiet (fail)
  go_wp2
  go_ret
  exact ⟨rfl, below_drewN (Below.refl _ _) _⟩
end Go.Proofs.Yticpljjbnfimkaa
