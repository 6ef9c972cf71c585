/- The walk of the statement TreeFilters: for every nodes and every number it answers true. -/
import Derived.Test.YtdgchinfanialaaDoorN15
namespace Go.Proofs.YtdgchinfanialaaDoor
open Go.RowKit

/-- What counts how often it was asked, in block g. -/
def KindsAt (w : World) (g : Nat) (kind k : Int) : Prop := w.heap[g]? = some (.cells #[.int .i64 kind, .int .i64 k] 38 (0, 0))
theorem KindsAt.cells {w : World} {g : Nat} {kind k : Int} (h : KindsAt w g kind k) : w.cell? ⟨g, 0, none⟩ = some (.int .i64 kind) ∧ w.cell? ⟨g, 1, none⟩ = some (.int .i64 k) ∧ w.frozen? ⟨g, 1, none⟩ = false ∧ g < w.heap.size :=
  ⟨by rw [cell_of_row w g 0 _ _ (0, 0) h]; rfl, by rw [cell_of_row w g 1 _ _ (0, 0) h]; rfl, frozen_of_row w g 1 _ _ h, (Array.getElem?_eq_some_iff.1 h).1⟩
theorem KindsAt.below {w w' : World} {g B : Nat} {kind k : Int} (h : KindsAt w g kind k) (hb : Below B w w') (hB : g < B) : KindsAt w' g kind k := by
  unfold KindsAt
  rw [hb.block g hB]
  exact h
theorem KindsAt.set {w : World} {g : Nat} {kind k : Int} (h : KindsAt w g kind k) (k' : Int) : KindsAt (w.setCell ⟨g, 1, none⟩ (.int .i64 k')) g kind k' := by
  unfold KindsAt
  rw [heap_setCell_same w g _ _ _ _ h]
  rfl
theorem enters_is : ∀ args w, (callFunc 27 args).run Tryd.prog w = .ok (.enter 27 args) w := enters_of Tryd.func27 (by kernel_rfl) rfl
theorem enters_plain : ∀ args w, (callFunc 28 args).run Tryd.prog w = .ok (.enter 28 args) w := enters_of Tryd.func28 (by kernel_rfl) rfl

set_option maxHeartbeats 400000 in
theorem plain_any (n : Nd) (w : World) :
    Calls Tryd.prog 28 #[.agg #[.string n.1, .int .i64 n.2.1, .string n.2.2]] w fun e w' => e = .returned (.bool (n.2.1 == 2)) ∧ w.grownBy w' none := by
  go_enter Tryd.func28, Tryd.ntmps28
  go_wp2
  go_ret
  exact ⟨rfl, grown_box _ _ _⟩

set_option maxHeartbeats 400000 in
theorem is_any (n : Nd) (g : Nat) (kind : Int) (k : Nat) (w : World) (h : KindsAt w g kind k) (hk : k < 1000000) :
    Calls Tryd.prog 27 #[.pointer (some ⟨g, 0, none⟩), .agg #[.string n.1, .int .i64 n.2.1, .string n.2.2]] w fun e w' => e = .returned (.bool (n.2.1 == kind)) ∧ KindsAt w' g kind (k + 1 : Nat) ∧ w.grownBy w' (some g) := by
  have hgw := h.cells.2.2.2
  obtain ⟨c0, c1, c2, c3⟩ := h.cells
  have hne : w.heap.size ≠ g := by omega
  obtain ⟨W, hW⟩ : ∃ W, W = (w.setCell ⟨g, 1, none⟩ (.int .i64 ((k : Int) + 1))).alloc (.cells #[.string n.1, .int .i64 n.2.1, .string n.2.2] 24) := ⟨_, rfl⟩
  have hs : (w.setCell ⟨g, 1, none⟩ (.int .i64 ((k : Int) + 1))).heap.size = w.heap.size := by simp [World.setCell]
  have hk1 : KindsAt W g kind (k + 1 : Nat) := by
    rw [hW, show ((k + 1 : Nat) : Int) = (k : Int) + 1 by omega]
    exact (h.set _).below (below_box _ _) (by rw [hs]; exact hgw)
  have hx : W.cell? ⟨w.heap.size, 1, none⟩ = some (.int .i64 n.2.1) := by
    have h5 := ((Run.one (w.setCell ⟨g, 1, none⟩ (.int .i64 ((k : Int) + 1))) n).2 0 n rfl).kind
    rw [hs] at h5
    rw [hW]
    exact h5
  have hgr : w.grownBy W (some g) := by rw [hW]; exact grown_trans (grown_setCell w g 1 _) (grown_box _ _ _)
  have hy := hk1.cells.1
  have HW := hide hW
  have HK := hide hk1
  have HG := hide hgr
  clear h hW hk1 hgr hs
  go_enter Tryd.func27, Tryd.ntmps27
  go_wp2
  rw [← HW.out]
  go_quiet (fail)
  go_wp2
  go_ret
  refine ⟨rfl, HK.out.below (below_drewN (Below.refl _ _) nq) HK.out.cells.2.2.2, grown_trans HG.out ⟨rfl, rfl, rfl, Nat.le_refl _, fun _ _ _ => rfl⟩⟩

set_option maxHeartbeats 400000 in
theorem filter_none (F : Nat) (bound : Array Value) (a : Option Addr) (c : Nat) (w : World) :
    Calls Tryd.prog 26 #[.slice a 0 c, .func (.func F) bound #[]] w fun e w' => e = .returned (.slice none 0 0) ∧ w' = w := by
  have hq := fun w => eql_func_some _ (.func F) bound #[] w Tryd.underlying29
  go_enter Tryd.func26, Tryd.ntmps26
  go_wp2
  go_loop [5, 7, 14] (fun s _ i => s = .slice none 0 0 ∧ i = .int .i64 0) (fun _ _ _ => 0)
  case atStart => exact ⟨rfl, rfl⟩
  case round =>
    obtain ⟨rfl, rfl⟩ := hrel
    go_wp2
    go_ret
    exact ⟨rfl, rfl⟩
set_option maxHeartbeats 400000 in
theorem filter_nil (ao : Option Addr) (n c : Nat) (ns : List Nd) (w : World) (h : ArgN w ao n c ns) (hn : n < 900000) :
    Calls Tryd.prog 26 #[.slice ao n c, .nilFunc] w fun e w' => ∃ v, e = .returned v ∧ OwnN w.heap.size w' v ns ∧ Below w.heap.size w w' := by
  have hq := fun w => eql_func_nil _ w Tryd.underlying29
  have HA := hide h
  clear h
  go_enter Tryd.func26, Tryd.ntmps26
  go_wp2_with fail
  refine (clone_ok ao n c ns w HA.out hn).mono ?_
  rintro e w1 ⟨v, rfl, ho, hb⟩
  go_wp2
  go_ret
  exact ⟨_, rfl, ho, hb⟩

/-- Nodes that are handed in and do not lie in block g. -/
def Apart (ao : Option Addr) (g : Nat) : Prop := ∀ ad, ao = some ad → ad.block ≠ g
theorem filter_arg (F : Nat) (bound : Array Value) (row : Option Nat) (p : Nd → Bool) (Inv : Nat → World → Prop) (ao : Option Addr) (n c : Nat) (t : List Nd) (w : World)
    (eg : ∀ args w, (callFunc F args).run Tryd.prog w = .ok (.enter F args) w)
    (hcall : ∀ (j : Nat) n wr, t[j]? = some n → Inv j wr → Calls Tryd.prog F (bound.push (.agg #[.string n.1, .int .i64 n.2.1, .string n.2.2])) wr fun e w' => e = .returned (.bool (p n)) ∧ Inv (j + 1) w' ∧ wr.grownBy w' row)
    (hinv : ∀ (j : Nat) wr w', Inv j wr → Below w.heap.size wr w' → Inv j w') (h0 : Inv 0 w) (hrow : ∀ g, row = some g → g < w.heap.size ∧ (t ≠ [] → Apart ao g)) (h : ArgN w ao n c t) (hl : n < 900000) :
    Calls Tryd.prog 26 #[.slice ao n c, .func (.func F) bound #[]] w fun e w' => ∃ v, e = .returned v ∧ OwnN w.heap.size w' v (t.filter p) ∧ Inv n w' ∧ w.grownBy w' row := by
  have hlen := h.len
  by_cases hne : t = []
  · subst hne
    simp at hlen
    subst hlen
    refine (filter_none F bound ao c w).mono ?_
    rintro e w' ⟨rfl, rfl⟩
    exact ⟨_, rfl, OwnN.nil _ _, h0, grown_refl _ _⟩
  · rcases h.nods with ⟨e, _⟩ | ⟨b, o, c', e, hc, hr⟩
    · exact absurd e hne
    rw [e]
    simp only [Value.slice.injEq] at e
    obtain ⟨e1, e2, e3⟩ := e
    rw [← e2] at hlen ⊢
    rw [e2]
    exact filter_some F bound row p Inv b o c' t w eg hcall hinv h0 (fun g hg => ⟨(hrow g hg).1, fun e5 => (hrow g hg).2 hne _ e1 e5.symm⟩) hr (by omega)

theorem filter_plain (ao : Option Addr) (n c : Nat) (t : List Nd) (w : World) (h : ArgN w ao n c t) (hl : n < 900000) :
    Calls Tryd.prog 26 #[.slice ao n c, .func (.func 28) #[] #[]] w fun e w' => ∃ v, e = .returned v ∧ OwnN w.heap.size w' v (t.filter fun x => x.2.1 == 2) ∧ w.grownBy w' none := by
  refine (filter_arg 28 #[] none (fun x => x.2.1 == 2) (fun _ _ => True) ao n c t w enters_plain (fun j x wr _ _ => ?_) (fun _ _ _ _ _ => trivial) trivial (fun g e => by cases e) h hl).mono ?_
  · exact (plain_any x wr).mono fun e w' ⟨h1, h2⟩ => ⟨h1, trivial, h2⟩
  · rintro e w' ⟨v, rfl, h1, _, h2⟩
    exact ⟨v, rfl, h1, h2⟩
theorem filter_is (g : Nat) (kind : Int) (q : Nat) (ao : Option Addr) (n c : Nat) (t : List Nd) (w : World) (hg : t ≠ [] → Apart ao g) (hk : KindsAt w g kind q) (hq : q < 1000) (h : ArgN w ao n c t) (hl : n < 900000) :
    Calls Tryd.prog 26 #[.slice ao n c, .func (.func 27) #[.pointer (some ⟨g, 0, none⟩)] #[]] w fun e w' => ∃ v, e = .returned v ∧ OwnN w.heap.size w' v (t.filter fun x => x.2.1 == kind) ∧ KindsAt w' g kind (q + n : Nat) ∧ w.grownBy w' (some g) := by
  have hgw := hk.cells.2.2.2
  refine (filter_arg 27 #[.pointer (some ⟨g, 0, none⟩)] (some g) (fun x => x.2.1 == kind) (fun j wr => j ≤ n → KindsAt wr g kind (q + j : Nat)) ao n c t w enters_is (fun j x wr hx hi => ?_) (fun j wr w' hi hb hj => (hi hj).below hb hgw) (fun _ => hk) (fun g' e => by cases e; exact ⟨hgw, hg⟩) h hl).mono ?_
  · have hj : j < n := by have := (List.getElem?_eq_some_iff.1 hx).1; rw [h.len] at this; exact this
    refine (is_any x g kind (q + j) wr (hi (by omega)) (by omega)).mono ?_
    rintro e w' ⟨h1, h2, h3⟩
    exact ⟨h1, fun _ => h2, h3⟩
  · rintro e w' ⟨v, rfl, h1, h2, h3⟩
    exact ⟨v, rfl, h1, h2 (Nat.le_refl _), h3⟩
end Go.Proofs.YtdgchinfanialaaDoor
