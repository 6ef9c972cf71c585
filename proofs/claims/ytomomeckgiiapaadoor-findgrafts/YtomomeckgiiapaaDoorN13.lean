/- The walks of Low, OverNodes, and Filter of few or none. -/
import Derived.Test.YtomomeckgiiapaaDoorN12
namespace Go.Proofs.YtomomeckgiiapaaDoor
open Go.RowKit

theorem low_val (x n : Int) (h0 : 0 < n) (h1 : n ≤ 1000000) : ∃ r : Nat, wrap64 ((IntKind.u64.wrap x).tmod n) = (r : Int) ∧ (r : Int) < n := by
  rw [IntKind.wrap_u64]
  have hx : 0 ≤ x % 18446744073709551616 := Int.emod_nonneg _ (by decide)
  rw [Int.tmod_eq_emod_of_nonneg hx]
  have h2 := Int.emod_nonneg (x % 18446744073709551616) (show n ≠ 0 by omega)
  have h3 := Int.emod_lt_of_pos (x % 18446744073709551616) h0
  refine ⟨(x % 18446744073709551616 % n).toNat, ?_, by omega⟩
  generalize x % 18446744073709551616 % n = y at h2 h3 ⊢
  unfold wrap64
  omega
set_option maxHeartbeats 400000 in
theorem low_any (x n : Int) (w : World) (h0 : 0 < n) (h1 : n ≤ 1000000) :
    Calls Tryd.prog 24 #[.int .i64 x, .int .i64 n] w fun e w' => ∃ r : Nat, e = .returned (.int .i64 r) ∧ (r : Int) < n ∧ w' = w := by
  have hn : (n == 0) = false := by rw [beq_eq_false_iff_ne]; omega
  go_enter Tryd.func24, Tryd.ntmps24
  go_wp2
  go_ret
  obtain ⟨r, hr, hrn⟩ := low_val x n h0 h1
  exact ⟨r, ret_int hr, hrn, rfl⟩

theorem OwnN.stored {base : Nat} {w : World} {g cap : Nat} {ns : List Nd} (h : OwnN base w (.slice (some ⟨g, 0, none⟩) ns.length cap) ns) (j : Nat) (hj : j < ns.length) (x : Nd) :
    OwnN base (((w.setCell ⟨g, j * 3, none⟩ (.string x.1)).setCell ⟨g, j * 3 + 1, none⟩ (.int .i64 x.2.1)).setCell ⟨g, j * 3 + 2, none⟩ (.string x.2.2)) (.slice (some ⟨g, 0, none⟩) (ns.set j x).length cap) (ns.set j x) := by
  have h1 := (World.ownsRow.stored h (j * 3) (.string x.1)).1
  have h2 := (World.ownsRow.stored h1 (j * 3 + 1) (.int .i64 x.2.1)).1
  have h3 := (World.ownsRow.stored h2 (j * 3 + 2) (.string x.2.2)).1
  unfold OwnN
  have e : ((((flat ns).set (j * 3) (.string x.1)).set (j * 3 + 1) (.int .i64 x.2.1)).set (j * 3 + 2) (.string x.2.2)) = flat (ns.set j x) := by
    clear h h1 h2 h3
    induction ns generalizing j with
    | nil => simp at hj
    | cons n r ih =>
      cases j with
      | zero => simp [flat, ncells]
      | succ j =>
        rw [List.set_cons_succ, flat_cons, flat_cons, ← ih j (by simpa using hj)]
        simp [ncells, Nat.add_mul]
  rw [e] at h3
  rw [List.length_set]
  exact h3

end Go.Proofs.YtomomeckgiiapaaDoor
