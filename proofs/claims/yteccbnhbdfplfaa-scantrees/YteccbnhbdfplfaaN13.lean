/- The walks of Low, OverNodes, and Filter of few or none. -/
import Derived.Test.YteccbnhbdfplfaaK8
namespace Go.Proofs.Yteccbnhbdfplfaa
open Go.RowKit

theorem low_val (x n : Int) (h0 : 0 < n) (h1 : n ≤ 1000000) : ∃ r : Nat, wrap64 ((IntKind.u64.wrap x).tmod n) = (r : Int) ∧ (r : Int) < n := by
  rw [IntKind.wrap_u64]
  have hx : 0 ≤ x % 18446744073709551616 := Int.emod_nonneg _ (by decide)
  rw [Int.tmod_eq_emod_of_nonneg hx]
  have h2 := Int.emod_nonneg (x % 18446744073709551616) (show n ≠ 0 by omega)
  have h3 := Int.emod_lt_of_pos (x % 18446744073709551616) h0
  refine ⟨(x % 18446744073709551616 % n).toNat, ?_, by omega⟩
  generalize x % 18446744073709551616 % n = y at h2 h3 ⊢
  unfold wrap64
  omega
set_option maxHeartbeats 400000 in
theorem low_any (x n : Int) (w : World) (h0 : 0 < n) (h1 : n ≤ 1000000) :
    Calls Try.prog 24 #[.int .i64 x, .int .i64 n] w fun e w' => ∃ r : Nat, e = .returned (.int .i64 r) ∧ (r : Int) < n ∧ w' = w := by
  have hn : (n == 0) = false := by rw [beq_eq_false_iff_ne]; omega
  go_enter Try.func24, Try.ntmps24
  go_wp2
  go_ret
  obtain ⟨r, hr, hrn⟩ := low_val x n h0 h1
  exact ⟨r, ret_int hr, hrn, rfl⟩

end Go.Proofs.Yteccbnhbdfplfaa
