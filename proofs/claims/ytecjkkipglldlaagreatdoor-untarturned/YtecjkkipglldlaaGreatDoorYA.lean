/- Low as a function; a byte turned by a number from 1 to 255. -/
import Derived.Test.YtecjkkipglldlaaGreatDoorB9
import Derived.Laws.Bits64
import Derived.Laws.BitsAllLaws
namespace Go.Proofs.YtecjkkipglldlaaGreatDoor
open Go.RowKit

def lowN (x : Int) (n : Nat) : Nat := (IntKind.u64.wrap x % n).toNat
theorem lowN_lt (x : Int) {n : Nat} (h0 : 0 < n) : lowN x n < n := by
  have h3 : (0 : Int) ≤ IntKind.u64.wrap x % n := Int.emod_nonneg _ (by omega)
  have h4 : IntKind.u64.wrap x % n < n := Int.emod_lt_of_pos _ (by omega)
  unfold lowN
  omega
set_option maxHeartbeats 800000 in
theorem lowV_ok (x : Int) (n r : Nat) (w : World) (h0 : 0 < n) (hn : n < 1000000000) (hr : lowN x n = r) :
    Calls Tryz.prog 19 #[.int .i64 x, .int .i64 n] w fun e w' => e = .returned (.int .i64 r) ∧ w' = w := by
  have hu : IntKind.u64.wrap (n : Int) = (n : Int) := by rw [IntKind.wrap_u64]; omega
  have hz : ((n : Int) == 0) = false := by rw [beq_eq_false_iff_ne]; omega
  go_enter Tryz.func19, Tryz.ntmps19
  go_wp2
  go_ret
  have h1 : (0 : Int) ≤ IntKind.u64.wrap x := by rw [IntKind.wrap_u64]; omega
  have h2 : (IntKind.u64.wrap x).tmod n = IntKind.u64.wrap x % n := Int.tmod_eq_emod_of_nonneg h1
  have h3 : (0 : Int) ≤ IntKind.u64.wrap x % n := Int.emod_nonneg _ (by omega)
  have h4 : IntKind.u64.wrap x % n < n := Int.emod_lt_of_pos _ (by omega)
  refine ⟨ret_int ?_, rfl⟩
  subst hr
  unfold lowN
  rw [h2, IntWalk.wrap64_in _ (by omega)]
  omega
/-- A byte turned by a number from 1 to 255. -/
def turnB (v : UInt8) (r : Nat) : UInt8 := v ^^^ UInt8.ofNat (1 + r)
theorem turnB_ne (v : UInt8) {r : Nat} (hr : r < 255) : v ≠ turnB v r := by
  intro e
  have h := congrArg UInt8.toNat e
  unfold turnB at h
  rw [UInt8.toNat_xor, UInt8.toNat_ofNat', Nat.mod_eq_of_lt (by omega)] at h
  have h2 : v.toNat ^^^ v.toNat = v.toNat ^^^ (v.toNat ^^^ (1 + r)) := by rw [← h]
  rw [Nat.xor_self, ← Nat.xor_assoc, Nat.xor_self, Nat.zero_xor] at h2
  omega
theorem turnB_val (v : UInt8) {r : Nat} (hr : r < 255) : bits .xor .u8 (v.toNat : Int) (1 + (r : Int)) = ((turnB v r).toNat : Int) := by
  have h := u8_xor_nat v.toNat (1 + r) v.toNat_lt (by omega)
  unfold turnB
  rw [UInt8.toNat_xor, UInt8.toNat_ofNat', Nat.mod_eq_of_lt (by omega)]
  rw [← h, Int.natCast_add]
  rfl
end Go.Proofs.YtecjkkipglldlaaGreatDoor
