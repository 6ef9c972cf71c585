/- The walk of chapter 12's awake. -/
import Derived.Test.YtddbcldgppgpgaaHK
namespace Go.Proofs.Ytddbcldgppgpgaa
open Go.RowKit Hog

theorem wake_may : mayH [97] 2 3 [] = true := by decide
theorem wake_cells : (headH [97] 2 3 [])[0]? = some 97 ∧ (headH [97] 2 3 [])[156]? = some 48 ∧ (headH [97] 2 3 [])[134]? = some 51 ∧ (headH [97] 2 3 [])[257]? = some 117 := by decide +kernel
set_option maxHeartbeats 1000000 in
theorem awake12_ok (w0 w : World) (hok : Ok w0 w) :
    Calls Try.prog 8 #[] w fun e w' => e = .returned (.bool true) ∧ Ok w0 w' ∧ Below w.heap.size w w' := by
  have c1 : ((mk [48, 49, 48]).toList == [48, 49, 48]) = true := by rw [mk_toList]; rfl
  have HM := hide (mayH_of wake_may)
  have HW := hide wake_cells
  go_enter Try.func8, Try.ntmps8
  go_wp2_with fail
  refine (octal_ok 8 3 [48, 49, 48] true w0 w hok (by decide) (by decide) (by decide)).mono ?_
  rintro e w1 ⟨rfl, ok1, hb1⟩
  go_wp2_with fail
  refine (ofoctal_ok ⟨#[48, 49, 56]⟩ [48, 49, 56] 0 false w1 rfl (by decide) (by decide)).mono ?_
  rintro e w2 ⟨rfl, rfl⟩
  go_wp2_with fail
  refine (lay_good ⟨#[97]⟩ ⟨#[]⟩ [97] [] 2 3 w0 w2 ok1 rfl rfl HM.out).mono ?_
  rintro e w3 ⟨g, rfl, hg, hrow, ok3, hb3⟩
  have g0 : w3.cell? ⟨g, 0, none⟩ = some (.int .u8 97) := hrow.cell HW.out.1
  have g1 : w3.cell? ⟨g, 156, none⟩ = some (.int .u8 48) := hrow.cell HW.out.2.1
  have g2 : w3.cell? ⟨g, 134, none⟩ = some (.int .u8 51) := hrow.cell HW.out.2.2.1
  have g3 : w3.cell? ⟨g, 257, none⟩ = some (.int .u8 117) := hrow.cell HW.out.2.2.2
  have HB := hide (hb1.trans (hb3.mono hb1.size))
  have HO := hide ok3
  clear hb1 hb3 ok1 ok3 hrow hg
  go_wp2_with fail
  go_ret
  exact ⟨rfl, HO.out, HB.out⟩

set_option maxHeartbeats 800000 in
theorem lowH_ok (x : Int) (n : Nat) (w : World) (h0 : 0 < n) (hn : n < 4611686018427387904) :
    Calls Try.prog 21 #[.int .i64 x, .int .i64 n] w fun e w' => ∃ r : Nat, r < n ∧ e = .returned (.int .i64 r) ∧ w' = w := by
  have hu : IntKind.u64.wrap (n : Int) = (n : Int) := by rw [IntKind.wrap_u64]; omega
  have hz : ((n : Int) == 0) = false := by rw [beq_eq_false_iff_ne]; omega
  go_enter Try.func21, Try.ntmps21
  go_wp2
  go_ret
  have h1 : (0 : Int) ≤ IntKind.u64.wrap x := by rw [IntKind.wrap_u64]; omega
  have h2 : (IntKind.u64.wrap x).tmod n = IntKind.u64.wrap x % n := Int.tmod_eq_emod_of_nonneg h1
  have h3 : (0 : Int) ≤ IntKind.u64.wrap x % n := Int.emod_nonneg _ (by omega)
  have h4 : IntKind.u64.wrap x % n < n := Int.emod_lt_of_pos _ (by omega)
  refine ⟨(IntKind.u64.wrap x % n).toNat, by omega, ret_int ?_, rfl⟩
  rw [h2, IntWalk.wrap64_in _ (by omega)]
  omega
end Go.Proofs.Ytddbcldgppgpgaa
