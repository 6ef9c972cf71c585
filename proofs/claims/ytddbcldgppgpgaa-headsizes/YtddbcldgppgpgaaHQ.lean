/- The walk of the statement HeadSizes: for every two numbers it answers true. -/
import Derived.Test.YtddbcldgppgpgaaHL
namespace Go.Proofs.Ytddbcldgppgpgaa
open Go.RowKit Hog

theorem oct_size {n : Nat} (h : n < 8589934592) : octR n 11 = true := by
  unfold octR
  rw [decide_eq_true_eq]
  have h2 : 8 ^ (11 : Int).toNat = 8589934592 := by decide
  exact ⟨by omega, by omega, by omega, by omega⟩
theorem oct_more {n : Int} (h : 8589934592 ≤ n) : octR n 11 = false := by
  unfold octR
  rw [decide_eq_false_iff_not]
  have h2 : 8 ^ (11 : Int).toNat = 8589934592 := by decide
  omega
theorem may_size {n : Nat} (h : n < 8589934592) : May [102] 2 n [] := ⟨oct_size h, by decide, by decide, by decide, by unfold mayK; rw [decide_eq_true_eq]; exact .inr (.inr ⟨.inl rfl, rfl⟩)⟩
theorem not_more {nm lk : List UInt8} {k n : Int} (h : 8589934592 ≤ n) : mayH nm k n lk = false := by unfold mayH; rw [oct_more h]; rfl
theorem not_dir {nm lk : List UInt8} {n : Int} (h : n ≠ 0) : mayH nm 1 n lk = false := by
  cases e : mayH nm 1 n lk with
  | false => rfl
  | true =>
    have := (mayH_of e).kind
    unfold mayK at this
    rw [decide_eq_true_eq] at this
    rcases this with ⟨_, h0, _⟩ | ⟨h0, _⟩ | ⟨h0, _⟩
    · exact absurd h0 h
    · omega
    · omega
theorem not_link {nm lk : List UInt8} {n : Int} (h : n ≠ 0) : mayH nm 4 n lk = false := by
  cases e : mayH nm 4 n lk with
  | false => rfl
  | true =>
    have := (mayH_of e).kind
    unfold mayK at this
    rw [decide_eq_true_eq] at this
    rcases this with ⟨h0, _⟩ | ⟨_, h0, _⟩ | ⟨h0, _⟩
    · omega
    · exact absurd h0 h
    · omega
set_option maxRecDepth 100000 in
set_option maxHeartbeats 4000000 in
theorem sizes_walk (x y : Int) (w : World) :
    Calls Try.prog 7 #[.int .i64 x, .int .i64 y] w fun e w' => e = .returned (.bool true) ∧ Below w.heap.size w w' := by
  go_enter Try.func7, Try.ntmps7
  go_wp2_with fail
  refine (lowH_ok x 8589934592 w (by omega) (by omega)).mono ?_
  rintro e w1 ⟨n, hn, rfl, rfl⟩
  have HN := hide hn
  have HM := hide (may_size hn)
  have hni : (n : Int) < 8589934592 := by omega
  go_wp2_with fail
  refine (lay_good ⟨#[102]⟩ ⟨#[]⟩ [102] [] 2 n w1 w1 (Ok.start w1) rfl rfl HM.out).mono ?_
  rintro e w2 ⟨g, rfl, hg, hr2, ok2, hb2⟩
  have HR2 := hide hr2
  clear hr2 hb2 hg hn
  go_wp2_with fail
  refine (lowH_ok y 1000 w2 (by omega) (by omega)).mono ?_
  rintro e w3 ⟨m, hm, rfl, rfl⟩
  have hmi : (m : Int) < 1000 := by omega
  clear hm
  have h1 : IntKind.i64.wrap (8589934592 + (m : Int)) = 8589934592 + (m : Int) := by rw [IntKind.wrap_i64]; omega
  have h2 : IntKind.i64.wrap (1 + (n : Int)) = 1 + (n : Int) := by rw [IntKind.wrap_i64]; omega
  go_wp2_with fail
  refine (lay_bad ⟨#[102]⟩ ⟨#[]⟩ [102] [] 2 (8589934592 + (m : Int)) w1 w3 ok2 rfl rfl (by omega) (not_more (by omega))).mono ?_
  rintro e w4 ⟨rfl, ok4, hb4⟩
  have HR4 := hide (HR2.out.below hb4 HR2.out.lt)
  clear hb4 ok2 HR2
  go_wp2_with fail
  refine (lay_bad ⟨#[102]⟩ ⟨#[]⟩ [102] [] 1 (1 + (n : Int)) w1 w4 ok4 rfl rfl (by omega) (not_dir (by omega))).mono ?_
  rintro e w5 ⟨rfl, ok5, hb5⟩
  have HR5 := hide (HR4.out.below hb5 HR4.out.lt)
  clear hb5 ok4 HR4
  go_wp2_with fail
  refine (lay_bad ⟨#[102]⟩ ⟨#[116]⟩ [102] [116] 4 (1 + (n : Int)) w1 w5 ok5 rfl rfl (by omega) (not_link (by omega))).mono ?_
  rintro e w6 ⟨rfl, ok6, hb6⟩
  have HR6 := hide (HR5.out.below hb6 HR5.out.lt)
  clear hb6 ok5 HR5
  go_wp2_with fail
  refine (read_ok _ 512 512 _ (some ([102], 2, (n : Int), [])) w1 w6 ok6 (HR6.out.arg (head_len HM.out) (Nat.le_refl _)) (read_head HM.out)).mono ?_
  rintro e w7 ⟨he, ok7, _⟩
  simp only [outR] at he
  subst he
  go_wp2_with fail
  refine (awake12_ok w1 w7 ok7).mono ?_
  rintro e w8 ⟨rfl, ok8, _⟩
  go_wp2_with fail
  go_ret
  exact ⟨rfl, ok8⟩
end Go.Proofs.Ytddbcldgppgpgaa
