/- The walks of the statements' own SameBytes, OverBytes, Low, Num. -/
import Derived.Test.YtecjkkipglldlaaGreatDoorB1
import Derived.Deep.QuietTactic
import Derived.BigQuiet
namespace Go.Proofs.YtecjkkipglldlaaGreatDoor
open Go.RowKit

theorem take_sameB {a b : List UInt8} {k : Nat} {x y : UInt8} (h : a.take k = b.take k) (hx : a[k]? = some x) (hy : b[k]? = some y) (e : x = y) : a.take (k + 1) = b.take (k + 1) := by
  subst e
  obtain ⟨h1, rfl⟩ := List.getElem?_eq_some_iff.1 hx
  obtain ⟨h2, e2⟩ := List.getElem?_eq_some_iff.1 hy
  rw [List.take_succ_eq_append_getElem h1, List.take_succ_eq_append_getElem h2, h, e2]

set_option maxHeartbeats 800000 in
theorem sameB_some (b o c b' o' c' n : Nat) (xs ys : List UInt8) (w : World) (hn : n < 1000000000) (hx : ArgB w (some ⟨b, o, none⟩) n c xs) (hy : ArgB w (some ⟨b', o', none⟩) n c' ys) :
    Calls Tryz.prog 17 #[.slice (some ⟨b, o, none⟩) n c, .slice (some ⟨b', o', none⟩) n c'] w fun e w' => e = .returned (.bool (decide (xs = ys))) ∧ Below w.heap.size w w' := by
  have HX := hide hx
  have HY := hide hy
  have HNX := hide hx.len
  have HNY := hide hy.len
  clear hx hy
  have hne : ((n : Int) != (n : Int)) = false := by simp
  go_enter Tryz.func17, Tryz.ntmps17
  go_wp2
  go_loopw [5] (fun i wr => ∃ k : Nat, k ≤ n ∧ i = .int .i64 k ∧ Hid (xs.take k = ys.take k) ∧ Below w.heap.size w wr) (fun i _ => n - (intOf i).toNat)
  case atStart => exact ⟨0, Nat.zero_le _, rfl, rfl, Below.refl _ _⟩
  case round =>
    obtain ⟨k, hk, rfl, hsame, hbl⟩ := hrel
    by_cases hlt : k < n
    · obtain ⟨x, hx⟩ : ∃ x, xs[k]? = some x := ⟨xs[k]'(by have := HNX.out; omega), List.getElem?_eq_some_iff.2 ⟨_, rfl⟩⟩
      obtain ⟨y, hy⟩ : ∃ y, ys[k]? = some y := ⟨ys[k]'(by have := HNY.out; omega), List.getElem?_eq_some_iff.2 ⟨_, rfl⟩⟩
      have g1 := (HX.out.below hbl).at hx
      have f1 := (HY.out.below hbl).at hy
      have hki : (k : Int) < (n : Int) := by omega
      have HXK := hide hx
      have HYK := hide hy
      clear hx hy
      go_wp2
      go_quiet (fail)
      by_cases he : x = y
      · have hb : ((x.toNat : Int) != (y.toNat : Int)) = false := by rw [he]; simp
        have HE := hide he
        clear he
        go_wp2
        go_roundw
        case rel => exact ⟨k + 1, by omega, by go_num, take_sameB hsame.out HXK.out HYK.out HE.out, below_drewN hbl nq⟩
        case measure => simp [intOf]; omega
      · have hb : ((x.toNat : Int) != (y.toNat : Int)) = true := by rw [bne_iff_ne]; intro e; exact he (UInt8.toNat_inj.1 (by omega))
        have HE := hide he
        clear he
        go_wp2
        go_ret
        refine ⟨ret_bool ?_, below_drewN hbl nq⟩
        symm
        rw [decide_eq_false_iff_not]
        intro e
        exact HE.out (Option.some.inj (HXK.out.symm.trans ((congrArg (fun l => l[k]?) e).trans HYK.out)))
    · go_wp2
      go_ret
      refine ⟨ret_bool ?_, hbl⟩
      have e : k = n := by omega
      have h1 := hsame.out
      rw [e] at h1
      have h2 : xs = ys := by
        rw [← HNX.out, List.take_length] at h1
        rw [h1, HNX.out, ← HNY.out, List.take_length]
      rw [h2]; simp
theorem sameB_less (a b : Option Addr) (n m c d : Nat) (w : World) (h : n ≠ m) :
    Calls Tryz.prog 17 #[.slice a n c, .slice b m d] w fun e w' => e = .returned (.bool false) ∧ w' = w := by
  have h1 : ((n : Int) != (m : Int)) = true := by rw [bne_iff_ne]; omega
  go_enter Tryz.func17, Tryz.ntmps17
  go_wp2
  go_ret
  exact ⟨rfl, rfl⟩
theorem sameB_none (a b : Option Addr) (c d : Nat) (w : World) :
    Calls Tryz.prog 17 #[.slice a 0 c, .slice b 0 d] w fun e w' => e = .returned (.bool true) ∧ w' = w := by
  go_enter Tryz.func17, Tryz.ntmps17
  go_wp2
  go_loop [5] (fun i => i = .int .i64 0) (fun _ => 0)
  case atStart => rfl
  case round =>
    subst hrel
    go_wp2
    go_ret
    exact ⟨rfl, rfl⟩
theorem sameB_ok (ao ao' : Option Addr) (n c n' c' : Nat) (xs ys : List UInt8) (r : Bool) (w0 w : World) (h : Ok w0 w) (hx : ArgB w ao n c xs) (hy : ArgB w ao' n' c' ys) (hn : n < 1000000000) (hr : decide (xs = ys) = r) :
    Calls Tryz.prog 17 #[.slice ao n c, .slice ao' n' c'] w fun e w' => e = .returned (.bool r) ∧ Ok w0 w' ∧ Below w.heap.size w w' := by
  subst hr
  by_cases hl : n = n'
  · subst hl
    by_cases h0 : 0 < n
    · obtain ⟨b, o, rfl, _⟩ := hx.plain h0
      obtain ⟨b', o', rfl, _⟩ := hy.plain h0
      refine (sameB_some b o c b' o' c' n xs ys w hn hx hy).mono ?_
      rintro e w' ⟨rfl, hb⟩
      exact ⟨rfl, h.next hb, hb⟩
    · obtain rfl : n = 0 := by omega
      have e1 : xs = [] := List.eq_nil_of_length_eq_zero hx.len
      have e2 : ys = [] := List.eq_nil_of_length_eq_zero hy.len
      subst e1
      subst e2
      refine (sameB_none ao ao' c c' w).mono ?_
      rintro e w' ⟨rfl, rfl⟩
      exact ⟨rfl, h, Below.refl _ _⟩
  · have he : decide (xs = ys) = false := by rw [decide_eq_false_iff_not]; intro e; apply hl; rw [← hx.len, ← hy.len, e]
    rw [he]
    refine (sameB_less ao ao' n n' c c' w hl).mono ?_
    rintro e w' ⟨rfl, rfl⟩
    exact ⟨rfl, h, Below.refl _ _⟩

set_option maxHeartbeats 800000 in
theorem lowB_ok (x : Int) (n : Nat) (w : World) (h0 : 0 < n) (hn : n < 1000000000) :
    Calls Tryz.prog 19 #[.int .i64 x, .int .i64 n] w fun e w' => ∃ r : Nat, r < n ∧ e = .returned (.int .i64 r) ∧ w' = w := by
  have hu : IntKind.u64.wrap (n : Int) = (n : Int) := by rw [IntKind.wrap_u64]; omega
  have hz : ((n : Int) == 0) = false := by rw [beq_eq_false_iff_ne]; omega
  go_enter Tryz.func19, Tryz.ntmps19
  go_wp2
  go_ret
  have h1 : (0 : Int) ≤ IntKind.u64.wrap x := by rw [IntKind.wrap_u64]; omega
  have h2 : (IntKind.u64.wrap x).tmod n = IntKind.u64.wrap x % n := Int.tmod_eq_emod_of_nonneg h1
  have h3 : (0 : Int) ≤ IntKind.u64.wrap x % n := Int.emod_nonneg _ (by omega)
  have h4 : IntKind.u64.wrap x % n < n := Int.emod_lt_of_pos _ (by omega)
  refine ⟨(IntKind.u64.wrap x % n).toNat, by omega, ret_int ?_, rfl⟩
  rw [h2, IntWalk.wrap64_in _ (by omega)]
  omega
set_option maxHeartbeats 800000 in
theorem numE_ok (x : Int) (w : World) :
    Calls Tryz.prog 12 #[.int .i64 x] w fun e w' => e = .returned (.int .i64 x) ∧ w' = w := by
  go_enter Tryz.func12, Tryz.ntmps12
  go_wp2
  go_ret
  exact ⟨rfl, rfl⟩
end Go.Proofs.YtecjkkipglldlaaGreatDoor
