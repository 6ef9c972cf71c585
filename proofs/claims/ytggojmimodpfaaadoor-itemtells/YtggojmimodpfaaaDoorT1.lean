/- The walks of tree.Same, and of the document's own Same and Size. -/
import Derived.Test.YtggojmimodpfaaaDoorJ3
import Derived.Test.YtggojmimodpfaaaDoorJ2
namespace Go.Proofs.YtggojmimodpfaaaDoor
open Go.RowKit

set_option maxHeartbeats 800000 in
theorem rsame_some (b o c b' o' c' n : Nat) (xs ys : List Nd) (w : World) (hn : n < 1000000) (hnx : n = xs.length) (hny : n = ys.length) (hx : Run w b o xs) (hy : Run w b' o' ys) :
    Calls Tryd.prog 39 #[.slice (some ⟨b, o, none⟩) n c, .slice (some ⟨b', o', none⟩) n c'] w fun e w' => e = .returned (.bool (decide (xs = ys))) ∧ Below w.heap.size w w' := by
  have HX := hide hx
  have HY := hide hy
  have HNX := hide hnx
  have HNY := hide hny
  clear hx hy hnx hny
  have hne : ((n : Int) != (n : Int)) = false := by simp
  go_enter Tryd.func39, Tryd.ntmps39
  go_wp2
  go_loopw [5] (fun i wr => ∃ k : Nat, k ≤ n ∧ i = .int .i64 k ∧ Hid (xs.take k = ys.take k) ∧ Below w.heap.size w wr) (fun i _ => n - (intOf i).toNat)
  case atStart => exact ⟨0, Nat.zero_le _, rfl, rfl, Below.refl _ _⟩
  case round =>
    obtain ⟨k, hk, rfl, hsame, hbl⟩ := hrel
    by_cases hlt : k < n
    · obtain ⟨x, hx⟩ : ∃ x, xs[k]? = some x := ⟨xs[k]'(by have := HNX.out; omega), List.getElem?_eq_some_iff.2 ⟨_, rfl⟩⟩
      obtain ⟨y, hy⟩ : ∃ y, ys[k]? = some y := ⟨ys[k]'(by have := HNY.out; omega), List.getElem?_eq_some_iff.2 ⟨_, rfl⟩⟩
      obtain ⟨g1, g2, g3⟩ := (HX.out.2 k x hx).below hbl HX.out.1
      obtain ⟨f1, f2, f3⟩ := (HY.out.2 k y hy).below hbl HY.out.1
      have hki : (k : Int) < (n : Int) := by omega
      have HXK := hide hx
      have HYK := hide hy
      clear hx hy
      have hnq := neq_node
      have hgd := guard_node
      go_wp2
      go_quiet (fail)
      clear hnq hgd
      cases hq : nneq x y with
      | true =>
        go_wp2
        go_ret
        refine ⟨ret_bool ?_, below_drewN hbl nq⟩
        symm
        rw [decide_eq_false_iff_not]
        intro e
        have h3 : x = y := Option.some.inj (HXK.out.symm.trans ((congrArg (fun l => l[k]?) e).trans HYK.out))
        unfold nneq at hq
        simp [h3] at hq
      | false =>
        have he : x = y := by unfold nneq at hq; simpa using hq
        go_wp2
        go_roundw
        case rel => exact ⟨k + 1, by omega, by go_num, take_sameN hsame.out HXK.out HYK.out he, below_drewN hbl nq⟩
        case measure => simp [intOf]; omega
    · go_wp2
      go_ret
      refine ⟨ret_bool ?_, hbl⟩
      have e : k = n := by omega
      have h1 := hsame.out
      rw [e] at h1
      have h2 : xs = ys := by
        rw [HNX.out] at h1
        have h3 := HNX.out.symm.trans HNY.out
        rw [List.take_length] at h1
        rw [h1, h3, List.take_length]
      rw [h2]; simp
theorem rsame_less (a b : Option Addr) (n m c d : Nat) (w : World) (h : n ≠ m) :
    Calls Tryd.prog 39 #[.slice a n c, .slice b m d] w fun e w' => e = .returned (.bool false) ∧ w' = w := by
  have h1 : ((n : Int) != (m : Int)) = true := by rw [bne_iff_ne]; omega
  go_enter Tryd.func39, Tryd.ntmps39
  go_wp2
  go_ret
  exact ⟨rfl, rfl⟩
theorem rsame_none (a b : Option Addr) (c d : Nat) (w : World) :
    Calls Tryd.prog 39 #[.slice a 0 c, .slice b 0 d] w fun e w' => e = .returned (.bool true) ∧ w' = w := by
  go_enter Tryd.func39, Tryd.ntmps39
  go_wp2
  go_loop [5] (fun i => i = .int .i64 0) (fun _ => 0)
  case atStart => rfl
  case round =>
    subst hrel
    go_wp2
    go_ret
    exact ⟨rfl, rfl⟩

theorem rsame_any (v u : Value) (xs ys : List Nd) (w : World) (hv : Nods w v xs) (hu : Nods w u ys) (hx : xs.length < 1000000) :
    Calls Tryd.prog 39 #[v, u] w fun e w' => e = .returned (.bool (decide (xs = ys))) ∧ Below w.heap.size w w' := by
  by_cases hl : xs.length = ys.length
  · rcases hv with ⟨rfl, a, c, rfl⟩ | ⟨b, o, c, rfl, hc, hr⟩
    · have hy : ys = [] := List.eq_nil_of_length_eq_zero hl.symm
      subst hy
      obtain ⟨a', c', rfl⟩ := hu.form
      refine (rsame_none a a' c c' w).mono ?_
      rintro e w' ⟨rfl, rfl⟩
      exact ⟨rfl, Below.refl _ _⟩
    · rcases hu with ⟨rfl, a', c', rfl⟩ | ⟨b', o', c', rfl, _, hr'⟩
      · have hx0 : xs = [] := List.eq_nil_of_length_eq_zero hl
        subst hx0
        refine (rsame_none (some ⟨b, o, none⟩) a' c c' w).mono ?_
        rintro e w' ⟨rfl, rfl⟩
        exact ⟨rfl, Below.refl _ _⟩
      · rw [← hl]
        exact rsame_some b o c b' o' c' xs.length xs ys w hx rfl hl hr hr'
  · have he : decide (xs = ys) = false := by rw [decide_eq_false_iff_not]; intro e; exact hl (congrArg List.length e)
    rw [he]
    obtain ⟨a, c, rfl⟩ := hv.form
    obtain ⟨a', c', rfl⟩ := hu.form
    refine (rsame_less a a' xs.length ys.length c c' w hl).mono ?_
    rintro e w' ⟨rfl, rfl⟩
    exact ⟨rfl, Below.refl _ _⟩


set_option maxHeartbeats 800000 in
theorem equal_some (b o c b' o' c' n : Nat) (xs ys : List Nd) (w : World) (hn : n < 1000000) (hnx : n = xs.length) (hny : n = ys.length) (hx : Run w b o xs) (hy : Run w b' o' ys) :
    Calls Tryd.prog 45 #[.slice (some ⟨b, o, none⟩) n c, .slice (some ⟨b', o', none⟩) n c'] w fun e w' => e = .returned (.bool (decide (xs = ys))) ∧ Below w.heap.size w w' := by
  have HX := hide hx
  have HY := hide hy
  have HNX := hide hnx
  have HNY := hide hny
  clear hx hy hnx hny
  have hne : ((n : Int) != (n : Int)) = false := by simp
  go_enter Tryd.func45, Tryd.ntmps45
  go_wp2
  go_loopw [5, 13] (fun _ i wr => ∃ k : Nat, k ≤ n ∧ i = .int .i64 k ∧ Hid (xs.take k = ys.take k) ∧ Below w.heap.size w wr) (fun _ i _ => n - (intOf i).toNat)
  case atStart => exact ⟨0, Nat.zero_le _, rfl, rfl, Below.refl _ _⟩
  case round =>
    obtain ⟨k, hk, rfl, hsame, hbl⟩ := hrel
    by_cases hlt : k < n
    · obtain ⟨x, hx⟩ : ∃ x, xs[k]? = some x := ⟨xs[k]'(by have := HNX.out; omega), List.getElem?_eq_some_iff.2 ⟨_, rfl⟩⟩
      obtain ⟨y, hy⟩ : ∃ y, ys[k]? = some y := ⟨ys[k]'(by have := HNY.out; omega), List.getElem?_eq_some_iff.2 ⟨_, rfl⟩⟩
      obtain ⟨g1, g2, g3⟩ := (HX.out.2 k x hx).below hbl HX.out.1
      obtain ⟨f1, f2, f3⟩ := (HY.out.2 k y hy).below hbl HY.out.1
      have hki : (k : Int) < (n : Int) := by omega
      have HXK := hide hx
      have HYK := hide hy
      clear hx hy
      have hnq := neq_node
      have hgd := guard_node
      go_wp2
      go_quiet (fail)
      clear hnq hgd
      cases hq : nneq x y with
      | true =>
        go_wp2
        go_ret
        refine ⟨ret_bool ?_, below_drewN hbl nq⟩
        symm
        rw [decide_eq_false_iff_not]
        intro e
        have h3 : x = y := Option.some.inj (HXK.out.symm.trans ((congrArg (fun l => l[k]?) e).trans HYK.out))
        unfold nneq at hq
        simp [h3] at hq
      | false =>
        have he : x = y := by unfold nneq at hq; simpa using hq
        go_wp2
        go_roundw
        case rel => exact ⟨k + 1, by omega, by go_num, take_sameN hsame.out HXK.out HYK.out he, below_drewN hbl nq⟩
        case measure => simp [intOf]; omega
    · go_wp2
      go_ret
      refine ⟨ret_bool ?_, hbl⟩
      have e : k = n := by omega
      have h1 := hsame.out
      rw [e] at h1
      have h2 : xs = ys := by
        rw [HNX.out] at h1
        have h3 := HNX.out.symm.trans HNY.out
        rw [List.take_length] at h1
        rw [h1, h3, List.take_length]
      rw [h2]; simp
theorem equal_less (a b : Option Addr) (n m c d : Nat) (w : World) (h : n ≠ m) :
    Calls Tryd.prog 45 #[.slice a n c, .slice b m d] w fun e w' => e = .returned (.bool false) ∧ w' = w := by
  have h1 : ((n : Int) != (m : Int)) = true := by rw [bne_iff_ne]; omega
  go_enter Tryd.func45, Tryd.ntmps45
  go_wp2
  go_ret
  exact ⟨rfl, rfl⟩
theorem equal_none (a b : Option Addr) (c d : Nat) (w : World) :
    Calls Tryd.prog 45 #[.slice a 0 c, .slice b 0 d] w fun e w' => e = .returned (.bool true) ∧ w' = w := by
  go_enter Tryd.func45, Tryd.ntmps45
  go_wp2
  go_loop [5, 13] (fun _ i => i = .int .i64 0) (fun _ _ => 0)
  case atStart => rfl
  case round =>
    subst hrel
    go_wp2
    go_ret
    exact ⟨rfl, rfl⟩

theorem equal_any (v u : Value) (xs ys : List Nd) (w : World) (hv : Nods w v xs) (hu : Nods w u ys) (hx : xs.length < 1000000) :
    Calls Tryd.prog 45 #[v, u] w fun e w' => e = .returned (.bool (decide (xs = ys))) ∧ Below w.heap.size w w' := by
  by_cases hl : xs.length = ys.length
  · rcases hv with ⟨rfl, a, c, rfl⟩ | ⟨b, o, c, rfl, hc, hr⟩
    · have hy : ys = [] := List.eq_nil_of_length_eq_zero hl.symm
      subst hy
      obtain ⟨a', c', rfl⟩ := hu.form
      refine (equal_none a a' c c' w).mono ?_
      rintro e w' ⟨rfl, rfl⟩
      exact ⟨rfl, Below.refl _ _⟩
    · rcases hu with ⟨rfl, a', c', rfl⟩ | ⟨b', o', c', rfl, _, hr'⟩
      · have hx0 : xs = [] := List.eq_nil_of_length_eq_zero hl
        subst hx0
        refine (equal_none (some ⟨b, o, none⟩) a' c c' w).mono ?_
        rintro e w' ⟨rfl, rfl⟩
        exact ⟨rfl, Below.refl _ _⟩
      · rw [← hl]
        exact equal_some b o c b' o' c' xs.length xs ys w hx rfl hl hr hr'
  · have he : decide (xs = ys) = false := by rw [decide_eq_false_iff_not]; intro e; exact hl (congrArg List.length e)
    rw [he]
    obtain ⟨a, c, rfl⟩ := hv.form
    obtain ⟨a', c', rfl⟩ := hu.form
    refine (equal_less a a' xs.length ys.length c c' w hl).mono ?_
    rintro e w' ⟨rfl, rfl⟩
    exact ⟨rfl, Below.refl _ _⟩


set_option maxHeartbeats 400000 in
theorem tsame_any (v u : Value) (xs ys : List Nd) (w : World) (hv : Nods w v xs) (hu : Nods w u ys) (hx : xs.length < 1000000) :
    Calls Tryd.prog 37 #[v, u] w fun e w' => e = .returned (.bool (decide (xs = ys))) ∧ Below w.heap.size w w' := by
  have HV := hide hv
  have HU := hide hu
  clear hv hu
  obtain ⟨d, hd⟩ : ∃ d, d = decide (xs = ys) := ⟨_, rfl⟩
  have HD := hide hd
  rw [← hd]
  clear hd
  go_enter Tryd.func37, Tryd.ntmps37
  go_wp2_with fail
  refine (equal_any v u xs ys w HV.out HU.out hx).mono ?_
  rintro e w1 ⟨rfl, hb⟩
  rw [← HD.out]
  go_wp2
  go_ret
  exact ⟨rfl, hb⟩

end Go.Proofs.YtggojmimodpfaaaDoor
