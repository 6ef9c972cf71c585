/- The walk of NarUnlike. -/
import Derived.Test.YtlepahfbbdjdgaaDoorH1
import Derived.Test.YtlepahfbbdjdgaaDoorPlainF
namespace Go.Proofs.YtlepahfbbdjdgaaDoor
open Go.RowKit

theorem may_fit {t : List Nd} (hm : mayN t = true) (h : ShortN t) : (∀ n ∈ t, FitN n) ∧ t.length ≤ 400 := by
  have ht := may_tree hm
  refine ⟨fun n hn => ?_, ht.len⟩
  have hg := ht.good n hn
  have hs := h.2 n hn
  refine ⟨?_, by omega, by omega⟩
  unfold goodB ruleB at hg
  rw [Bool.and_eq_true] at hg
  have h2 := hg.2
  unfold I64
  by_cases e1 : n.2.1 = 1
  · omega
  · rw [if_neg e1] at h2
    by_cases e2 : n.2.1 = 2 ∨ n.2.1 = 3
    · omega
    · rw [if_neg e2] at h2
      by_cases e3 : n.2.1 = 4
      · omega
      · rw [if_neg e3] at h2; cases h2
theorem lay_inj {t u : List Nd} (ht : mayN t = true) (hs : ShortN t) (hu : mayN u = true) (ks : ShortN u) : decide (layL t = layL u) = decide (t = u) := by
  obtain ⟨a, b⟩ := may_fit ht hs
  obtain ⟨c, d⟩ := may_fit hu ks
  by_cases e : t = u
  · rw [e]; simp
  · rw [decide_eq_false e, decide_eq_false]
    intro h
    exact e (lay_free a b c d (r := []) (q := []) (by rw [h])).1
theorem nodesL_8 : ∀ t : List Nd, (nodesL t).length % 8 = 0
  | [] => rfl
  | n :: t => by rw [nodesL_cons, List.length_append, nodeL_len]; have := nodesL_8 t; omega
theorem layL_8 (t : List Nd) : (layL t).length % 8 = 0 := by rw [layL_len]; have := nodesL_8 t; omega

set_option maxRecDepth 100000 in
set_option maxHeartbeats 2000000 in
theorem unlike_walk (ao : Option Addr) (n c : Nat) (t : List Nd) (ao' : Option Addr) (n' c' : Nat) (u : List Nd) (w : World) (hsh : w.ShapedOpen Tryd.prog) (ha : ArgN w ao n c t) (hn : n ≤ maxLen) (ha' : ArgN w ao' n' c' u) (hn' : n' ≤ maxLen) :
    Calls Tryd.prog 6 #[.slice ao n c, .slice ao' n' c'] w fun e w' => e = .returned (.bool true) ∧ Below w.heap.size w w' := by
  have ok := Ok.start hsh
  have HN := hide ha.nods
  have HN' := hide ha'.nods
  have hl : t.length ≤ maxLen := by rw [ha.len]; exact hn
  have hl' : u.length ≤ maxLen := by rw [ha'.len]; exact hn'
  obtain ⟨y, hy⟩ : ∃ y, greatN 40 t = y := ⟨_, rfl⟩
  obtain ⟨y', hy'⟩ : ∃ y, greatN 40 u = y := ⟨_, rfl⟩
  have HY := hide hy
  have HY' := hide hy'
  clear ha ha' hy hy' hsh
  go_enter Tryd.func6, Tryd.ntmps6
  go_wp2_with fail
  refine (greatN_ok _ 40 t y w HN.out hl (by decide) (by decide) HY.out).mono ?_
  rintro e w1 ⟨rfl, rfl⟩
  cases y with
  | true =>
    go_wp2_with fail
    refine (awake5_ok w1 w1 ok).mono ?_
    rintro e w2 ⟨rfl, ok2, hb2⟩
    go_wp2
    go_ret
    exact ⟨rfl, hb2⟩
  | false =>
    go_wp2_with fail
    refine (greatN_ok _ 40 u y' w1 HN'.out hl' (by decide) (by decide) HY'.out).mono ?_
    rintro e w2 ⟨rfl, rfl⟩
    cases y' with
    | true =>
      go_wp2_with fail
      refine (awake5_ok w2 w2 ok).mono ?_
      rintro e w3 ⟨rfl, ok3, hb3⟩
      go_wp2
      go_ret
      exact ⟨rfl, hb3⟩
    | false =>
      have HS := hide (small_short (by decide) HY.out)
      have HS' := hide (small_short (by decide) HY'.out)
      obtain ⟨x, hx⟩ : ∃ x, mayN t = x := ⟨_, rfl⟩
      obtain ⟨x', hx'⟩ : ∃ x, mayN u = x := ⟨_, rfl⟩
      have HX := hide hx
      have HX' := hide hx'
      clear hx hx'
      obtain ⟨z, hz⟩ : ∃ z, layL t = z := ⟨_, rfl⟩
      obtain ⟨z', hz'⟩ : ∃ z, layL u = z := ⟨_, rfl⟩
      obtain ⟨m, hm⟩ : ∃ m, z.length = m := ⟨_, rfl⟩
      obtain ⟨m', hm'⟩ : ∃ m, z'.length = m := ⟨_, rfl⟩
      have h8 : Int.tmod (m : Int) 8 = 0 := by rw [rem8, ← hm, ← hz, layL_8]; rfl
      have h8' : Int.tmod (m' : Int) 8 = 0 := by rw [rem8, ← hm', ← hz', layL_8]; rfl
      have HZ := hide hz
      have HZ' := hide hz'
      have HM := hide hm
      have HM' := hide hm'
      clear hz hz' hm hm'
      have hmm : m ≤ 1000000 := by
        rw [← HM.out, ← HZ.out, layL_len]
        have h1 := greatN_not HY.out
        have h3 := nodesL_max (B := 832) (t := t) (fun n hn => by have := h1.2 n hn; rw [nodeL_len]; omega)
        have h4 := h1.1
        omega
      cases x with
      | false =>
        go_wp2_with fail
        refine (lay_bad _ t w2 w2 ok HN.out HS.out HX.out).mono ?_
        rintro e w3 ⟨rfl, ok3, hb3⟩
        have HB3 := hide hb3
        have HN3 := hide (HN'.out.below hb3)
        clear hb3
        cases x' with
        | false =>
          go_wp2_with fail
          refine (lay_bad _ u w2 w3 ok3 HN3.out HS'.out HX'.out).mono ?_
          rintro e w4 ⟨rfl, ok4, hb4⟩
          have HB4 := hide (below_two HB3.out hb4)
          clear hb4
          go_wp2_with fail
          refine (awake5_ok w2 w4 ok4).mono ?_
          rintro e w5 ⟨rfl, ok5, hb5⟩
          have HB5 := hide (below_two HB4.out hb5)
          clear hb5
          go_wp2
          go_ret
          exact ⟨rfl, HB5.out⟩
        | true =>
          go_wp2_with fail
          refine (lay_good _ u z' m' w2 w3 ok3 HN3.out HS'.out HX'.out HZ'.out HM'.out).mono ?_
          rintro e w4 ⟨b4, c4, rfl, ho4, ok4, hb4⟩
          have HB4 := hide (below_two HB3.out hb4)
          clear hb4 ho4
          go_wp2_with fail
          refine (awake5_ok w2 w4 ok4).mono ?_
          rintro e w5 ⟨rfl, ok5, hb5⟩
          have HB5 := hide (below_two HB4.out hb5)
          clear hb5
          go_wp2
          go_ret
          exact ⟨rfl, HB5.out⟩
      | true =>
        go_wp2_with fail
        refine (lay_good _ t z m w2 w2 ok HN.out HS.out HX.out HZ.out HM.out).mono ?_
        rintro e w3 ⟨b3, c3, rfl, ho3, ok3, hb3⟩
        have HO3 := hide ho3
        have HB3 := hide hb3
        have HT3 := hide (HN.out.below hb3)
        have HN3 := hide (HN'.out.below hb3)
        clear hb3 ho3
        cases x' with
        | false =>
          go_wp2_with fail
          refine (lay_bad _ u w2 w3 ok3 HN3.out HS'.out HX'.out).mono ?_
          rintro e w4 ⟨rfl, ok4, hb4⟩
          have HB4 := hide (below_two HB3.out hb4)
          clear hb4
          go_wp2_with fail
          refine (awake5_ok w2 w4 ok4).mono ?_
          rintro e w5 ⟨rfl, ok5, hb5⟩
          have HB5 := hide (below_two HB4.out hb5)
          clear hb5
          go_wp2
          go_ret
          exact ⟨rfl, HB5.out⟩
        | true =>
          go_wp2_with fail
          refine (lay_good _ u z' m' w2 w3 ok3 HN3.out HS'.out HX'.out HZ'.out HM'.out).mono ?_
          rintro e w4 ⟨b4, c4, rfl, ho4, ok4, hb4⟩
          have HB4 := hide (below_two HB3.out hb4)
          have HO4 := hide ho4
          have HO3' := hide (HO3.out.below hb4)
          have HT4 := hide (HT3.out.below hb4)
          have HN4 := hide (HN3.out.below hb4)
          clear hb4 ho4
          obtain ⟨q, hq⟩ : ∃ q, decide (t = u) = q := ⟨_, rfl⟩
          have hq' : decide (z = z') = q := by rw [← HZ.out, ← HZ'.out, lay_inj HX.out HS.out HX'.out HS'.out]; exact hq
          have HQ := hide hq
          have HQ' := hide hq'
          clear hq hq'
          go_wp2_with fail
          refine (sameB_ok _ _ m _ m' _ z z' q w2 w4 ok4 HO3'.out.argAt.2 HO4.out.argAt.2 (by omega) HQ'.out).mono ?_
          rintro e w5 ⟨rfl, ok5, hb5⟩
          have HB5 := hide (below_two HB4.out hb5)
          have HT5 := hide (HT4.out.below hb5)
          have HN5 := hide (HN4.out.below hb5)
          clear hb5
          go_wp2_with fail
          refine (sameN_any _ _ t u w5 HT5.out HN5.out (by have := HS.out.1; omega)).mono ?_
          rintro e w6 ⟨rfl, hb6⟩
          have HB6 := hide (below_two HB5.out hb6)
          have ok6 := ok5.next hb6
          rw [HQ.out]
          clear hb6
          have hqq : (q == q) = true := by simp
          go_wp2_with fail
          refine (awake5_ok w2 w6 ok6).mono ?_
          rintro e w7 ⟨rfl, ok7, hb7⟩
          have HB7 := hide (below_two HB6.out hb7)
          clear hb7
          go_wp2
          go_ret
          exact ⟨rfl, HB7.out⟩
end Go.Proofs.YtlepahfbbdjdgaaDoor
