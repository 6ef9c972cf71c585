/- The walk of the statement TreeTells. -/
import Derived.Test.YtdgchinfanialaaDoorT5
import Derived.Test.YtdgchinfanialaaDoorT3
import Derived.Test.YtdgchinfanialaaDoorT1
import Derived.RegionTactic
import Derived.BigQuiet
namespace Go.Proofs.YtdgchinfanialaaDoor
open Go.RowKit

/-- The rest of a region, behind its first three operations, in the order of the text. -/
theorem wpAny_later3 {P : Program} {Q : Exit → Act → World → Prop} {o0 o1 o2 : Oper} {l : List Oper} {listed : Array Bool} {a : Act} {w : World}
    (hs : Region.noSelect (o0 :: o1 :: o2 :: l).toArray = true) (hB : Region.lexFrom .any (o0 :: o1 :: o2 :: l).toArray l.length 3 listed = true)
    (h : wpQuiet P (o0 :: o1 :: o2 :: l).toArray (fun w' => ∃ p : Later w, w' = p.w1) (fun a' => ∀ w', (∃ p : Later w, w' = p.w1) → Q .normal a' w') l a) : wpAny P .any (o0 :: o1 :: o2 :: l).toArray Q l.length listed a w := by
  refine wpAny_of_quiet (C := fun w' => ∃ p : Later w, w' = p.w1) (Q := fun a' => ∀ w', (∃ p : Later w, w' = p.w1) → Q .normal a' w') (fun _ w' hw' h => h w' hw') _ _ _ _ ⟨⟨w, Below.refl _ _⟩, rfl⟩ ?_
  refine wpAnyQ_lex hs l 3 listed a (fun j => ?_) hB h
  rw [Nat.add_comm 3 j]
  simp

set_option maxRecDepth 100000 in
set_option maxHeartbeats 1000000 in
theorem tells_great (ao : Option Addr) (n c : Nat) (ns : List Nd) (bo : Option Addr) (m d : Nat) (us : List Nd) (x : Nd) (w : World) (hsh : w.ShapedOpen Tryd.prog) (h : ArgN w ao n c ns) (hn : n ≤ maxLen) (h' : ArgN w bo m d us) (hm : m ≤ maxLen)
    (hx : x.1.size ≤ maxLen) (hy : x.2.2.size ≤ maxLen) (hg : greatN 60 ns = true ∨ greatN 60 us = true ∨ 300 < x.1.size ∨ 500 < x.2.2.size) :
    Calls Tryd.prog 3 #[.slice ao n c, .slice bo m d, .agg #[.string x.1, .int .i64 x.2.1, .string x.2.2]] w fun e w' => e = .returned (.bool true) ∧ Below w.heap.size w w' := by
  have HOK := hide (Ok.alloc (Ok.start hsh) (.cells #[.string x.1, .int .i64 x.2.1, .string x.2.2] 24))
  have HB0 := hide (below_box w (.cells #[.string x.1, .int .i64 x.2.1, .string x.2.2] 24))
  have HN := hide (h.below HB0.out).nods
  have HU := hide (h'.below HB0.out).nods
  have HLN := hide h.len
  have HLU := hide h'.len
  have HG := hide hg
  unfold maxLen at hx hy
  clear h h' hg
  go_enter Tryd.func3, Tryd.ntmps3
  cases g1 : greatN 60 ns with
  | true =>
    have G1 := hide g1
    clear g1
    go_wp2_with fail
    refine (greatN_ok _ 60 ns true _ HN.out (by rw [HLN.out]; exact hn) (by decide) (by decide) G1.out).mono ?_
    rintro e w1 ⟨rfl, rfl⟩
    go_wp2_with fail
    refine (awake2_any w _ HOK.out).mono ?_
    rintro e w2 ⟨rfl, _, hb2⟩
    have HB2 := hide (below_two HB0.out hb2)
    clear hb2
    go_wp2_with fail
    go_ret
    exact ⟨rfl, HB2.out⟩
  | false =>
    have G1 := hide g1
    clear g1
    go_wp2_with fail
    refine (greatN_ok _ 60 ns false _ HN.out (by rw [HLN.out]; exact hn) (by decide) (by decide) G1.out).mono ?_
    rintro e w1 ⟨rfl, rfl⟩
    cases g2 : greatN 60 us with
    | true =>
      have G2 := hide g2
      clear g2
      go_wp2_with fail
      refine (greatN_ok _ 60 us true _ HU.out (by rw [HLU.out]; exact hm) (by decide) (by decide) G2.out).mono ?_
      rintro e w1 ⟨rfl, rfl⟩
      go_wp2_with fail
      refine (awake2_any w _ HOK.out).mono ?_
      rintro e w2 ⟨rfl, _, hb2⟩
      have HB2 := hide (below_two HB0.out hb2)
      clear hb2
      go_wp2_with fail
      go_ret
      exact ⟨rfl, HB2.out⟩
    | false =>
      have G2 := hide g2
      clear g2
      go_wp2_with fail
      refine (greatN_ok _ 60 us false _ HU.out (by rw [HLU.out]; exact hm) (by decide) (by decide) G2.out).mono ?_
      rintro e w1 ⟨rfl, rfl⟩
      by_cases hp : 300 < x.1.size
      · have hp' : (300 : Int) < (x.1.size : Int) := by omega
        go_wp2_with fail
        refine (awake2_any w _ HOK.out).mono ?_
        rintro e w2 ⟨rfl, _, hb2⟩
        have HB2 := hide (below_two HB0.out hb2)
        clear hb2
        go_wp2_with fail
        go_ret
        exact ⟨rfl, HB2.out⟩
      · have hp' : (x.1.size : Int) ≤ 300 := by omega
        have hq' : (500 : Int) < (x.2.2.size : Int) := by
          rcases HG.out with k | k | k | k
          · rw [G1.out] at k; cases k
          · rw [G2.out] at k; cases k
          · omega
          · omega
        go_wp2_with fail
        refine (awake2_any w _ HOK.out).mono ?_
        rintro e w2 ⟨rfl, _, hb2⟩
        have HB2 := hide (below_two HB0.out hb2)
        clear hb2
        go_wp2_with fail
        go_ret
        exact ⟨rfl, HB2.out⟩

theorem greatN_small {ns : List Nd} (h : greatN 60 ns = false) : ns.length ≤ 60 ∧ (∀ z ∈ ns, z.1.size < 999999) ∧ (∀ z ∈ ns, z.2.2.size ≤ 1000) ∧ ∀ z ∈ ns, z.1.size < 900000 ∧ z.2.2.size < 900000 := by
  obtain ⟨h1, h2⟩ := greatN_not h
  refine ⟨by omega, fun z hz => ?_, fun z hz => ?_, fun z hz => ?_⟩ <;> have := h2 z hz <;> omega

theorem Alike.count {l m : List Nd} (h : Alike l m) (x : Nd) : @List.count Nd instBEqOfDecidableEq x l = @List.count Nd instBEqOfDecidableEq x m := by
  have k := h x.1
  have e : ∀ r : List Nd, @List.count Nd instBEqOfDecidableEq x (r.filter fun z => decide (z.1 = x.1)) = @List.count Nd instBEqOfDecidableEq x r := fun r => @List.count_filter Nd instBEqOfDecidableEq inferInstance _ _ _ (by simp)
  rw [← e l, ← e m, k]
theorem Alike.length {l m : List Nd} (h : Alike l m) : l.length = m.length := ((@List.perm_iff_count Nd instBEqOfDecidableEq inferInstance l m).2 h.count).length_eq

set_option maxRecDepth 100000 in
set_option maxHeartbeats 4000000 in
theorem tells_main (ao : Option Addr) (n c : Nat) (ns : List Nd) (bo : Option Addr) (m d : Nat) (us : List Nd) (x : Nd) (w : World) (hsh : w.ShapedOpen Tryd.prog) (h : ArgN w ao n c ns) (h' : ArgN w bo m d us)
    (hg1 : greatN 60 ns = false) (hg2 : greatN 60 us = false) (hx : x.1.size ≤ 300) (hy : x.2.2.size ≤ 500) :
    Calls Tryd.prog 3 #[.slice ao n c, .slice bo m d, .agg #[.string x.1, .int .i64 x.2.1, .string x.2.2]] w fun e w' => e = .returned (.bool true) ∧ Below w.heap.size w w' := by
  have HB0 := hide (below_box w (.cells #[.string x.1, .int .i64 x.2.1, .string x.2.2] 24))
  have HA := hide h
  have HU := hide h'
  have HAT := hide ((Run.one w x).2 0 x rfl)
  have HLN := hide h.len
  have HLU := hide h'.len
  have G1 := hide hg1
  have G2 := hide hg2
  have hn60 : n ≤ 60 := by have := (greatN_small hg1).1; rw [h.len] at this; exact this
  have hm60 : m ≤ 60 := by have := (greatN_small hg2).1; rw [h'.len] at this; exact this
  have hx' : (x.1.size : Int) ≤ 300 := by omega
  have hy' : (x.2.2.size : Int) ≤ 500 := by omega
  clear h h' hg1 hg2
  go_enter Tryd.func3, Tryd.ntmps3
  go_wp2_with fail
  refine (greatN_ok _ 60 ns false _ (HA.out.below HB0.out).nods (by rw [HLN.out]; unfold maxLen; omega) (by decide) (by decide) G1.out).mono ?_
  rintro e w1 ⟨rfl, rfl⟩
  go_wp2_with fail
  refine (greatN_ok _ 60 us false _ (HU.out.below HB0.out).nods (by rw [HLU.out]; unfold maxLen; omega) (by decide) (by decide) G2.out).mono ?_
  rintro e w1 ⟨rfl, rfl⟩
  go_wp2_with fail
  refine (lendN_any ao n c ns _ (HA.out.below HB0.out) (by omega)).mono ?_
  rintro e w1 ⟨rfl, hl1, hb1⟩
  obtain ⟨g, hgg⟩ : ∃ g, g = (w.alloc (.cells #[.string x.1, .int .i64 x.2.1, .string x.2.2] 24)).heap.size := ⟨_, rfl⟩
  rw [← hgg] at hl1 ⊢
  have HL1 := hide hl1
  have HB1 := hide (below_two HB0.out hb1)
  have HAT1 := hide (HAT.out.below hb1 (by simp))
  have hgw : w.heap.size < g := by rw [hgg]; simp
  clear hl1 hb1 hgg HAT HB0
  go_wp2_with fail
  refine (sort_ok (some ⟨g, 0, none⟩) n (n + 3) ns w1 (HL1.out.arg HLN.out.symm) (by omega)).mono ?_
  rintro e w2 ⟨v, es, rfl, ho2, hs2, hal2, hb2⟩
  have HO2 := hide ho2
  have HS2 := hide hs2
  have HAL2 := hide hal2
  have HL2 := hide (HL1.out.below hb2 HL1.out.lt)
  have hgl : g < w1.heap.size := HL1.out.lt
  have HAT2 := hide (HAT1.out.below hb2 (by omega))
  have HB2 := hide (below_two HB1.out hb2)
  have hz12 : w1.heap.size ≤ w2.heap.size := hb2.size
  clear ho2 hs2 hal2 hb2 HAT1 HL1
  go_wp2_with fail
  refine wp_region_any (by kernel_rfl) ?_
  change wpAny _ _ _ _ _ _ _ (World.drew _)
  refine wpAny_take (i := 0) (v := v) rfl (by kernel_rfl) (by kernel_rfl) (by kernel_rfl) (fun _ _ _ h => h) (Or.inl ⟨by rfl, ?_⟩) ?_
  · intro w; go_simp
  refine wpAny_take (i := 1) (v := .slice ao n c) rfl (by kernel_rfl) (by kernel_rfl) (by kernel_rfl) (fun _ _ _ h => h) (Or.inl ⟨by rfl, ?_⟩) ?_
  · intro w; go_simp
  refine wpAny_ready (rs := [2]) (by kernel_rfl) (by simp) (AllReady.cons rfl ?_ AllReady.nil)
  intro K hK
  go_simp
  refine (rsort_any (.slice ao n c) ns w2.drew ((HA.out.below HB2.out).below (Below.refl _ w2).drew).nods (by rw [HLN.out]; omega)).mono ?_
  rintro e w4 ⟨v4, es4, rfl, ho4, hs4, hal4, hb4⟩
  obtain rfl : es4 = es := srtd_unique hs4 HS2.out (hal4.symm.trans HAL2.out)
  have hle : es4.length = n := by rw [← HAL2.out.length]; exact HLN.out
  have HLE := hide hle
  have hb24 : Below w2.heap.size w2 w4 := ((Below.refl _ w2).drew).trans hb4
  have HP4 := hide ho4
  have HO4 := hide (HO2.out.below hb24)
  have HL4 := hide (HL2.out.below hb24 (by omega))
  have HAT4 := hide (HAT2.out.below hb24 (by omega))
  have HB4 := hide (below_two HB2.out hb24)
  have hz4 : w2.heap.size ≤ w4.heap.size := hb24.size
  clear ho4 hs4 hal4 hb4 hb24 HO2 HL2 HAT2 HB2 HS2 HAL2 hle
  obtain ⟨GB, hGB⟩ : ∃ GB, goodB x = GB := ⟨_, rfl⟩
  obtain ⟨BN, hBN⟩ : ∃ BN, badN ns = BN := ⟨_, rfl⟩
  obtain ⟨MB, hMB⟩ : ∃ MB, mayN ns = MB := ⟨_, rfl⟩
  obtain ⟨SB, hSB⟩ : ∃ SB, decide (ns = us) = SB := ⟨_, rfl⟩
  obtain ⟨SZ, hSZ⟩ : ∃ SZ, (sizeN ns : Int) = SZ := ⟨_, rfl⟩
  have HOK : Hid (∀ p : Later w4, Ok w p.w1) := fun p => ⟨hsh, below_two HB4.out p.below⟩
  have HIN : Hid (∀ p : Later w4, Nods p.w1 (.slice (some ⟨g, 0, none⟩) n (n + 3)) ns) := fun p => ((HL4.out.arg HLN.out.symm).below p.below).nods
  have HTN : Hid (∀ p : Later w4, Nods p.w1 (.slice ao n c) ns) := fun p => (HA.out.below (below_two HB4.out p.below)).nods
  have HUN : Hid (∀ p : Later w4, Nods p.w1 (.slice bo m d) us) := fun p => (HU.out.below (below_two HB4.out p.below)).nods
  have HC1 : Hid (∀ p : Later w4, Calls Tryd.prog 11 #[v, v4] p.w1 fun e w' => e = .returned (.bool true) ∧ Below p.w1.heap.size p.w1 w') := fun p =>
    (sameN_any v v4 es4 es4 p.w1 (HO4.out.nods.below p.below) (HP4.out.nods.below p.below) (by rw [HLE.out]; omega)).mono fun e w' ⟨q1, q2⟩ => ⟨by rw [q1, decide_eq_true rfl], q2⟩
  have HC2 : Hid (∀ p : Later w4, Calls Tryd.prog 13 #[.agg #[.string x.1, .int .i64 x.2.1, .string x.2.2]] p.w1 fun e w' => e = .returned (.bool GB) ∧ Below p.w1.heap.size p.w1 w') := fun p =>
    (good_ok x GB w p.w1 (HOK.out p) (by omega) hGB).mono fun e w' ⟨q1, _, q3⟩ => ⟨q1, q3⟩
  have HC3 : Hid (∀ p : Later w4, Calls Tryd.prog 14 #[.agg #[.string x.1, .int .i64 x.2.1, .string x.2.2]] p.w1 fun e w' => e = .returned (.bool GB) ∧ Below p.w1.heap.size p.w1 w') := fun p =>
    (rgood_ok x GB w p.w1 (HOK.out p) (by omega) (by omega) hGB).mono fun e w' ⟨q1, _, q3⟩ => ⟨q1, q3⟩
  have HC4 : Hid (∀ p : Later w4, Calls Tryd.prog 15 #[.slice (some ⟨g, 0, none⟩) n (n + 3)] p.w1 fun e w' => e = .returned (.int .i64 BN) ∧ Below p.w1.heap.size p.w1 w') := fun p =>
    (bad_ok _ ns BN w p.w1 (HOK.out p) (greatN_small G1.out).2.1 (HIN.out p) (by rw [HLN.out]; omega) hBN).mono fun e w' ⟨q1, _, q3⟩ => ⟨q1, q3⟩
  have HC5 : Hid (∀ p : Later w4, Calls Tryd.prog 16 #[.slice ao n c] p.w1 fun e w' => e = .returned (.int .i64 BN) ∧ Below p.w1.heap.size p.w1 w') := fun p =>
    (rbad_ok _ ns BN w p.w1 (HOK.out p) (greatN_small G1.out).2.2.2 (HTN.out p) (by rw [HLN.out]; omega) hBN).mono fun e w' ⟨q1, _, q3⟩ => ⟨q1, q3⟩
  have HC6 : Hid (∀ p : Later w4, Calls Tryd.prog 17 #[.slice (some ⟨g, 0, none⟩) n (n + 3)] p.w1 fun e w' => e = .returned (.bool MB) ∧ Below p.w1.heap.size p.w1 w') := fun p =>
    (mayT_ok _ ns MB w p.w1 (HOK.out p) (greatN_small G1.out).2.1 (HIN.out p) (by rw [HLN.out]; omega) hMB).mono fun e w' ⟨q1, _, q3⟩ => ⟨q1, q3⟩
  have HC7 : Hid (∀ p : Later w4, Calls Tryd.prog 18 #[.slice ao n c] p.w1 fun e w' => e = .returned (.bool MB) ∧ Below p.w1.heap.size p.w1 w') := fun p =>
    (rmayT_ok _ ns MB w p.w1 (HOK.out p) (greatN_small G1.out).2.2.2 (HTN.out p) (by rw [HLN.out]; omega) hMB).mono fun e w' ⟨q1, _, q3⟩ => ⟨q1, q3⟩
  have HC8 : Hid (∀ p : Later w4, Calls Tryd.prog 19 #[.slice (some ⟨g, 0, none⟩) n (n + 3), .slice bo m d] p.w1 fun e w' => e = .returned (.bool SB) ∧ Below p.w1.heap.size p.w1 w') := fun p =>
    (tsame_any _ _ ns us p.w1 (HIN.out p) (HUN.out p) (by rw [HLN.out]; omega)).mono fun e w' ⟨q1, q2⟩ => ⟨by rw [q1, hSB], q2⟩
  have HC9 : Hid (∀ p : Later w4, Calls Tryd.prog 20 #[.slice ao n c, .slice bo m d] p.w1 fun e w' => e = .returned (.bool SB) ∧ Below p.w1.heap.size p.w1 w') := fun p =>
    (rsame_any _ _ ns us p.w1 (HTN.out p) (HUN.out p) (by rw [HLN.out]; omega)).mono fun e w' ⟨q1, q2⟩ => ⟨by rw [q1, hSB], q2⟩
  have HC10 : Hid (∀ p : Later w4, Calls Tryd.prog 21 #[.slice (some ⟨g, 0, none⟩) n (n + 3)] p.w1 fun e w' => e = .returned (.int .i64 SZ) ∧ Below p.w1.heap.size p.w1 w') := fun p =>
    (size_any _ ns p.w1 (HIN.out p) (by rw [HLN.out]; omega) (greatN_small G1.out).2.2.1).mono fun e w' ⟨q1, q2⟩ => ⟨by rw [q1, hSZ], q2⟩
  have HC11 : Hid (∀ p : Later w4, Calls Tryd.prog 22 #[.slice ao n c] p.w1 fun e w' => e = .returned (.int .i64 SZ) ∧ Below p.w1.heap.size p.w1 w') := fun p =>
    (rsize_any _ ns p.w1 (HTN.out p) (by rw [HLN.out]; omega) (greatN_small G1.out).2.2.1).mono fun e w' ⟨q1, q2⟩ => ⟨by rw [q1, hSZ], q2⟩
  have e1 : (GB == GB) = true := by simp
  have e2 : (BN == BN) = true := by simp
  have e3 : (MB == MB) = true := by simp
  have e4 : (SB == SB) = true := by simp
  have e5 : (SZ == SZ) = true := by simp
  have hwb : w.heap.size < w4.heap.size := by omega
  have f1 : ∀ p : Later w4, p.w1.cell? ⟨w.heap.size, 0, none⟩ = some (.string x.1) := fun p => p.cell hwb HAT4.out.path
  have f2 : ∀ p : Later w4, p.w1.cell? ⟨w.heap.size, 1, none⟩ = some (.int .i64 x.2.1) := fun p => p.cell hwb HAT4.out.kind
  have f3 : ∀ p : Later w4, p.w1.cell? ⟨w.heap.size, 2, none⟩ = some (.string x.2.2) := fun p => p.cell hwb HAT4.out.data
  have hne := later_one w4
  clear hGB hBN hMB hSB hSZ HOK HIN HTN HUN HAT4 HP4
  refine hK _ _ ?_
  clear hK K
  refine wpAny_later3 (by kernel_rfl) (by kernel_rfl) ?_
  repeat (first
    | go_big_quiet_step ((first
      | (go_at_call 11; exact Calls.later_of (HC1.out _))
      | (go_at_call 13; exact Calls.later_of (HC2.out _))
      | (go_at_call 14; exact Calls.later_of (HC3.out _))
      | (go_at_call 15; exact Calls.later_of (HC4.out _))
      | (go_at_call 16; exact Calls.later_of (HC5.out _))
      | (go_at_call 17; exact Calls.later_of (HC6.out _))
      | (go_at_call 18; exact Calls.later_of (HC7.out _))
      | (go_at_call 19; exact Calls.later_of (HC8.out _))
      | (go_at_call 20; exact Calls.later_of (HC9.out _))
      | (go_at_call 21; exact Calls.later_of (HC10.out _))
      | (go_at_call 22; exact Calls.later_of (HC11.out _)))))
  refine wpQuiet_nil ?_
  intro W5 hw'
  have hbq := later_below hw'
  clear hw'
  have HB5 := hide (below_two HB4.out hbq)
  have HO5 := hide (HO4.out.below hbq)
  have HL5 := hide (HL4.out.below hbq (by omega))
  have hz5 : w4.heap.size ≤ W5.heap.size := hbq.size
  clear hbq f1 f2 f3 HC1 HC2 HC3 HC4 HC5 HC6 HC7 HC8 HC9 HC10 HC11 HO4 HL4 HB4 e1 e2 e3 e4 e5
  go_wp2_with fail
  refine (overN_ok v es4 w1.heap.size W5 HO5.out (by omega) (by rw [HLE.out]; omega)).mono ?_
  rintro e w6 ⟨rfl, hg6⟩
  have hb6 := HO5.out.grownBelow hg6 (by omega)
  have hz1 : w.heap.size ≤ w1.heap.size := HB1.out.size
  have HB6 := hide (HB5.out.trans (hb6.mono hz1))
  have HL6 := hide (HL5.out.below hb6 hgl)
  clear hg6 hb6 HL5 HO5 HB5
  go_wp2_with fail
  refine (keptN_any ao g n c ns w6 HL6.out (HA.out.below HB6.out) (by omega)).mono ?_
  rintro e w7 ⟨rfl, hb7⟩
  have HB7 := hide (below_two HB6.out hb7)
  clear hb7
  go_wp2_with fail
  refine (awake2_any w w7 ⟨hsh, HB7.out⟩).mono ?_
  rintro e w8 ⟨rfl, _, hb8⟩
  have HB8 := hide (below_two HB7.out hb8)
  clear hb8
  go_wp2_with fail
  go_ret
  exact ⟨rfl, HB8.out⟩

theorem tells_walk (ao : Option Addr) (n c : Nat) (ns : List Nd) (bo : Option Addr) (m d : Nat) (us : List Nd) (x : Nd) (w : World) (hsh : w.ShapedOpen Tryd.prog) (h : ArgN w ao n c ns) (hn : n ≤ maxLen) (h' : ArgN w bo m d us) (hm : m ≤ maxLen)
    (hx : x.1.size ≤ maxLen) (hy : x.2.2.size ≤ maxLen) :
    Calls Tryd.prog 3 #[.slice ao n c, .slice bo m d, .agg #[.string x.1, .int .i64 x.2.1, .string x.2.2]] w fun e w' => e = .returned (.bool true) ∧ Below w.heap.size w w' := by
  by_cases hg : greatN 60 ns = true ∨ greatN 60 us = true ∨ 300 < x.1.size ∨ 500 < x.2.2.size
  · exact tells_great ao n c ns bo m d us x w hsh h hn h' hm hx hy hg
  · refine tells_main ao n c ns bo m d us x w hsh h h' ?_ ?_ ?_ ?_
    · cases k : greatN 60 ns with
      | true => exact absurd (.inl k) hg
      | false => rfl
    · cases k : greatN 60 us with
      | true => exact absurd (.inr (.inl k)) hg
      | false => rfl
    · exact Nat.le_of_not_lt fun k => hg (.inr (.inr (.inl k)))
    · exact Nat.le_of_not_lt fun k => hg (.inr (.inr (.inr k)))
end Go.Proofs.YtdgchinfanialaaDoor
