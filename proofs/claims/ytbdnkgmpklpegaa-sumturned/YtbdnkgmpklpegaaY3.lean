/- The walk of SumTurned. -/
import Derived.Test.YtbdnkgmpklpegaaZ3
import Derived.RegionTactic
namespace Go.Proofs.Ytbdnkgmpklpegaa
open Go.RowKit

def lowN (x : Int) (n : Nat) : Nat := (IntKind.u64.wrap x % n).toNat
theorem lowN_lt (x : Int) {n : Nat} (h0 : 0 < n) : lowN x n < n := by
  have h3 : (0 : Int) ≤ IntKind.u64.wrap x % n := Int.emod_nonneg _ (by omega)
  have h4 : IntKind.u64.wrap x % n < n := Int.emod_lt_of_pos _ (by omega)
  unfold lowN
  omega
set_option maxHeartbeats 800000 in
theorem lowV_ok (x : Int) (n r : Nat) (w : World) (h0 : 0 < n) (hn : n < 1000000000) (hr : lowN x n = r) :
    Calls Try.prog 17 #[.int .i64 x, .int .i64 n] w fun e w' => e = .returned (.int .i64 r) ∧ w' = w := by
  have hu : IntKind.u64.wrap (n : Int) = (n : Int) := by rw [IntKind.wrap_u64]; omega
  have hz : ((n : Int) == 0) = false := by rw [beq_eq_false_iff_ne]; omega
  go_enter Try.func17, Try.ntmps17
  go_wp2
  go_ret
  have h1 : (0 : Int) ≤ IntKind.u64.wrap x := by rw [IntKind.wrap_u64]; omega
  have h2 : (IntKind.u64.wrap x).tmod n = IntKind.u64.wrap x % n := Int.tmod_eq_emod_of_nonneg h1
  have h3 : (0 : Int) ≤ IntKind.u64.wrap x % n := Int.emod_nonneg _ (by omega)
  have h4 : IntKind.u64.wrap x % n < n := Int.emod_lt_of_pos _ (by omega)
  refine ⟨ret_int ?_, rfl⟩
  subst hr
  unfold lowN
  rw [h2, IntWalk.wrap64_in _ (by omega)]
  omega
/-- A byte turned by a number from 1 to 255. -/
def turnB (v : UInt8) (r : Nat) : UInt8 := v ^^^ UInt8.ofNat (1 + r)
theorem turnB_ne (v : UInt8) {r : Nat} (hr : r < 255) : v ≠ turnB v r := by
  intro e
  have h := congrArg UInt8.toNat e
  unfold turnB at h
  rw [UInt8.toNat_xor, UInt8.toNat_ofNat', Nat.mod_eq_of_lt (by omega)] at h
  have h2 : v.toNat ^^^ v.toNat = v.toNat ^^^ (v.toNat ^^^ (1 + r)) := by rw [← h]
  rw [Nat.xor_self, ← Nat.xor_assoc, Nat.xor_self, Nat.zero_xor] at h2
  omega
theorem turnB_val (v : UInt8) {r : Nat} (hr : r < 255) : bits .xor .u8 (v.toNat : Int) (1 + (r : Int)) = ((turnB v r).toNat : Int) := by
  have h := u8_xor_nat v.toNat (1 + r) v.toNat_lt (by omega)
  unfold turnB
  rw [UInt8.toNat_xor, UInt8.toNat_ofNat', Nat.mod_eq_of_lt (by omega)]
  rw [← h, Int.natCast_add]
  rfl

set_option maxRecDepth 100000 in
set_option maxHeartbeats 400000 in
theorem turned_walk (ao : Option Addr) (n c : Nat) (l : List UInt8) (at' x : Int) (g h : Nat) (w : World) (ha : ArgB w ao n c l) (hg : g < 18446744073709551616) (hh : h < 18446744073709551616) :
    Calls Try.prog 5 #[.slice ao n c, .int .i64 at', .int .i64 x, .int .u64 g, .int .u64 h] w fun e w' => e = .returned (.bool true) ∧ Below w.heap.size w w' := by
  have HA := hide ha
  have HN := hide ha.len
  clear ha
  go_enter Try.func5, Try.ntmps5
  by_cases h3 : 300 < n
  · have h3' : (300 : Int) < (n : Int) := by omega
    go_wp2_with fail
    refine (awake6_ok w).mono ?_
    rintro e w1 ⟨rfl, hb1⟩
    go_wp2
    go_ret
    exact ⟨rfl, hb1⟩
  · have h3' : (n : Int) ≤ 300 := by omega
    by_cases h0 : n = 0
    · have h0' : ((n : Int) == 0) = true := by rw [h0]; rfl
      clear h0
      go_wp2_with fail
      refine (awake6_ok w).mono ?_
      rintro e w1 ⟨rfl, hb1⟩
      go_wp2
      go_ret
      exact ⟨rfl, hb1⟩
    · have h0' : ((n : Int) == 0) = false := by rw [beq_eq_false_iff_ne]; omega
      have hn0 : 0 < n := by omega
      clear h0
      go_wp2_with (at_builtin; refine wpList_append_bytes rfl _ _ rfl w.heap.size _ [] rfl (OwnB.nil _ _) _ _ _ l rfl HA.out 0 rfl l rfl ?c1 (Nat.le_refl _) ?_)
      case c1 => omega
      intro b1 c1 w1 ho1 hl1
      have hb1 := hl1.below (OwnB.nil w.heap.size w) (Nat.le_refl _)
      clear hl1
      obtain ⟨bg, rfl, hbg, hbw⟩ : ∃ bg, b1 = some ⟨bg, 0, none⟩ ∧ w.heap.size ≤ bg ∧ bg < w1.heap.size := by
        have hp := ho1.argAt.2.plain hn0
        rcases ho1.2 with ⟨e, e2⟩ | ⟨bg, cap, cur, e, hle, hgt, _⟩
        · obtain ⟨b, o, e3, _⟩ := hp
          rw [e3] at e
          cases e
        · simp only [Value.slice.injEq] at e
          exact ⟨bg, e.1, hle, (Array.getElem?_eq_some_iff.1 hgt).1⟩
      have HO := hide ho1
      have HBW := hide hb1
      obtain ⟨r, hr⟩ : ∃ r, lowN at' n = r := ⟨_, rfl⟩
      obtain ⟨q, hq⟩ : ∃ q, lowN x 255 = q := ⟨_, rfl⟩
      have hrn : r < n := by rw [← hr]; exact lowN_lt _ hn0
      have hq5 : q < 255 := by rw [← hq]; exact lowN_lt _ (by decide)
      have HR := hide hr
      have HQ := hide hq
      obtain ⟨v, hv⟩ : ∃ v, l[r]? = some v := ⟨l[r]'(by have := HN.out; omega), List.getElem?_eq_some_iff.2 ⟨_, rfl⟩⟩
      have HV := hide hv
      have hcell : w1.cell? ⟨bg, r, none⟩ = some (.int .u8 v.toNat) := by
        have := ho1.argAt.2.at hv
        rwa [Nat.zero_add] at this
      have hfr : w1.frozen? ⟨bg, r, none⟩ = false := by
        have h1 : w1.ownsRow w.heap.size 5 1 (.slice (some ⟨bg, 0, none⟩) n c1) l.length (bcells l) := ho1
        rw [HN.out] at h1
        exact World.ownsRow.frozenAt h1 r
      have hri : (r : Int) < (n : Int) := by omega
      have HC := hide hcell
      clear hr hq hv ho1 hb1 hcell
      have hcd : w1.drew.cell? ⟨bg, r, none⟩ = some (.int .u8 v.toNat) := HC.out
      have hfd : w1.drew.frozen? ⟨bg, r, none⟩ = false := hfr
      have hq1 : IntKind.i64.wrap (1 + (q : Int)) = 1 + (q : Int) := by rw [IntKind.wrap_i64]; omega
      have hq2 : IntKind.u8.wrap (1 + (q : Int)) = 1 + (q : Int) := by rw [IntKind.wrap_u8']; omega
      have HT := hide (turnB_val v hq5)
      go_wp2_with fail
      refine wp_region_any (by kernel_rfl) ?_
      change wpAny _ _ _ _ _ _ _ (World.drew _)
      refine wpAny_take (i := 0) (v := .slice (some ⟨bg, 0, none⟩) n c1) rfl (by kernel_rfl) (by kernel_rfl) (by kernel_rfl) (fun _ _ _ h => h) (Or.inl ⟨by rfl, ?_⟩) ?_
      · intro w'; go_simp
      refine wpAny_take (i := 1) (v := .int .i64 at') rfl (by kernel_rfl) (by kernel_rfl) (by kernel_rfl) (fun _ _ _ h => h) (Or.inl ⟨by rfl, ?_⟩) ?_
      · intro w'; go_simp
      refine wpAny_take (i := 2) (v := .slice (some ⟨bg, 0, none⟩) n c1) rfl (by kernel_rfl) (by kernel_rfl) (by kernel_rfl) (fun _ _ _ h => h) (Or.inl ⟨by rfl, ?_⟩) ?_
      · intro w'; go_simp
      refine wpAny_take (i := 3) (v := .int .i64 n) rfl (by kernel_rfl) (by kernel_rfl) (by kernel_rfl) (fun _ _ _ h => h) (Or.inl ⟨by rfl, ?_⟩) ?_
      · intro w'; go_simp
      refine wpAny_take (i := 7) (v := .int .i64 x) rfl (by kernel_rfl) (by kernel_rfl) (by kernel_rfl) (fun _ _ _ h => h) (Or.inl ⟨by rfl, ?_⟩) ?_
      · intro w'; go_simp
      refine wpAny_ready (rs := [4]) (by kernel_rfl) (by simp) (AllReady.cons rfl ?_ AllReady.nil)
      intro K hK
      go_simp
      refine (lowV_ok at' n r w1.drew hn0 (by omega) HR.out).mono ?_
      rintro e w2 ⟨rfl, rfl⟩
      refine hK _ _ ?_
      clear hK K
      refine wpAny_take (i := 5) (v := .pointer (some ⟨bg, r, none⟩)) rfl (by kernel_rfl) (by kernel_rfl) (by kernel_rfl) (fun _ _ _ h => h) (Or.inl ⟨by rfl, ?_⟩) ?_
      · intro w'; go_simp
      refine wpAny_ready (rs := [6, 8]) (by kernel_rfl) (by simp) (AllReady.cons rfl ?_ (AllReady.cons rfl ?_ AllReady.nil))
      · intro K hK
        go_simp
        refine hK _ _ ?_
        clear hK K
        refine wpAny_ready (rs := [8]) (by kernel_rfl) (by simp) (AllReady.cons rfl ?_ AllReady.nil)
        intro K hK
        go_simp
        refine (lowV_ok x 255 q w1.drew (by decide) (by decide) HQ.out).mono ?_
        rintro e w2 ⟨rfl, rfl⟩
        refine hK _ _ ?_
        clear hK K
        refine wpAny_take (i := 9) (v := .int .i64 (1 + q)) rfl (by kernel_rfl) (by kernel_rfl) (by kernel_rfl) (fun _ _ _ h => h) (Or.inl ⟨by rfl, ?_⟩) ?_
        · intro w'; go_simp
        refine wpAny_take (i := 10) (v := .int .u8 (1 + q)) rfl (by kernel_rfl) (by kernel_rfl) (by kernel_rfl) (fun _ _ _ h => h) (Or.inl ⟨by rfl, ?_⟩) ?_
        · intro w'; go_simp
        refine wpAny_take (i := 11) (v := .int .u8 (turnB v q).toNat) rfl (by kernel_rfl) (by kernel_rfl) (by kernel_rfl) (fun _ _ _ h => h) (Or.inl ⟨by rfl, ?_⟩) ?_
        · intro w'; go_simp; exact HT.out
        refine wpAny_take (i := 12) (v := .pointer (some ⟨bg, r, none⟩)) rfl (by kernel_rfl) (by kernel_rfl) (by kernel_rfl) (fun _ _ _ h => h) (Or.inl ⟨by rfl, ?_⟩) ?_
        · intro w'; go_simp
        refine wpAny_ready (rs := [13]) (by kernel_rfl) (by simp) (AllReady.cons rfl ?_ AllReady.nil)
        intro K hK
        go_simp
        refine hK _ _ ?_
        clear hK K
        refine wpAny_done (by kernel_rfl) ?_ _
        obtain ⟨W2, hW2⟩ : ∃ W, W = (w1.setCell ⟨bg, r, none⟩ (.int .u8 (turnB v q).toNat)).drew := ⟨_, rfl⟩
        obtain ⟨l', hl'⟩ : ∃ l', l' = l.set r (turnB v q) := ⟨_, rfl⟩
        have HNL : Hid (l'.length = n) := by rw [hl', List.length_set]; exact HN.out
        have HB2 : Hid (Below w.heap.size w W2) := by rw [hW2]; exact (HBW.out.setCell (p := ⟨bg, r, none⟩) hbg _).drew
        have HO2 : Hid (ArgB W2 (some ⟨bg, 0, none⟩) n c1 l') := by
          have h1 := (HO.out.stored HN.out.symm r (turnB v q)).argAt.2
          rw [hW2, hl']
          exact h1.below ((Below.refl _ _).drew)
        have HNE : Hid (ofH l ≠ ofH l') := by rw [hl']; exact sum_turned HV.out (turnB_ne v hq5)
        have HA2 := hide (HA.out.below HB2.out)
        rw [← hW2]
        clear hW2 hl' hcd hfd hq1 hq2 HT HC hfr HO HBW
        obtain ⟨z1, hz1⟩ : ∃ z, ofH l = z := ⟨_, rfl⟩
        obtain ⟨z2, hz2⟩ : ∃ z, ofH l' = z := ⟨_, rfl⟩
        have hzz : ((z1 : Int) != (z2 : Int)) = true := by
          have hn := HNE.out
          rw [hz1, hz2] at hn
          rw [bne_iff_ne]; omega
        obtain ⟨s, hs⟩ : ∃ s, Hog.mk (hexL g) = s := ⟨_, rfl⟩
        obtain ⟨t, ht⟩ : ∃ t, Hog.mk (hexL h) = t := ⟨_, rfl⟩
        obtain ⟨eB, heB⟩ : ∃ e, decide (g = h) = e := ⟨_, rfl⟩
        obtain ⟨lB, hlB⟩ : ∃ e, decide (g < h) = e := ⟨_, rfl⟩
        have e1 : (s.toList == t.toList) = eB := by
          rw [← hs, ← ht, Hog.mk_toList, Hog.mk_toList, ← heB, Bool.eq_iff_iff, beq_iff_eq, decide_eq_true_eq]
          exact hex_same hg hh
        have e2 : ((g : Int) == (h : Int)) = eB := by
          rw [← heB, Bool.eq_iff_iff, beq_iff_eq, decide_eq_true_eq]; omega
        have e3 : Op.bytesLess s.toList t.toList = lB := by
          rw [← hs, ← ht, Hog.mk_toList, Hog.mk_toList, ← hlB]
          exact hex_less hg hh
        have e5 : s.size = 16 := by rw [← hs, Hog.mk_size]; exact hexL_len g
        have HS := hide hs
        have HTT := hide ht
        have HZ1 := hide hz1
        have HZ2 := hide hz2
        clear hs ht hz1 hz2 heB HNE
        have HW1 := hide (ArgP.one HA2.out)
        have hbx := below_alloc W2 (.cells #[.slice ao n c] 22)
        have HAB1 := hide (HO2.out.below hbx)
        have HW2 : Hid (ArgP ((W2.alloc (.cells #[.slice ao n c] 22)).alloc (.cells #[.slice (some ⟨bg, 0, none⟩) n c1] 22)) (some ⟨W2.heap.size + 1, 0, none⟩) 1 1 [l']) := by
          have h := ArgP.one HAB1.out
          rw [show (W2.alloc (.cells #[.slice ao n c] 22)).heap.size = W2.heap.size + 1 by simp] at h
          exact h
        have HBZ := hide (below_two HB2.out (below_two hbx (below_alloc (W2.alloc (.cells #[.slice ao n c] 22)) (.cells #[.slice (some ⟨bg, 0, none⟩) n c1] 22))))
        clear hbx HAB1 HA2 HO2 HB2
        go_wp2_with fail
        refine (of_ok _ 1 1 [l] z1 _ HW1.out (by decide) (by intro y hy; simp at hy; subst hy; rw [HN.out]; omega) (by simp; exact HZ1.out)).mono ?_
        rintro e w3 ⟨rfl, rfl⟩
        go_wp2_with fail
        refine (of_ok _ 1 1 [l'] z2 _ HW2.out (by decide) (by intro y hy; simp at hy; subst hy; rw [HNL.out]; omega) (by simp; exact HZ2.out)).mono ?_
        rintro e w4 ⟨rfl, rfl⟩
        go_wp2_with fail
        refine (hexS g s HS.out _ hg).mono ?_
        rintro e w5 ⟨rfl, hb5⟩
        have HB5 := hide (below_two HBZ.out hb5)
        clear hb5
        go_wp2_with fail
        refine (hexS h t HTT.out _ hh).mono ?_
        rintro e w6 ⟨rfl, hb6⟩
        have HB6 := hide (below_two HB5.out hb6)
        clear hb6
        go_wp2_with fail
        refine (hexS g s HS.out _ hg).mono ?_
        rintro e w7 ⟨rfl, hb7⟩
        have HB7 := hide (below_two HB6.out hb7)
        clear hb7
        go_wp2_with fail
        refine (hexS h t HTT.out _ hh).mono ?_
        rintro e w8 ⟨rfl, hb8⟩
        have HB8 := hide (below_two HB7.out hb8)
        clear hb8
        go_wp2_with fail
        refine (hexS g s HS.out _ hg).mono ?_
        rintro e w9 ⟨rfl, hb9⟩
        have HB9 := hide (below_two HB8.out hb9)
        clear hb9
        go_wp2_with fail
        refine (awake6_ok _).mono ?_
        rintro e w10 ⟨rfl, hb10⟩
        have HB10 := hide (below_two HB9.out hb10)
        clear hb10
        go_wp2
        go_ret
        exact ⟨rfl, HB10.out⟩
      · intro K hK
        go_simp
        refine (lowV_ok x 255 q w1.drew (by decide) (by decide) HQ.out).mono ?_
        rintro e w2 ⟨rfl, rfl⟩
        refine hK _ _ ?_
        clear hK K
        refine wpAny_take (i := 9) (v := .int .i64 (1 + q)) rfl (by kernel_rfl) (by kernel_rfl) (by kernel_rfl) (fun _ _ _ h => h) (Or.inl ⟨by rfl, ?_⟩) ?_
        · intro w'; go_simp
        refine wpAny_take (i := 10) (v := .int .u8 (1 + q)) rfl (by kernel_rfl) (by kernel_rfl) (by kernel_rfl) (fun _ _ _ h => h) (Or.inl ⟨by rfl, ?_⟩) ?_
        · intro w'; go_simp
        refine wpAny_ready (rs := [6]) (by kernel_rfl) (by simp) (AllReady.cons rfl ?_ AllReady.nil)
        intro K hK
        go_simp
        refine hK _ _ ?_
        clear hK K
        refine wpAny_take (i := 11) (v := .int .u8 (turnB v q).toNat) rfl (by kernel_rfl) (by kernel_rfl) (by kernel_rfl) (fun _ _ _ h => h) (Or.inl ⟨by rfl, ?_⟩) ?_
        · intro w'; go_simp; exact HT.out
        refine wpAny_take (i := 12) (v := .pointer (some ⟨bg, r, none⟩)) rfl (by kernel_rfl) (by kernel_rfl) (by kernel_rfl) (fun _ _ _ h => h) (Or.inl ⟨by rfl, ?_⟩) ?_
        · intro w'; go_simp
        refine wpAny_ready (rs := [13]) (by kernel_rfl) (by simp) (AllReady.cons rfl ?_ AllReady.nil)
        intro K hK
        go_simp
        refine hK _ _ ?_
        clear hK K
        refine wpAny_done (by kernel_rfl) ?_ _
        obtain ⟨W2, hW2⟩ : ∃ W, W = (w1.setCell ⟨bg, r, none⟩ (.int .u8 (turnB v q).toNat)).drew := ⟨_, rfl⟩
        obtain ⟨l', hl'⟩ : ∃ l', l' = l.set r (turnB v q) := ⟨_, rfl⟩
        have HNL : Hid (l'.length = n) := by rw [hl', List.length_set]; exact HN.out
        have HB2 : Hid (Below w.heap.size w W2) := by rw [hW2]; exact (HBW.out.setCell (p := ⟨bg, r, none⟩) hbg _).drew
        have HO2 : Hid (ArgB W2 (some ⟨bg, 0, none⟩) n c1 l') := by
          have h1 := (HO.out.stored HN.out.symm r (turnB v q)).argAt.2
          rw [hW2, hl']
          exact h1.below ((Below.refl _ _).drew)
        have HNE : Hid (ofH l ≠ ofH l') := by rw [hl']; exact sum_turned HV.out (turnB_ne v hq5)
        have HA2 := hide (HA.out.below HB2.out)
        rw [← hW2]
        clear hW2 hl' hcd hfd hq1 hq2 HT HC hfr HO HBW
        obtain ⟨z1, hz1⟩ : ∃ z, ofH l = z := ⟨_, rfl⟩
        obtain ⟨z2, hz2⟩ : ∃ z, ofH l' = z := ⟨_, rfl⟩
        have hzz : ((z1 : Int) != (z2 : Int)) = true := by
          have hn := HNE.out
          rw [hz1, hz2] at hn
          rw [bne_iff_ne]; omega
        obtain ⟨s, hs⟩ : ∃ s, Hog.mk (hexL g) = s := ⟨_, rfl⟩
        obtain ⟨t, ht⟩ : ∃ t, Hog.mk (hexL h) = t := ⟨_, rfl⟩
        obtain ⟨eB, heB⟩ : ∃ e, decide (g = h) = e := ⟨_, rfl⟩
        obtain ⟨lB, hlB⟩ : ∃ e, decide (g < h) = e := ⟨_, rfl⟩
        have e1 : (s.toList == t.toList) = eB := by
          rw [← hs, ← ht, Hog.mk_toList, Hog.mk_toList, ← heB, Bool.eq_iff_iff, beq_iff_eq, decide_eq_true_eq]
          exact hex_same hg hh
        have e2 : ((g : Int) == (h : Int)) = eB := by
          rw [← heB, Bool.eq_iff_iff, beq_iff_eq, decide_eq_true_eq]; omega
        have e3 : Op.bytesLess s.toList t.toList = lB := by
          rw [← hs, ← ht, Hog.mk_toList, Hog.mk_toList, ← hlB]
          exact hex_less hg hh
        have e5 : s.size = 16 := by rw [← hs, Hog.mk_size]; exact hexL_len g
        have HS := hide hs
        have HTT := hide ht
        have HZ1 := hide hz1
        have HZ2 := hide hz2
        clear hs ht hz1 hz2 heB HNE
        have HW1 := hide (ArgP.one HA2.out)
        have hbx := below_alloc W2 (.cells #[.slice ao n c] 22)
        have HAB1 := hide (HO2.out.below hbx)
        have HW2 : Hid (ArgP ((W2.alloc (.cells #[.slice ao n c] 22)).alloc (.cells #[.slice (some ⟨bg, 0, none⟩) n c1] 22)) (some ⟨W2.heap.size + 1, 0, none⟩) 1 1 [l']) := by
          have h := ArgP.one HAB1.out
          rw [show (W2.alloc (.cells #[.slice ao n c] 22)).heap.size = W2.heap.size + 1 by simp] at h
          exact h
        have HBZ := hide (below_two HB2.out (below_two hbx (below_alloc (W2.alloc (.cells #[.slice ao n c] 22)) (.cells #[.slice (some ⟨bg, 0, none⟩) n c1] 22))))
        clear hbx HAB1 HA2 HO2 HB2
        go_wp2_with fail
        refine (of_ok _ 1 1 [l] z1 _ HW1.out (by decide) (by intro y hy; simp at hy; subst hy; rw [HN.out]; omega) (by simp; exact HZ1.out)).mono ?_
        rintro e w3 ⟨rfl, rfl⟩
        go_wp2_with fail
        refine (of_ok _ 1 1 [l'] z2 _ HW2.out (by decide) (by intro y hy; simp at hy; subst hy; rw [HNL.out]; omega) (by simp; exact HZ2.out)).mono ?_
        rintro e w4 ⟨rfl, rfl⟩
        go_wp2_with fail
        refine (hexS g s HS.out _ hg).mono ?_
        rintro e w5 ⟨rfl, hb5⟩
        have HB5 := hide (below_two HBZ.out hb5)
        clear hb5
        go_wp2_with fail
        refine (hexS h t HTT.out _ hh).mono ?_
        rintro e w6 ⟨rfl, hb6⟩
        have HB6 := hide (below_two HB5.out hb6)
        clear hb6
        go_wp2_with fail
        refine (hexS g s HS.out _ hg).mono ?_
        rintro e w7 ⟨rfl, hb7⟩
        have HB7 := hide (below_two HB6.out hb7)
        clear hb7
        go_wp2_with fail
        refine (hexS h t HTT.out _ hh).mono ?_
        rintro e w8 ⟨rfl, hb8⟩
        have HB8 := hide (below_two HB7.out hb8)
        clear hb8
        go_wp2_with fail
        refine (hexS g s HS.out _ hg).mono ?_
        rintro e w9 ⟨rfl, hb9⟩
        have HB9 := hide (below_two HB8.out hb9)
        clear hb9
        go_wp2_with fail
        refine (awake6_ok _).mono ?_
        rintro e w10 ⟨rfl, hb10⟩
        have HB10 := hide (below_two HB9.out hb10)
        clear hb10
        go_wp2
        go_ret
        exact ⟨rfl, HB10.out⟩
end Go.Proofs.Ytbdnkgmpklpegaa
