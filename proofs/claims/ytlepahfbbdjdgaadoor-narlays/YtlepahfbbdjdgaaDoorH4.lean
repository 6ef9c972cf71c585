/- The walk of NarLays. -/
import Derived.Test.YtlepahfbbdjdgaaDoorH1
import Derived.Test.YtlepahfbbdjdgaaDoorI2
namespace Go.Proofs.YtlepahfbbdjdgaaDoor
open Go.RowKit

set_option maxRecDepth 100000 in
set_option maxHeartbeats 4000000 in
theorem lays_walk (ab : Option Addr) (nb cb : Nat) (l : List UInt8) (i : Int) (s : ByteArray) (ao : Option Addr) (n c : Nat) (t : List Nd) (w : World) (hsh : w.ShapedOpen Tryd.prog) (hb : ArgB w ab nb cb l) (_ : s.size ≤ maxLen) (ha : ArgN w ao n c t) (hn : n ≤ maxLen) :
    Calls Tryd.prog 3 #[.slice ab nb cb, .int .i64 i, .string s, .slice ao n c] w fun e w' => e = .returned (.bool true) ∧ Below w.heap.size w w' := by
  have ok := Ok.start hsh
  have HN := hide ha.nods
  have HLB := hide hb.len
  have HAB := hide hb
  have hl : t.length ≤ maxLen := by rw [ha.len]; exact hn
  obtain ⟨y, hy⟩ : ∃ y, greatN 60 t = y := ⟨_, rfl⟩
  have HG := hide hy
  clear ha hb hy hsh
  go_enter Tryd.func3, Tryd.ntmps3
  by_cases h2 : 200 < nb
  · have h2' : (200 : Int) < (nb : Int) := by omega
    go_wp2_with fail
    refine (awake5_ok w w ok).mono ?_
    rintro e w2 ⟨rfl, ok2, hb2⟩
    go_wp2
    go_ret
    exact ⟨rfl, hb2⟩
  · have h2' : (nb : Int) ≤ 200 := by omega
    by_cases h3 : 200 < s.size
    · have h3' : (200 : Int) < (s.size : Int) := by omega
      go_wp2_with fail
      refine (awake5_ok w w ok).mono ?_
      rintro e w2 ⟨rfl, ok2, hb2⟩
      go_wp2
      go_ret
      exact ⟨rfl, hb2⟩
    · have h3' : (s.size : Int) ≤ 200 := by omega
      go_wp2_with fail
      refine (greatN_ok _ 60 t y w HN.out hl (by decide) (by decide) HG.out).mono ?_
      rintro e w00 ⟨rfl, e00⟩
      have e01 := e00.symm
      clear e00
      subst e01
      cases y with
      | true =>
        go_wp2_with fail
        refine (awake5_ok w w ok).mono ?_
        rintro e w2 ⟨rfl, ok2, hb2⟩
        go_wp2
        go_ret
        exact ⟨rfl, hb2⟩
      | false =>
        have HS := hide (small_short (by decide) HG.out)
        have H400 : Hid (t.length ≤ 400) := by have := (greatN_not HG.out).1; exact hide (by omega)
        obtain ⟨x, hx⟩ : ∃ x, mayN t = x := ⟨_, rfl⟩
        have HMX := hide hx
        obtain ⟨lx, hlx⟩ : ∃ x, l ++ numL i = x := ⟨_, rfl⟩
        obtain ⟨ly, hly⟩ : ∃ x, l ++ textL s.data.toList = x := ⟨_, rfl⟩
        obtain ⟨ky, hky⟩ : ∃ k, ly.length = k := ⟨_, rfl⟩
        have hky1 : ky ≤ 1000 := by rw [← hky, ← hly, List.length_append, HLB.out, textL_len, ← Hog.size_len]; omega
        have HX := hide hlx
        have HY := hide hly
        have HKY := hide hky
        have HLX : Hid (lx.length = nb + 8) := by rw [← hlx, List.length_append, HLB.out, numL_len]; exact hide rfl
        clear hx hlx hly hky
        go_wp2_with fail
        refine (lendB_any ab nb cb l w HAB.out (by omega)).mono ?_
        rintro e w1 ⟨rfl, hl1, hb1⟩
        have HL1 := hide hl1
        have hg1 : w.heap.size < w1.heap.size := hl1.lt
        have HB1 := hide hb1
        have ok1 := ok.next hb1
        clear hl1 hb1
        go_wp2_with fail
        refine (numB_ok _ nb _ l i lx w1 (HL1.out.arg HLB.out.symm) (by omega) HX.out).mono ?_
        rintro e w2 ⟨b2, c2, rfl, ho2, hb2⟩
        have HX2 := hide ho2
        have HC2 := hide hb2
        have hs2 : w1.heap.size ≤ w2.heap.size := hb2.size
        have ok2 := ok1.next hb2
        clear ho2 hb2
        go_wp2_with fail
        refine (textB_ok _ nb _ l s ly ky w2 ((HL1.out.below HC2.out hg1).arg HLB.out.symm) (by omega) (by omega) HY.out HKY.out).mono ?_
        rintro e w3 ⟨b3, c3, rfl, ho3, hb3⟩
        have HY3 := hide ho3
        have HX3 := hide (HX2.out.below hb3)
        have HC3 := hide (below_two HC2.out hb3)
        have TXY := hide (two_basesB HX2.out HY3.out (Nat.le_refl _))
        have hs3 : w1.heap.size ≤ w3.heap.size := HC3.out.size
        have ok3 := ok2.next hb3
        clear ho3 hb3
        cases x with
        | false =>
          go_wp2_with fail
          refine (lay_bad _ t w w3 ok3 (HN.out.below (below_two HB1.out HC3.out)) HS.out HMX.out).mono ?_
          rintro e w4 ⟨rfl, ok4, hb4⟩
          have HZ4 := hide (OwnB.nil w3.heap.size w4)
          have HX4 := hide (HX3.out.below hb4)
          have HY4 := hide (HY3.out.below hb4)
          have HC4 := hide (below_two HC3.out hb4)
          have TXZ := hide (two_basesB HX3.out HZ4.out (Nat.le_refl _))
          have TYZ := hide (two_basesB HY3.out HZ4.out (Nat.le_refl _))
          clear hb4
          go_wp2_with fail
          refine (rlay_bad _ t w w4 ok4 (HN.out.below (below_two HB1.out HC4.out)) HS.out H400.out HMX.out).mono ?_
          rintro e w5 ⟨rfl, ok5, hb5⟩
          have HW5 := hide (OwnB.nil w4.heap.size w5)
          have HZ5 := hide (HZ4.out.below hb5)
          have HX5 := hide (HX4.out.below hb5)
          have HY5 := hide (HY4.out.below hb5)
          have HC5 := hide (below_two HC4.out hb5)
          clear hb5
          obtain ⟨xn, hxn⟩ : ∃ xn, l ++ numL i = xn := ⟨_, rfl⟩
          go_wp2_with fail
          refine (rnum_ok ab nb cb l i lx w5 (HAB.out.below (below_two HB1.out HC5.out)) (by omega) HX.out).mono ?_
          rintro e w6 ⟨b6, c6, rfl, ho6, hb6⟩
          have HN6 := hide ho6
          have HC6 := hide (below_two HC5.out hb6)
          have HX6 := hide (HX5.out.below hb6)
          have HY6 := hide (HY5.out.below hb6)
          have HZ6 := hide (HZ5.out.below hb6)
          have HW6 := hide (HW5.out.below hb6)
          have ok6 := ok5.next hb6
          clear ho6 hb6 hxn
          go_wp2_with fail
          refine (sameB_ok _ _ (nb + 8) _ (nb + 8) _ lx lx true w w6 ok6 HX6.out.argAt.2 HN6.out.argAt.2 (by omega) (by simp)).mono ?_
          rintro e w7 ⟨rfl, ok7, hb7⟩
          have HC7 := hide (below_two HC6.out hb7)
          have HX7 := hide (HX6.out.below hb7)
          have HY7 := hide (HY6.out.below hb7)
          have HZ7 := hide (HZ6.out.below hb7)
          have HW7 := hide (HW6.out.below hb7)
          clear hb7
          go_wp2_with fail
          refine (rtext_ok ab nb cb l s ly ky w7 (HAB.out.below (below_two HB1.out HC7.out)) (by omega) (by omega) HY.out HKY.out).mono ?_
          rintro e w8 ⟨b8, c8, rfl, ho8, hb8⟩
          have HN8 := hide ho8
          have HC8 := hide (below_two HC7.out hb8)
          have HX8 := hide (HX7.out.below hb8)
          have HY8 := hide (HY7.out.below hb8)
          have HZ8 := hide (HZ7.out.below hb8)
          have HW8 := hide (HW7.out.below hb8)
          have ok8 := ok7.next hb8
          clear ho8 hb8
          go_wp2_with fail
          refine (sameB_ok _ _ ky _ ky _ ly ly true w w8 ok8 HY8.out.argAt.2 HN8.out.argAt.2 (by omega) (by simp)).mono ?_
          rintro e w9 ⟨rfl, ok9, hb9⟩
          have HC9 := hide (below_two HC8.out hb9)
          have HX9 := hide (HX8.out.below hb9)
          have HY9 := hide (HY8.out.below hb9)
          have HZ9 := hide (HZ8.out.below hb9)
          have HW9 := hide (HW8.out.below hb9)
          clear hb9
          go_wp2_with fail
          refine (sameB_ok _ _ 0 _ 0 _ [] [] true w w9 ok9 HZ9.out.argAt.2 HW9.out.argAt.2 (by omega) (by simp)).mono ?_
          rintro e w10 ⟨rfl, ok10, hb10⟩
          have HC10 := hide (below_two HC9.out hb10)
          have HX10 := hide (HX9.out.below hb10)
          have HY10 := hide (HY9.out.below hb10)
          have HZ10 := hide (HZ9.out.below hb10)
          clear hb10
          go_wp2_with fail
          refine (numE_ok 7 w10).mono ?_
          rintro e w11 ⟨rfl, rfl⟩
          have HL11 := hide (HL1.out.below HC10.out hg1)
          go_wp2_with fail
          refine (keptB_any ab w.heap.size nb cb l w w11 ok10 HL11.out (HAB.out.below (below_two HB1.out HC10.out)) (by omega)).mono ?_
          rintro e w12 ⟨rfl, ok12, hb12⟩
          have HC12 := hide (below_two HC10.out hb12)
          have HX12 := hide (HX10.out.below hb12)
          have HY12 := hide (HY10.out.below hb12)
          have HZ12 := hide (HZ10.out.below hb12)
          have hs12 : w1.heap.size ≤ w12.heap.size := HC12.out.size
          clear hb12
          go_wp2_with fail
          refine (overB_ok _ lx w1.heap.size w12 HX12.out hs12 (by rw [HLX.out]; omega)).mono ?_
          rintro e w13 ⟨rfl, hg13⟩
          have HY13 := hide (TXY.out.keptB hg13 HY12.out)
          have HZ13 := hide (TXZ.out.keptB hg13 HZ12.out)
          have HC13 := hide (HC12.out.trans (HX12.out.grownBelow hg13 hs12))
          have hs13 : w1.heap.size ≤ w13.heap.size := HC13.out.size
          clear hg13
          go_wp2_with fail
          refine (overB_ok _ ly w1.heap.size w13 (HY13.out.base hs2) hs13 (by rw [HKY.out]; omega)).mono ?_
          rintro e w14 ⟨rfl, hg14⟩
          have HZ14 := hide (TYZ.out.keptB hg14 HZ13.out)
          have HC14 := hide (HC13.out.trans ((HY13.out.base hs2).grownBelow hg14 hs13))
          have hs14 : w1.heap.size ≤ w14.heap.size := HC14.out.size
          clear hg14
          go_wp2_with fail
          refine (overB_ok _ [] w1.heap.size w14 (HZ14.out.base hs3) hs14 (by simp)).mono ?_
          rintro e w15 ⟨rfl, hg15⟩
          have HC15 := hide (HC14.out.trans ((HZ14.out.base hs3).grownBelow hg15 hs14))
          have ok15 : Ok w w15 := ok1.step ((HC15.out).mono HB1.out.size)
          have HL15 := hide (HL1.out.below HC15.out hg1)
          clear hg15
          go_wp2_with fail
          refine (keptB_any ab w.heap.size nb cb l w w15 ok15 HL15.out (HAB.out.below (below_two HB1.out HC15.out)) (by omega)).mono ?_
          rintro e w16 ⟨rfl, ok16, hb16⟩
          have HB16 := hide (below_two (below_two HB1.out HC15.out) hb16)
          clear hb16
          go_wp2_with fail
          refine (awake5_ok w w16 ok16).mono ?_
          rintro e w17 ⟨rfl, ok17, hb17⟩
          have HB17 := hide (below_two HB16.out hb17)
          clear hb17
          go_wp2
          go_ret
          exact ⟨rfl, HB17.out⟩
        | true =>
          obtain ⟨z, hz⟩ : ∃ z, layL t = z := ⟨_, rfl⟩
          obtain ⟨m, hm⟩ : ∃ m, z.length = m := ⟨_, rfl⟩
          have hmm : m ≤ 100000 := by rw [← hm, ← hz, layL_len]; have := small_len (k := t.length) HG.out; rw [List.take_length] at this; omega
          have HZ := hide hz
          have HM := hide hm
          clear hz hm
          go_wp2_with fail
          refine (lay_good _ t z m w w3 ok3 (HN.out.below (below_two HB1.out HC3.out)) HS.out HMX.out HZ.out HM.out).mono ?_
          rintro e w4 ⟨b4, c4, rfl, ho4, ok4, hb4⟩
          have HZ4 := hide ho4
          have HX4 := hide (HX3.out.below hb4)
          have HY4 := hide (HY3.out.below hb4)
          have HC4 := hide (below_two HC3.out hb4)
          have TXZ := hide (two_basesB HX3.out HZ4.out (Nat.le_refl _))
          have TYZ := hide (two_basesB HY3.out HZ4.out (Nat.le_refl _))
          clear hb4 ho4
          go_wp2_with fail
          refine (rlay_good _ t z m w w4 ok4 (HN.out.below (below_two HB1.out HC4.out)) HS.out H400.out HMX.out HZ.out HM.out).mono ?_
          rintro e w5 ⟨b5, c5, rfl, ho5, ok5, hb5⟩
          have HW5 := hide ho5
          have HZ5 := hide (HZ4.out.below hb5)
          have HX5 := hide (HX4.out.below hb5)
          have HY5 := hide (HY4.out.below hb5)
          have HC5 := hide (below_two HC4.out hb5)
          clear hb5 ho5
          obtain ⟨xn, hxn⟩ : ∃ xn, l ++ numL i = xn := ⟨_, rfl⟩
          go_wp2_with fail
          refine (rnum_ok ab nb cb l i lx w5 (HAB.out.below (below_two HB1.out HC5.out)) (by omega) HX.out).mono ?_
          rintro e w6 ⟨b6, c6, rfl, ho6, hb6⟩
          have HN6 := hide ho6
          have HC6 := hide (below_two HC5.out hb6)
          have HX6 := hide (HX5.out.below hb6)
          have HY6 := hide (HY5.out.below hb6)
          have HZ6 := hide (HZ5.out.below hb6)
          have HW6 := hide (HW5.out.below hb6)
          have ok6 := ok5.next hb6
          clear ho6 hb6 hxn
          go_wp2_with fail
          refine (sameB_ok _ _ (nb + 8) _ (nb + 8) _ lx lx true w w6 ok6 HX6.out.argAt.2 HN6.out.argAt.2 (by omega) (by simp)).mono ?_
          rintro e w7 ⟨rfl, ok7, hb7⟩
          have HC7 := hide (below_two HC6.out hb7)
          have HX7 := hide (HX6.out.below hb7)
          have HY7 := hide (HY6.out.below hb7)
          have HZ7 := hide (HZ6.out.below hb7)
          have HW7 := hide (HW6.out.below hb7)
          clear hb7
          go_wp2_with fail
          refine (rtext_ok ab nb cb l s ly ky w7 (HAB.out.below (below_two HB1.out HC7.out)) (by omega) (by omega) HY.out HKY.out).mono ?_
          rintro e w8 ⟨b8, c8, rfl, ho8, hb8⟩
          have HN8 := hide ho8
          have HC8 := hide (below_two HC7.out hb8)
          have HX8 := hide (HX7.out.below hb8)
          have HY8 := hide (HY7.out.below hb8)
          have HZ8 := hide (HZ7.out.below hb8)
          have HW8 := hide (HW7.out.below hb8)
          have ok8 := ok7.next hb8
          clear ho8 hb8
          go_wp2_with fail
          refine (sameB_ok _ _ ky _ ky _ ly ly true w w8 ok8 HY8.out.argAt.2 HN8.out.argAt.2 (by omega) (by simp)).mono ?_
          rintro e w9 ⟨rfl, ok9, hb9⟩
          have HC9 := hide (below_two HC8.out hb9)
          have HX9 := hide (HX8.out.below hb9)
          have HY9 := hide (HY8.out.below hb9)
          have HZ9 := hide (HZ8.out.below hb9)
          have HW9 := hide (HW8.out.below hb9)
          clear hb9
          go_wp2_with fail
          refine (sameB_ok _ _ m _ m _ z z true w w9 ok9 HZ9.out.argAt.2 HW9.out.argAt.2 (by omega) (by simp)).mono ?_
          rintro e w10 ⟨rfl, ok10, hb10⟩
          have HC10 := hide (below_two HC9.out hb10)
          have HX10 := hide (HX9.out.below hb10)
          have HY10 := hide (HY9.out.below hb10)
          have HZ10 := hide (HZ9.out.below hb10)
          clear hb10
          go_wp2_with fail
          refine (numE_ok 0 w10).mono ?_
          rintro e w11 ⟨rfl, rfl⟩
          have HL11 := hide (HL1.out.below HC10.out hg1)
          go_wp2_with fail
          refine (keptB_any ab w.heap.size nb cb l w w11 ok10 HL11.out (HAB.out.below (below_two HB1.out HC10.out)) (by omega)).mono ?_
          rintro e w12 ⟨rfl, ok12, hb12⟩
          have HC12 := hide (below_two HC10.out hb12)
          have HX12 := hide (HX10.out.below hb12)
          have HY12 := hide (HY10.out.below hb12)
          have HZ12 := hide (HZ10.out.below hb12)
          have hs12 : w1.heap.size ≤ w12.heap.size := HC12.out.size
          clear hb12
          go_wp2_with fail
          refine (overB_ok _ lx w1.heap.size w12 HX12.out hs12 (by rw [HLX.out]; omega)).mono ?_
          rintro e w13 ⟨rfl, hg13⟩
          have HY13 := hide (TXY.out.keptB hg13 HY12.out)
          have HZ13 := hide (TXZ.out.keptB hg13 HZ12.out)
          have HC13 := hide (HC12.out.trans (HX12.out.grownBelow hg13 hs12))
          have hs13 : w1.heap.size ≤ w13.heap.size := HC13.out.size
          clear hg13
          go_wp2_with fail
          refine (overB_ok _ ly w1.heap.size w13 (HY13.out.base hs2) hs13 (by rw [HKY.out]; omega)).mono ?_
          rintro e w14 ⟨rfl, hg14⟩
          have HZ14 := hide (TYZ.out.keptB hg14 HZ13.out)
          have HC14 := hide (HC13.out.trans ((HY13.out.base hs2).grownBelow hg14 hs13))
          have hs14 : w1.heap.size ≤ w14.heap.size := HC14.out.size
          clear hg14
          go_wp2_with fail
          refine (overB_ok _ z w1.heap.size w14 (HZ14.out.base hs3) hs14 (by rw [HM.out]; omega)).mono ?_
          rintro e w15 ⟨rfl, hg15⟩
          have HC15 := hide (HC14.out.trans ((HZ14.out.base hs3).grownBelow hg15 hs14))
          have ok15 : Ok w w15 := ok1.step ((HC15.out).mono HB1.out.size)
          have HL15 := hide (HL1.out.below HC15.out hg1)
          clear hg15
          go_wp2_with fail
          refine (keptB_any ab w.heap.size nb cb l w w15 ok15 HL15.out (HAB.out.below (below_two HB1.out HC15.out)) (by omega)).mono ?_
          rintro e w16 ⟨rfl, ok16, hb16⟩
          have HB16 := hide (below_two (below_two HB1.out HC15.out) hb16)
          clear hb16
          go_wp2_with fail
          refine (awake5_ok w w16 ok16).mono ?_
          rintro e w17 ⟨rfl, ok17, hb17⟩
          have HB17 := hide (below_two HB16.out hb17)
          clear hb17
          go_wp2
          go_ret
          exact ⟨rfl, HB17.out⟩
end Go.Proofs.YtlepahfbbdjdgaaDoor
