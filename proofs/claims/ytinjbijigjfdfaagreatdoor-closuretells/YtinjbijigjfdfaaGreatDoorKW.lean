/- The walk of ClosureTells. -/
import Derived.Test.YtinjbijigjfdfaaGreatDoorKV
import Derived.Test.YtinjbijigjfdfaaGreatDoorKS
import Derived.Test.YtinjbijigjfdfaaGreatDoorKK
import Derived.Test.YtinjbijigjfdfaaGreatDoorKQ
namespace Go.Proofs.YtinjbijigjfdfaaGreatDoor
open Go.RowKit

def noI : It := (ByteArray.empty, [], [])
/-- What Get tells. -/
def getA (is : List It) (x : ByteArray) : It × Bool := match Hog.getK is x with
  | some i => (i, true)
  | none => (noI, false)
theorem getA_some {is : List It} {x : ByteArray} {i : It} (h : Hog.getK is x = some i) : getA is x = (i, true) := by unfold getA; rw [h]
theorem getA_none {is : List It} {x : ByteArray} (h : Hog.getK is x = none) : getA is x = (noI, false) := by unfold getA; rw [h]
theorem getA_in {is : List It} {x : ByteArray} {i : It} {t : Bool} (h : getA is x = (i, t)) : i ∈ is ∨ i = noI := by
  cases hg : Hog.getK is x with
  | none => rw [getA_none hg] at h; cases h; exact .inr rfl
  | some j => rw [getA_some hg] at h; cases h; exact .inl (Hog.getK_some hg).1
theorem get_ans (v : Value) (ps : List Pr) (x : ByteArray) (i : It) (t : Bool) (w : World) (h : Sls w v ps) (h9 : ps.length < 900000) (hf : ∀ i ∈ itsOf ps, i.2.1.length < 900000 ∧ i.2.2.length < 900000) (hg : getA (itsOf ps) x = (i, t)) :
    Calls Tryz.prog 7 #[v, .string x] w fun e w' => ∃ ra rc ta tc base, e = .returned (.tuple #[.agg #[.string i.1, .slice ra i.2.1.length rc, .slice ta i.2.2.length tc], .bool t]) ∧
      Own w.heap.size w' (.slice ra i.2.1.length rc) i.2.1 ∧ OwnN base w' (.slice ta i.2.2.length tc) i.2.2 ∧ w.heap.size ≤ base ∧ base ≤ w'.heap.size ∧ (∀ k, (Value.slice ra i.2.1.length rc).ownBlock = some k → k < base) ∧ Below w.heap.size w w' := by
  refine (get_any v ps x w h h9 hf).mono ?_
  rintro e w' (⟨j, h1, h2⟩ | ⟨h1, h2, h3⟩)
  · rw [getA_some h1] at hg
    cases hg
    exact h2
  · rw [getA_none h1] at hg
    cases hg
    exact ⟨none, 0, none, 0, w.heap.size, h2, Own.nil _ _, OwnN.nil _ _, Nat.le_refl _, h3.size, (fun k hk => by cases hk), h3⟩
theorem rget_ans (v : Value) (ps : List Pr) (x : ByteArray) (i : It) (t : Bool) (w00 w : World) (h0 : ∀ q ∈ ps, IsI w00 q) (h : Sls w v ps) (h9 : ps.length < 900000) (hg : getA (itsOf ps) x = (i, t)) :
    Calls Tryz.prog 8 #[v, .string x] w fun e w' => ∃ ra rn rc ta tn tc, e = .returned (.tuple #[.agg #[.string i.1, .slice ra rn rc, .slice ta tn tc], .bool t]) ∧ Arg w00 ra rn rc i.2.1 ∧ ArgN w00 ta tn tc i.2.2 ∧ Below w.heap.size w w' := by
  refine (rget_any v ps x w h h9).mono ?_
  rintro e w' (⟨j, h1, p, hm, hp, _, h2, h3⟩ | ⟨h1, h2, h3⟩)
  · rw [getA_some h1] at hg
    cases hg
    rw [← hp]
    exact ⟨_, _, _, _, _, _, h2, (h0 p hm).refs, (h0 p hm).tree, h3⟩
  · rw [getA_none h1] at hg
    cases hg
    exact ⟨none, 0, 0, none, 0, 0, h2, ⟨rfl, fun _ => ⟨rfl, rfl⟩, Nat.le_refl _, fun ad e => by cases e⟩, ⟨rfl, fun _ => ⟨rfl, rfl⟩, Nat.le_refl _, fun ad e => by cases e⟩, h3⟩
set_option maxRecDepth 100000 in
theorem num_ok (r : Int) (w : World) : Calls Tryz.prog 15 #[.int .i64 r] w fun e w' => e = .returned (.int .i64 r) ∧ w' = w := by
  go_enter Tryz.func15, Tryz.ntmps15
  go_wp2
  go_ret
  exact ⟨rfl, rfl⟩

set_option maxRecDepth 100000 in
set_option maxHeartbeats 8000000 in
theorem tells_walk (p : ByteArray) (ao : Option Addr) (n c : Nat) (ps : List Pr) (s : ByteArray) (bo : Option Addr) (m d : Nat) (xs : List ByteArray) (w : World) (hsh : w.ShapedOpen Tryz.prog) (hp : p.size ≤ maxLen)
    (ha : ArgS w ao n c ps) (hn : n ≤ maxLen) (hL : Lens (itsOf ps)) (hs : s.size ≤ maxLen) (hb : Arg w bo m d xs) (hm : m ≤ maxLen) (_ : ∀ x ∈ xs, x.size ≤ maxLen) :
    Calls Tryz.prog 3 #[.string p, .slice ao n c, .string s, .slice bo m d] w fun e w' => e = .returned (.bool true) ∧ Below w.heap.size w w' := by
  have HSH := hide hsh
  have HA := hide ha
  have HL := hide hL
  have HXS := hide hb
  have HN : Hid (ps.length = n) := ha.len
  have HNI : Hid ((itsOf ps).length = n) := by rw [its_len]; exact HN
  have HXL : Hid (xs.length = m) := hb.len
  have hpi : (p.size : Int) ≤ 9223372036854775807 := by unfold maxLen at hp; omega
  have hsi : (s.size : Int) ≤ 9223372036854775807 := by unfold maxLen at hs; omega
  have HSL := hide ha.sls
  obtain ⟨g, hg⟩ : ∃ g, greatI (itsOf ps) = g := ⟨_, rfl⟩
  have HG := hide hg
  obtain ⟨g1, hg1⟩ : ∃ g, greatT 12 100 xs = g := ⟨_, rfl⟩
  have HG1 := hide hg1
  have HMX : Hid ((itsOf ps).length ≤ maxLen) := by rw [HNI.out]; exact hn
  have HMX1 : Hid (xs.length ≤ maxLen) := by rw [HXL.out]; exact hm
  have HPX : Hid (p.size ≤ 9223372036854775807) := by unfold maxLen at hp; show _ ≤ _; omega
  clear hsh ha hL hg hp hn hb hm hs hg1
  go_enter Tryz.func3, Tryz.ntmps3
  by_cases hp1 : p.size ≤ 100
  case neg =>
    have hp1i : (100 : Int) < (p.size : Int) := by omega
    go_wp2_with fail
    refine (awake9_ok w w ⟨HSH.out, Below.refl _ _⟩).mono ?_
    rintro e w1 ⟨rfl, ok1, _⟩
    go_wp2
    go_ret
    exact ⟨rfl, ok1.2⟩
  have hp1i : (p.size : Int) ≤ 100 := by omega
  clear hpi
  go_wp2_with fail
  refine (greatI_ok _ (itsOf ps) g w HSL.out.its HMX.out HL.out HG.out).mono ?_
  rintro e w1 ⟨rfl, hw1⟩
  obtain rfl := hw1
  cases g with
  | true =>
    go_wp2_with fail
    refine (awake9_ok w1 w1 ⟨HSH.out, Below.refl _ _⟩).mono ?_
    rintro e w2 ⟨rfl, ok2, _⟩
    go_wp2
    go_ret
    exact ⟨rfl, ok2.2⟩
  | false =>
  by_cases hs1 : s.size ≤ 100
  case neg =>
    have hs1i : (100 : Int) < (s.size : Int) := by omega
    go_wp2_with fail
    refine (awake9_ok w1 w1 ⟨HSH.out, Below.refl _ _⟩).mono ?_
    rintro e w2 ⟨rfl, ok2, _⟩
    go_wp2
    go_ret
    exact ⟨rfl, ok2.2⟩
  have hs1i : (s.size : Int) ≤ 100 := by omega
  clear hsi
  go_wp2_with fail
  refine (greatT_ok _ 12 100 xs g1 w1 HXS.out.txt HMX1.out (by decide) (by decide) HG1.out).mono ?_
  rintro e w2 ⟨rfl, hw2⟩
  obtain rfl := hw2
  cases g1 with
  | true =>
    go_wp2_with fail
    refine (awake9_ok w2 w2 ⟨HSH.out, Below.refl _ _⟩).mono ?_
    rintro e w3 ⟨rfl, ok3, _⟩
    go_wp2
    go_ret
    exact ⟨rfl, ok3.2⟩
  | false =>
  rename World => w
  have HBIG : Hid (∀ i ∈ itsOf ps, bigI i = false) := (greatI_not HG.out).2
  have HFAIR : Hid (∀ i ∈ itsOf ps, Fair i) := fun i hi => bigI_fair (HBIG.out i hi)
  have HPAIR : Hid (∀ i ∈ itsOf ps, i.2.1.length < 900000 ∧ i.2.2.length < 900000) := fun i hi => ⟨(HFAIR.out i hi).refs, (HFAIR.out i hi).tree⟩
  have hn10 : n ≤ 10 := by have := (greatI_not HG.out).1; rw [HNI.out] at this; exact this
  have hm12 : m ≤ 12 := by have := (greatT_not HG1.out).1; rw [HXL.out] at this; omega
  obtain ⟨R, hR⟩ := reach_ex (itsOf ps) xs
  have HR := hide hR
  have hrn : R.length ≤ 10 := by have := hR.few; rw [HNI.out] at this; omega
  obtain ⟨⟨i, t⟩, hgt⟩ : ∃ a, getA (itsOf ps) s = a := ⟨_, rfl⟩
  have HGT := hide hgt
  have HFI : Hid (Fair i ∧ i.2.1.length ≤ 12 ∧ i.2.2.length ≤ 30) := by
    rcases getA_in hgt with h | h
    · exact hide ⟨HFAIR.out i h, (bigI_not (HBIG.out i h)).2.1, (bigI_not (HBIG.out i h)).2.2.2.1⟩
    · rw [h]
      exact hide ⟨⟨by decide, by decide, fun x hx => absurd hx (by simp [noI]), by decide, fun x hx => absurd hx (by simp [noI])⟩, by decide, by decide⟩
  clear hR hgt HMX HMX1 HL
  go_wp2_with fail
  refine (get_ans _ ps s i t w HSL.out (by rw [HN.out]; omega) HPAIR.out HGT.out).mono ?_
  rintro e w3 ⟨ra, rc, ta, tc, base, rfl, ho3, hn3, hb1, hb2, hbk, hb3⟩
  obtain ⟨rn, hrn3⟩ : ∃ q, i.2.1.length = q := ⟨_, rfl⟩
  obtain ⟨tn, htn3⟩ : ∃ q, i.2.2.length = q := ⟨_, rfl⟩
  rw [hrn3] at ho3 hbk ⊢
  rw [htn3] at hn3 ⊢
  have HRN := hide hrn3
  have HTN := hide htn3
  obtain ⟨W3, hW3⟩ : ∃ W, W = w3.alloc (.cells #[.string i.1, .slice ra rn rc, .slice ta tn tc] 29) := ⟨_, rfl⟩
  have HX3 : Hid (BoxI W3 w3.heap.size i.1 (.slice ra rn rc) (.slice ta tn tc)) := by rw [hW3]; exact hide (BoxI.made w3 _ _ _)
  have HB3 : Hid (Below w.heap.size w W3) := by rw [hW3]; exact hide (below_two hb3 (below_box _ _))
  have HO3 : Hid (Own w.heap.size W3 (.slice ra rn rc) i.2.1) := by rw [hW3]; exact hide (ho3.below (below_box _ _))
  have HN3 : Hid (OwnN base W3 (.slice ta tn tc) i.2.2) := by rw [hW3]; exact hide (hn3.below (below_box _ _))
  have HTB : Hid (∀ k, (Value.slice ta tn tc).ownBlock = some k → k < w3.heap.size) := fun k hk => (hn3.lt k hk).2
  have HBK := hide hbk
  have HW3 := hide hW3.symm
  have hs3 : W3.heap.size = w3.heap.size + 1 := by rw [hW3]; simp
  have hww3 : w.heap.size ≤ w3.heap.size := hb3.size
  clear ho3 hn3 hbk hb3 hW3 hrn3 htn3
  go_wp2_with fail
  rw [HW3.out]
  refine (rget_ans _ ps s i t w W3 HA.out.each (HSL.out.below HB3.out) (by rw [HN.out]; omega) HGT.out).mono ?_
  rintro e w4 ⟨ra', rn', rc', ta', tn', tc', rfl, ha4, hat4, hb4⟩
  obtain ⟨W4, hW4⟩ : ∃ W, W = w4.alloc (.cells #[.string i.1, .slice ra' rn' rc', .slice ta' tn' tc'] 29) := ⟨_, rfl⟩
  have HX4 : Hid (BoxI W4 w4.heap.size i.1 (.slice ra' rn' rc') (.slice ta' tn' tc')) := by rw [hW4]; exact hide (BoxI.made w4 _ _ _)
  have HB34 : Hid (Below W3.heap.size W3 W4) := by rw [hW4]; exact hide (below_two hb4 (below_box _ _))
  have HAR := hide ha4.txt
  have HAT := hide hat4.nods
  have HX34 := hide (HX3.out.below HB34.out)
  have HO4 := hide (HO3.out.below HB34.out)
  have HN4 := hide (HN3.out.below HB34.out)
  have HB4 := hide (below_two HB3.out HB34.out)
  have HW4 := hide hW4.symm
  have hs4 : W4.heap.size = w4.heap.size + 1 := by rw [hW4]; simp
  have hs34 : W3.heap.size ≤ w4.heap.size := hb4.size
  clear ha4 hat4 hb4 hW4 HX3 HO3 HN3 HB34
  go_wp2_with fail
  rw [HW4.out]
  refine (reach_ok _ _ (itsOf ps) xs R W4 (HSL.out.its.below HB4.out) (by rw [HNI.out]; omega) (HXS.out.txt.below HB4.out) (by rw [HXL.out]; omega) (fun j hj => (HFAIR.out j hj).refs) HR.out).mono ?_
  rintro e w5 ⟨aR, cR, rfl, ho5, hb5⟩
  have HOR5 := hide ho5
  have HB45 := hide hb5
  obtain ⟨⟨x0, x1, x2⟩, _, xl⟩ := (HX34.out.below hb5).facts
  obtain ⟨⟨y0, y1, y2⟩, _, yl⟩ := (HX4.out.below hb5).facts
  have hw45 : W4.heap.size ≤ w5.heap.size := hb5.size
  have HIA := hide (Its.one (i := i) (HO4.out.txt.below HB45.out) (HN4.out.nods.below HB45.out))
  have HBA := hide (below_box w5 (.cells #[.string i.1, .slice ra rn rc, .slice ta tn tc] 29))
  have HIB := hide (Its.one (i := i) (HAR.out.below (below_two HB4.out (below_two HB45.out HBA.out))) (HAT.out.below (below_two HB4.out (below_two HB45.out HBA.out))))
  rw [show (w5.alloc (.cells #[.string i.1, .slice ra rn rc, .slice ta tn tc] 29)).heap.size = w5.heap.size + 1 by simp] at HIB
  have HBB := hide (below_two HBA.out (below_box (w5.alloc (.cells #[.string i.1, .slice ra rn rc, .slice ta tn tc] 29)) (.cells #[.string i.1, .slice ra' rn' rc', .slice ta' tn' tc'] 29)))
  have HIA2 := hide (HIA.out.below (below_box (w5.alloc (.cells #[.string i.1, .slice ra rn rc, .slice ta tn tc] 29)) (.cells #[.string i.1, .slice ra' rn' rc', .slice ta' tn' tc'] 29)))
  clear ho5 hb5 HIA
  go_wp2_with fail
  refine (sameIs_ok _ _ [i] [i] true _ HIA2.out HIB.out (by simp) (fun j hj => by rw [List.mem_singleton.1 hj]; exact HFI.out.1) (decide_eq_true rfl)).mono ?_
  rintro e w6 ⟨rfl, hb6⟩
  have HB46 := hide (below_two HB45.out (below_two HBB.out hb6))
  have HOR6 := hide (HOR5.out.below (below_two HBB.out hb6))
  have hbt : (t == t) = true := by simp
  clear hb6 x0 x1 x2 y0 y1 y2 HIA2 HIB HBB HBA
  go_wp2_with fail
  refine (rreach_ok _ _ _ ps _ _ _ xs R w6 (HA.out.below (below_two HB4.out HB46.out)) hn10 (HXS.out.below (below_two HB4.out HB46.out)) hm12 (fun j hj => (bigI_not (HBIG.out j hj)).2.1) HR.out).mono ?_
  rintro e w7 ⟨aQ, cQ, rfl, ho7, hb7⟩
  have HOQ := hide ho7
  have HB47 := hide (below_two HB46.out hb7)
  have HOR7 := hide (HOR6.out.below hb7)
  clear ho7 hb7 HOR6
  go_wp2_with fail
  refine (same_any _ _ R R w7 HOR7.out.txt HOQ.out.txt (by omega)).mono ?_
  rintro e w8 ⟨rfl, hb8⟩
  rw [decide_eq_true rfl]
  have HB48 := hide (below_two HB47.out hb8)
  have HOR8 := hide (HOR7.out.below hb8)
  clear hb8 HOR7 HOQ
  obtain ⟨z, hz⟩ : ∃ z, prefB p = z := ⟨_, rfl⟩
  have HZ := hide hz
  have hbz : (z == z) = true := by simp
  obtain ⟨r, hr⟩ : ∃ r, valV p (itsOf ps) = r := ⟨_, rfl⟩
  have HV := hide hr
  have hbr : (r == r) = true := by simp
  clear hz hr
  go_wp2_with fail
  refine (prefix_ok p z w8 HPX.out HZ.out).mono ?_
  rintro e w9 ⟨rfl, hw9⟩
  obtain rfl := hw9
  go_wp2_with fail
  refine (rprefix_ok p z w9 HPX.out HZ.out).mono ?_
  rintro e w10 ⟨rfl, hw10⟩
  obtain rfl := hw10
  go_wp2_with fail
  refine (validate_ok p _ (itsOf ps) r w w10 ⟨HSH.out, below_two HB4.out HB48.out⟩ (HSL.out.its.below (below_two HB4.out HB48.out)) HPX.out (by rw [HNI.out]; unfold maxLen; omega) HFAIR.out HV.out).mono ?_
  rintro e w11 ⟨rfl, _, hb11⟩
  have HB411 := hide (below_two HB48.out hb11)
  have HOR11 := hide (HOR8.out.below hb11)
  clear hb11 HOR8
  go_wp2_with fail
  refine (num_ok r w11).mono ?_
  rintro e w12 ⟨rfl, hw12⟩
  obtain rfl := hw12
  go_wp2_with fail
  refine (rvalidate_ok p _ (itsOf ps) r w w12 ⟨HSH.out, below_two HB4.out HB411.out⟩ (HSL.out.its.below (below_two HB4.out HB411.out)) HPX.out HFAIR.out HV.out).mono ?_
  rintro e w13 ⟨rfl, _, hb13⟩
  have HB413 := hide (below_two HB411.out hb13)
  have HOR13 := hide (HOR11.out.below hb13)
  have hw13 : W4.heap.size ≤ w13.heap.size := HB413.out.size
  clear hb13 HOR11
  go_wp2_with fail
  refine (overT_ok _ R W4.heap.size w13 HOR13.out hw13 (by omega)).mono ?_
  rintro e w14 ⟨rfl, hg14⟩
  have HB414 := hide (HB413.out.grown hg14 hw13 (fun k hk => (HOR13.out.lt k hk).1))
  have hw14 : W4.heap.size ≤ w14.heap.size := HB414.out.size
  obtain ⟨⟨x0, x1, x2⟩, _, xl⟩ := (HX34.out.below HB414.out).facts
  clear hg14
  have HBC := hide (below_box w14 (.cells #[.string i.1, .slice ra rn rc, .slice ta tn tc] 29))
  have HXC := hide (BoxI.made w14 i.1 (.slice ra rn rc) (.slice ta tn tc))
  have HO15 := hide (HO4.out.below (below_two HB414.out HBC.out))
  have HN15 := hide (HN4.out.below (below_two HB414.out HBC.out))
  have HX34' := hide (HX34.out.below (below_two HB414.out HBC.out))
  have HX4' := hide (HX4.out.below (below_two HB414.out HBC.out))
  have HB15 := hide (below_two HB4.out (below_two HB414.out HBC.out))
  have hs15 : (w14.alloc (.cells #[.string i.1, .slice ra rn rc, .slice ta tn tc] 29)).heap.size = w14.heap.size + 1 := by simp
  go_wp2_with fail
  refine (overI_one w14.heap.size i.1 ra rn rc ta tn tc i.2.1 i.2.2 w.heap.size base _ HXC.out HO15.out HN15.out (by have := HFI.out.2.1; omega) (by have := HFI.out.2.2; omega) (fun k hk => ⟨HBK.out k hk, by have := HBK.out k hk; omega⟩) (fun k hk => by have := HTB.out k hk; omega) hb1 (by rw [hs15]; omega) (by omega)).mono ?_
  rintro e w16 ⟨rfl, hb16, hk16⟩
  have HB16 := hide (HB15.out.trans hb16)
  have HKR : Hid (∀ k, w3.heap.size ≤ k → (Value.slice ra rn rc).ownBlock ≠ some k ∧ (Value.slice ta tn tc).ownBlock ≠ some k) := fun k hk => ⟨fun e => by have := HBK.out k e; omega, fun e => by have := HTB.out k e; omega⟩
  have HX9 : Hid (BoxI w16 w3.heap.size i.1 (.slice ra rn rc) (.slice ta tn tc)) := by
    unfold BoxI
    rw [hk16 w3.heap.size HX34'.out.facts.2.2 (HKR.out _ (Nat.le_refl _)).1 (HKR.out _ (Nat.le_refl _)).2 (by omega)]
    exact hide HX34'.out
  have HX11 : Hid (BoxI w16 w4.heap.size i.1 (.slice ra' rn' rc') (.slice ta' tn' tc')) := by
    unfold BoxI
    rw [hk16 w4.heap.size HX4'.out.facts.2.2 (HKR.out _ (by omega)).1 (HKR.out _ (by omega)).2 (by omega)]
    exact hide HX4'.out
  have hne : ¬ w3.heap.size = w4.heap.size := by omega
  have hne' : ¬ w4.heap.size = w3.heap.size := by omega
  clear hb16 hk16 HX34' HX4' HO15 HN15 HXC HBC HKR x0 x1 x2 xl
  go_wp2_with fail
  refine (get_ans _ ps s i t w16 (HSL.out.below HB16.out) (by rw [HN.out]; omega) HPAIR.out HGT.out).mono ?_
  rintro e w17 ⟨rd, rcd, td, tcd, base17, rfl, ho17, hn17, hc1, hc2, hck, hb17⟩
  rw [HRN.out] at ho17 hck ⊢
  rw [HTN.out] at hn17 ⊢
  have HO17 := hide ho17
  have HN17 := hide hn17
  have HB17 := hide hb17
  obtain ⟨⟨k0, k1, k2⟩, ⟨q0, q1, q2⟩, ql⟩ := (HX9.out.below hb17).facts
  obtain ⟨⟨y0, y1, y2⟩, _, yl⟩ := (HX11.out.below hb17).facts
  clear ho17 hn17 hb17
  have hg18 := storedI_grown w17 w3.heap.size (.string i.1) (.slice rd rn rcd) (.slice td tn tcd)
  have h316 : w3.heap.size < w16.heap.size := HX9.out.facts.2.2
  have HO18 := hide (Own.far HO17.out hg18 h316)
  have HN18 := hide (OwnN.far HN17.out hg18 (by omega))
  have HB18 := hide (storedI_below (below_two HB16.out HB17.out) hww3 (.string i.1) (.slice rd rn rcd) (.slice td tn tcd))
  obtain ⟨V, hV⟩ : ∃ V, V = ((w17.setCell ⟨w3.heap.size, 0, none⟩ (.string i.1)).setCell ⟨w3.heap.size, 1, none⟩ (.slice rd rn rcd)).setCell ⟨w3.heap.size, 2, none⟩ (.slice td tn tcd) := ⟨_, rfl⟩
  rw [← hV] at HO18 HN18 HB18
  have HVV := hide hV.symm
  have hvs : V.heap.size = w17.heap.size := by rw [hV]; simp [World.setCell]
  have HIA := hide (Its.one (i := i) HO18.out.txt HN18.out.nods)
  have HBA := hide (below_box V (.cells #[.string i.1, .slice rd rn rcd, .slice td tn tcd] 29))
  have HIB := hide (Its.one (i := i) (HAR.out.below (below_two HB18.out HBA.out)) (HAT.out.below (below_two HB18.out HBA.out)))
  have hvs2 : (V.alloc (.cells #[.string i.1, .slice rd rn rcd, .slice td tn tcd] 29)).heap.size = w17.heap.size + 1 := by simp [hvs]
  have HBB := hide (below_box (V.alloc (.cells #[.string i.1, .slice rd rn rcd, .slice td tn tcd] 29)) (.cells #[.string i.1, .slice ra' rn' rc', .slice ta' tn' tc'] 29))
  have HIA2 := hide (HIA.out.below HBB.out)
  rw [hvs2] at HIB
  rw [hvs] at HIA2
  have HB20 := hide (below_two HB18.out (below_two HBA.out HBB.out))
  clear hV hvs hvs2 hg18 HIA HO17 HN17
  go_wp2_with fail
  rw [HVV.out]
  refine (sameIs_ok _ _ [i] [i] true _ HIA2.out HIB.out (by simp) (fun j hj => by rw [List.mem_singleton.1 hj]; exact HFI.out.1) (decide_eq_true rfl)).mono ?_
  rintro e w21 ⟨rfl, hb21⟩
  have HB21 := hide (below_two HB20.out hb21)
  clear hb21
  go_wp2_with fail
  refine (awake9_ok w w21 ⟨HSH.out, HB21.out⟩).mono ?_
  rintro e w22 ⟨rfl, ok22, _⟩
  go_wp2
  go_ret
  exact ⟨rfl, ok22.2⟩
end Go.Proofs.YtinjbijigjfdfaaGreatDoor
