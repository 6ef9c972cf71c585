/- The walk of ScanTells. -/
import Derived.Test.YteccbnhbdfplfaaSS
import Derived.Test.YteccbnhbdfplfaaSM
import Derived.Test.YteccbnhbdfplfaaPlainP
import Derived.Test.YteccbnhbdfplfaaR9
import Derived.Test.YteccbnhbdfplfaaXB
import Derived.Test.YteccbnhbdfplfaaN11
namespace Go.Proofs.Yteccbnhbdfplfaa
open Go.RowKit

theorem own_apart {base B : Nat} {w w' : World} {v : Value} {xs : List ByteArray} {row : Option Nat} (h : Own base w v xs) (hg : w.grownBy w' row) (hr : ∀ k, row = some k → k < B) (hB : B ≤ base) : Own base w' v xs := by
  refine World.ownsRow.kept h hg ?_
  cases hv : v.ownBlock with
  | none => exact .inl rfl
  | some k =>
    refine .inr fun e => ?_
    have h1 := (h.lt k hv).1
    have h2 := hr k e.symm
    omega
theorem told_len (act : ByteArray → Bool) (xs : List ByteArray) : (toldT act xs).length ≤ xs.length := by
  unfold toldT
  rw [List.length_map]
  refine Nat.le_trans (Hog.pick_len _) ?_
  unfold plainT seenT
  rw [List.length_map]
  exact List.length_filter_le _ _
theorem nums_len8 (l : List Nat) : (nums l).length = l.length := by unfold nums; rw [List.length_map]
theorem lent_apart {w w' : World} {g k : Nat} {xs : List ByteArray} {row : Option Nat} (h : Lent w g k xs) (hg : w.grownBy w' row) (hr : ∀ j, row = some j → g < j) : Lent w' g k xs := by
  obtain ⟨cur, h1, r⟩ := h
  refine ⟨cur, ?_, r⟩
  rw [hg.block g (Array.getElem?_eq_some_iff.1 h1).1 (fun e => by have := hr g e.symm; omega)]
  exact h1

set_option maxRecDepth 100000 in
set_option maxHeartbeats 4000000 in
theorem tells_walk (s p : ByteArray) (ao : Option Addr) (n c : Nat) (xs : List ByteArray) (bo : Option Addr) (m d : Nat) (ns : List Nd) (w : World) (hs : s.size ≤ maxLen) (hp : p.size ≤ maxLen)
    (ha : Arg w ao n c xs) (hn : n ≤ maxLen) (hz : ∀ x ∈ xs, x.size ≤ maxLen) (hb : ArgN w bo m d ns) (hm : m ≤ maxLen) :
    Calls Try.prog 3 #[.string s, .string p, .slice ao n c, .slice bo m d] w fun e w' => e = .returned (.bool true) ∧ Below w.heap.size w w' := by
  have hsi : (s.size : Int) ≤ 9223372036854775807 := by unfold maxLen at hs; omega
  have hpi : (p.size : Int) ≤ 9223372036854775807 := by unfold maxLen at hp; omega
  have HA := hide ha
  have HB := hide hb
  have HZ := hide hz
  have HAN := hide ha.len
  have HBM := hide hb.len
  have HAM : Hid (xs.length ≤ maxLen) := by rw [ha.len]; exact hn
  have HNM : Hid (ns.length ≤ maxLen) := by rw [hb.len]; exact hm
  have HAW := hide (awake8_ok)
  clear hs hp ha hb hz hn hm
  go_enter Try.func3, Try.ntmps3
  by_cases h1 : 400 < s.size
  · have h1i : (400 : Int) < (s.size : Int) := by omega
    go_wp2_with fail
    refine (HAW.out w).mono ?_
    rintro e w1 ⟨rfl, hb1⟩
    have HB1 := hide hb1
    clear hb1
    go_wp2
    go_ret
    exact ⟨rfl, HB1.out⟩
  have h1i : (s.size : Int) ≤ 400 := by omega
  by_cases h2 : 400 < p.size
  · have h2i : (400 : Int) < (p.size : Int) := by omega
    go_wp2_with fail
    refine (HAW.out w).mono ?_
    rintro e w1 ⟨rfl, hb1⟩
    have HB1 := hide hb1
    clear hb1
    go_wp2
    go_ret
    exact ⟨rfl, HB1.out⟩
  have h2i : (p.size : Int) ≤ 400 := by omega
  have HS4 : Hid (s.size ≤ 400) := by show _ ≤ _; omega
  have HP4 : Hid (p.size ≤ 400) := by show _ ≤ _; omega
  clear h1 h2 hsi hpi
  obtain ⟨g3, hg3⟩ : ∃ g, greatT 12 100 xs = g := ⟨_, rfl⟩
  have HG3 := hide hg3
  obtain ⟨g4, hg4⟩ : ∃ g, greatN 30 ns = g := ⟨_, rfl⟩
  have HG4 := hide hg4
  clear hg3 hg4
  go_wp2_with fail
  refine (greatT_ok _ 12 100 xs g3 w HA.out.txt HAM.out (by decide) (by decide) HG3.out).mono ?_
  rintro e w0 ⟨rfl, hw0⟩
  obtain rfl := hw0
  cases g3 with
  | true =>
    go_wp2_with fail
    refine (HAW.out _).mono ?_
    rintro e w1 ⟨rfl, hb1⟩
    have HB1 := hide hb1
    clear hb1
    go_wp2
    go_ret
    exact ⟨rfl, HB1.out⟩
  | false =>
  go_wp2_with fail
  refine (greatN_ok _ 30 ns g4 w0 HB.out.nods HNM.out (by decide) (by decide) HG4.out).mono ?_
  rintro e w9 ⟨rfl, hw9⟩
  obtain rfl := hw9
  cases g4 with
  | true =>
    go_wp2_with fail
    refine (HAW.out _).mono ?_
    rintro e w1 ⟨rfl, hb1⟩
    have HB1 := hide hb1
    clear hb1
    go_wp2
    go_ret
    exact ⟨rfl, HB1.out⟩
  | false =>
  rename World => w
  have hn12 : n ≤ 12 := by have := (greatT_not HG3.out).1; rw [HAN.out] at this; omega
  have HL12 : Hid (xs.length ≤ 900) := by show _ ≤ _; rw [HAN.out]; omega
  have HM30 : Hid (ns.length < 900000) := by have := (greatN_not HG4.out).1; show _ < _; omega
  have HD5 : Hid (∀ x ∈ ns, x.2.2.size < 900000) := fun x hx => by have := ((greatN_not HG4.out).2 x hx).2; omega
  obtain ⟨L, hL⟩ : ∃ L, Hog.placesL p.data.toList s.data.toList = L := ⟨_, rfl⟩
  obtain ⟨R1, hR1⟩ : ∃ R, toldT (hitB s) xs = R := ⟨_, rfl⟩
  obtain ⟨R2, hR2⟩ : ∃ R, toldT (hitN ns) xs = R := ⟨_, rfl⟩
  have HLL : Hid (L.length ≤ 401) := by rw [← hL]; refine Nat.le_trans Hog.places_len ?_; rw [← Hog.size_len]; exact Nat.succ_le_succ HS4.out
  have HL1 : Hid (R1.length ≤ 12) := by rw [← hR1]; exact Nat.le_trans (told_len _ _) (by rw [HAN.out]; exact hn12)
  have HL2 : Hid (R2.length ≤ 12) := by rw [← hR2]; exact Nat.le_trans (told_len _ _) (by rw [HAN.out]; exact hn12)
  have HL := hide hL
  have HR1 := hide hR1
  have HR2 := hide hR2
  clear hL hR1 hR2
  go_wp2_with fail
  refine (lend_any ao n c xs w HA.out (by omega)).mono ?_
  rintro e w1 ⟨rfl, hl1, hb1⟩
  obtain ⟨g, hg⟩ : ∃ g, g = w.heap.size := ⟨_, rfl⟩
  rw [← hg] at hl1 ⊢
  have HLE1 := hide hl1
  have HB1 := hide hb1
  have HG1 : Hid (g < w1.heap.size) := (Array.getElem?_eq_some_iff.1 hl1.choose_spec.1).1
  have HGW := hide hg
  clear hl1 hb1 hg
  go_wp2_with fail
  refine (places_ok s p L w1 (by have := HP4.out; omega) (by have := HS4.out; omega) HL.out).mono ?_
  rintro e w2 ⟨a2, c2, rfl, ho2, hb2⟩
  have HO2 := hide ho2
  have HG2 : Hid (∀ k, (Value.slice a2 L.length c2).ownBlock = some k → w1.heap.size ≤ k ∧ k < w2.heap.size) := fun k hk => ho2.lt k hk
  have HLE2 := hide (HLE1.out.below hb2)
  have HB2 := hide (below_two HB1.out hb2)
  have HS12 := hide hb2.size
  clear ho2 hb2 HLE1 HB1
  go_wp2_with fail
  refine (text_ok s _ xs R1 w2 (by have := HS4.out; omega) (by rw [← HAN.out]; exact HLE2.out.txt) (by have := HL12.out; omega) HZ.out HR1.out).mono ?_
  rintro e w3 ⟨a3, c3, rfl, ho3, hb3⟩
  have HO3 := hide ho3
  have HG3' : Hid (∀ k, (Value.slice a3 R1.length c3).ownBlock = some k → w2.heap.size ≤ k ∧ k < w3.heap.size) := fun k hk => ho3.lt k hk
  have HO2b := hide (HO2.out.below hb3)
  have HLE3 := hide (HLE2.out.below hb3)
  have HB3 := hide (below_two HB2.out hb3)
  have HS23 := hide hb3.size
  clear ho3 hb3 HLE2 HB2 HO2
  go_wp2_with fail
  refine (tree_ok _ ns _ xs R2 w3 (HB.out.nods.below HB3.out) HM30.out (fun x hx => by have := HD5.out x hx; omega) (by rw [← HAN.out]; exact HLE3.out.txt) (by have := HL12.out; omega) HZ.out HR2.out).mono ?_
  rintro e w4 ⟨a4, c4, rfl, ho4, hb4⟩
  have HO4 := hide ho4
  have HO2c := hide (HO2b.out.below hb4)
  have HO3c := hide (HO3.out.below hb4)
  have HLE4 := hide (HLE3.out.below hb4)
  have HB4 := hide (below_two HB3.out hb4)
  have HS34 := hide hb4.size
  clear ho4 hb4 HLE3 HB3 HO2b HO3
  go_wp2_with fail
  refine (rplaces_ok s p L w4 (by have := HP4.out; omega) (by have := HS4.out; omega) HL.out).mono ?_
  rintro e w5 ⟨a5, c5, rfl, ho5, hb5⟩
  have HX5 := hide ho5.txt
  have HQ5 := hide hb5
  clear ho5 hb5
  go_wp2_with fail
  refine (sameZ_any _ _ (nums L) (nums L) w5 (HO2c.out.below HQ5.out).txt HX5.out (by rw [nums_len8]; have := HLL.out; omega)).mono ?_
  rintro e w6 ⟨rfl, hb6⟩
  rw [decide_eq_true rfl]
  have HQ6 := hide (below_two HQ5.out hb6)
  clear hb6 HX5 HQ5
  go_wp2_with fail
  refine (rtext_ok s _ xs R1 w6 (by have := HS4.out; omega) (HA.out.txt.below (below_two HB4.out HQ6.out)) HL12.out HZ.out HR1.out).mono ?_
  rintro e w7 ⟨a7, c7, rfl, ho7, hb7⟩
  have HX7 := hide ho7.txt
  have HQ7 := hide (below_two HQ6.out hb7)
  clear ho7 hb7 HQ6
  go_wp2_with fail
  refine (same_any _ _ R1 R1 w7 (HO3c.out.below HQ7.out).txt HX7.out (by have := HL1.out; omega)).mono ?_
  rintro e w8 ⟨rfl, hb8⟩
  rw [decide_eq_true rfl]
  have HQ8 := hide (below_two HQ7.out hb8)
  clear hb8 HX7 HQ7
  go_wp2_with fail
  refine (rtree_ok _ ns _ xs R2 w8 (HB.out.nods.below (below_two HB4.out HQ8.out)) HM30.out HD5.out (HA.out.txt.below (below_two HB4.out HQ8.out)) HL12.out HZ.out HR2.out).mono ?_
  rintro e w9 ⟨a9, c9, rfl, ho9, hb9⟩
  have HX9 := hide ho9.txt
  have HQ9 := hide (below_two HQ8.out hb9)
  clear ho9 hb9 HQ8
  go_wp2_with fail
  refine (same_any _ _ R2 R2 w9 (HO4.out.below HQ9.out).txt HX9.out (by have := HL2.out; omega)).mono ?_
  rintro e w10 ⟨rfl, hb10⟩
  rw [decide_eq_true rfl]
  have HQ10 := hide (below_two HQ9.out hb10)
  clear hb10 HX9 HQ9
  obtain ⟨hs, hhs⟩ : ∃ b, Hog.hasL p.data.toList s.data.toList = b := ⟨_, rfl⟩
  have HHS := hide hhs
  have HHD : Hid (hs = decide (0 < L.length)) := by rw [← hhs, has_len, HL.out]; exact hide rfl
  clear hhs
  go_wp2_with fail
  refine (has_ok s p hs w10 (by have := HP4.out; omega) (by have := HS4.out; omega) HHS.out).mono ?_
  rintro e w11 ⟨rfl, hb11⟩
  have HQ11 := hide (below_two HQ10.out hb11)
  clear hb11 HQ10
  go_wp2_with fail
  refine (rplaces_ok s p L w11 (by have := HP4.out; omega) (by have := HS4.out; omega) HL.out).mono ?_
  rintro e w12 ⟨a12, c12, rfl, ho12, hb12⟩
  have HQ12 := hide (below_two HQ11.out hb12)
  clear ho12 hb12 HQ11
  have heq : (hs == decide (0 < L.length)) = true := by rw [← HHD.out]; simp
  have HO2d := hide (HO2c.out.below HQ12.out)
  have HO3d := hide (HO3c.out.below HQ12.out)
  have HO4d := hide (HO4.out.below HQ12.out)
  have HLE12 := hide (HLE4.out.below HQ12.out)
  have HB12 := hide (below_two HB4.out HQ12.out)
  have HS4c : Hid (w4.heap.size ≤ w12.heap.size) := HQ12.out.size
  clear HO2c HO3c HO4 HLE4 HB4 HQ12
  go_wp2_with fail
  refine (overZ_ok _ (nums L) w1.heap.size w12 HO2d.out (by have := HS12.out; have := HS23.out; have := HS34.out; have := HS4c.out; omega) (by rw [nums_len8]; have := HLL.out; omega)).mono ?_
  rintro e w13 ⟨rfl, hg13⟩
  have HO3e := hide (own_apart HO3d.out hg13 (fun k hk => (HG2.out k hk).2) (Nat.le_refl _))
  have HO4e := hide (own_apart HO4d.out hg13 (fun k hk => (HG2.out k hk).2) HS23.out)
  have HLE13 := hide (lent_apart HLE12.out hg13 (fun k hk => by have := (HG2.out k hk).1; have := HG1.out; omega))
  have HB13 := hide (HB12.out.grown hg13 HB12.out.size (fun k hk => by have := (HG2.out k hk).1; have := HG1.out; have := HGW.out; omega))
  have HS13 : Hid (w4.heap.size ≤ w13.heap.size) := Nat.le_trans HS4c.out hg13.size
  clear hg13 HO2d HO3d HO4d HLE12 HB12 HS4c
  go_wp2_with fail
  refine (overT_ok _ R1 w2.heap.size w13 HO3e.out (by have := HS23.out; have := HS34.out; have := HS13.out; omega) (by have := HL1.out; omega)).mono ?_
  rintro e w14 ⟨rfl, hg14⟩
  have HO4f := hide (own_apart HO4e.out hg14 (fun k hk => (HG3'.out k hk).2) (Nat.le_refl _))
  have HLE14 := hide (lent_apart HLE13.out hg14 (fun k hk => by have := (HG3'.out k hk).1; have := HG1.out; have := HS12.out; omega))
  have HB14 := hide (HB13.out.grown hg14 HB13.out.size (fun k hk => by have := (HG3'.out k hk).1; have := HG1.out; have := HGW.out; have := HS12.out; omega))
  have HS14 : Hid (w4.heap.size ≤ w14.heap.size) := Nat.le_trans HS13.out hg14.size
  have HG4' : Hid (∀ k, (Value.slice a4 R2.length c4).ownBlock = some k → w3.heap.size ≤ k) := fun k hk => (HO4f.out.lt k hk).1
  clear hg14 HO3e HO4e HLE13 HB13 HS13
  go_wp2_with fail
  refine (overT_ok _ R2 w3.heap.size w14 HO4f.out (by have := HS34.out; have := HS14.out; omega) (by have := HL2.out; omega)).mono ?_
  rintro e w15 ⟨rfl, hg15⟩
  have HLE15 := hide (lent_apart HLE14.out hg15 (fun k hk => by have := HG4'.out k hk; have := HG1.out; have := HS12.out; have := HS23.out; omega))
  have HB15 := hide (HB14.out.grown hg15 HB14.out.size (fun k hk => by have := HG4'.out k hk; have := HG1.out; have := HGW.out; have := HS12.out; have := HS23.out; omega))
  clear hg15 HO4f HLE14 HB14 HS14
  go_wp2_with fail
  refine (kept_ok ao g n c xs w w15 HB15.out HLE15.out (HA.out.below HB15.out) (by omega)).mono ?_
  rintro e w16 ⟨rfl, hb16⟩
  have HB16 : Hid (Below w.heap.size w w16) := hb16
  clear hb16
  go_wp2_with fail
  refine (HAW.out w16).mono ?_
  rintro e w17 ⟨rfl, hb17⟩
  have HB17 := hide (below_two HB16.out hb17)
  clear hb17
  go_wp2
  go_ret
  exact ⟨rfl, HB17.out⟩
end Go.Proofs.Yteccbnhbdfplfaa
