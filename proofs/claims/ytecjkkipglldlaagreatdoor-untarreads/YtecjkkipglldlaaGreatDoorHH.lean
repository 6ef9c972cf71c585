/- The walk of the document's Lay, where there is a header. -/
import Derived.Test.YtecjkkipglldlaaGreatDoorHG
namespace Go.Proofs.YtecjkkipglldlaaGreatDoor
open Go.RowKit Hog

set_option maxRecDepth 100000 in
set_option maxHeartbeats 8000000 in
theorem rlay_good (s t : ByteArray) (nm lk : List UInt8) (k sz : Int) (w0 w : World) (hok : Ok w0 w) (hs : s.data.toList = nm) (ht : t.data.toList = lk) (h : May nm k sz lk) :
    Calls Tryz.prog 33 #[.string s, .int .i64 k, .int .i64 sz, .string t] w fun e w' => ∃ g, e = .returned (.tuple #[.slice (some ⟨g, 0, none⟩) 512 512, .bool true]) ∧ w.heap.size ≤ g ∧ RowH w' g (headH nm k sz lk) ∧ Ok w0 w' ∧ Below w.heap.size w w' := by
  have hsz : sz < 9223372036854775808 := by
    have := oct_room h.size
    have h2 : 8 ^ (11 : Int).toNat = 8589934592 := by decide
    omega
  have hkr := mayK_range h.kind
  obtain ⟨x, hx⟩ : ∃ x, octL 11 sz.toNat = x := ⟨_, rfl⟩
  obtain ⟨md, hmd⟩ : ∃ md, modeK k = md := ⟨_, rfl⟩
  obtain ⟨sg, hsg⟩ : ∃ sg, signK k = sg := ⟨_, rfl⟩
  have HXL : Hid (x.length = 11) := by rw [← hx]; exact hide (octL_len _ _)
  have HML : Hid (md.length = 7) := by rw [← hmd]; exact hide (modeK_len k)
  have HX : Hid (octT sz 11 = x) := by unfold octT; rw [if_pos h.size]; exact hide hx
  have HM := hide hmd
  have HG := hide hsg
  have HS := hide hs
  have HT := hide ht
  have HOK := hide hok
  have H := hide h
  have HK1 := hide hkr.1
  have HK5 := hide hkr.2
  have n1 := nil_no hs h.some
  have hf1 := fillB_of h.name
  have hf2 := fillB_of h.link
  have d1 : ¬ ((s.size : Int) > 100) := by rw [Hog.size_len, hs]; omega
  have d3 : ¬ ((t.size : Int) > 100) := by rw [Hog.size_len, ht]; omega
  have HSS : Hid (s.size < 1000000000) := by rw [Hog.size_len, hs]; exact hide (by omega)
  have HTS : Hid (t.size < 1000000000) := by rw [Hog.size_len, ht]; exact hide (by omega)
  have Z1 := hide (decide_eq_false hf1.2)
  have Z2 := hide (decide_eq_false hf2.2)
  have c5 : ¬ (k < 1) := by omega
  have c6 : ¬ (k > 5) := by omega
  have ways : ((k == 1) = true ∧ (k == 4) = false ∧ (t.toList == []) = true ∧ (sz != 0) = false) ∨ ((k == 1) = false ∧ (k == 4) = true ∧ (t.toList == []) = false ∧ (sz != 0) = false) ∨ ((k == 1) = false ∧ (k == 4) = false ∧ (t.toList == []) = true ∧ True) := by
    have hk := h.kind
    unfold mayK at hk
    rw [decide_eq_true_eq] at hk
    rcases hk with ⟨rfl, rfl, e⟩ | ⟨rfl, rfl, e⟩ | ⟨hk, e⟩
    · exact .inl ⟨rfl, rfl, nil_yes ht e, rfl⟩
    · exact .inr (.inl ⟨rfl, rfl, nil_no ht e, rfl⟩)
    · exact .inr (.inr ⟨by rw [beq_eq_false_iff_ne]; omega, by rw [beq_eq_false_iff_ne]; omega, nil_yes ht e, trivial⟩)
  obtain ⟨l1, e1⟩ : ∃ l, splice (pad 512 []) 0 nm = l := ⟨_, rfl⟩
  obtain ⟨l2, e2⟩ : ∃ l, splice l1 100 md = l := ⟨_, rfl⟩
  obtain ⟨l3, e3⟩ : ∃ l, splice l2 108 own7 = l := ⟨_, rfl⟩
  obtain ⟨l4, e4⟩ : ∃ l, splice l3 116 own7 = l := ⟨_, rfl⟩
  obtain ⟨l5, e5⟩ : ∃ l, splice l4 124 x = l := ⟨_, rfl⟩
  obtain ⟨l6, e6⟩ : ∃ l, splice l5 136 time11 = l := ⟨_, rfl⟩
  obtain ⟨l7, e7⟩ : ∃ l, splice l6 148 blanks = l := ⟨_, rfl⟩
  obtain ⟨l8, e8⟩ : ∃ l, splice (l7.set 156 sg) 157 lk = l := ⟨_, rfl⟩
  obtain ⟨l9, e9⟩ : ∃ l, splice l8 257 mark8 = l := ⟨_, rfl⟩
  have HNL := hide (fillB_of h.name).1
  have HLL := hide (fillB_of h.link).1
  have L0 : (pad 512 []).length = 512 := pad_len (by decide)
  have L1 := len_on e1 L0 (by have := HNL.out; omega)
  have L2 := len_on e2 L1 (by have := HML.out; omega)
  have L3 := len_on e3 L2 (by decide)
  have L4 := len_on e4 L3 (by decide)
  have L5 := len_on e5 L4 (by rw [HXL.out]; omega)
  have L6 := len_on e6 L5 (by decide)
  have L7 := len_on e7 L6 (by decide)
  have e8' : splice (splice l7 156 [sg]) 157 lk = l8 := by rw [← over_set sg (by omega)]; exact e8
  have L8 := len_on e8 (by rw [List.length_set]; exact L7) (by have := HLL.out; omega)
  have L9 := len_on e9 L8 (by decide)
  have HRAW := hide (chain_ref h hx hmd hsg e1 e2 e3 e4 e5 e6 e7 e8' e9)
  have HL0 := hide L0
  have HL1 := hide L1
  have HL2 := hide L2
  have HL3 := hide L3
  have HL4 := hide L4
  have HL5 := hide L5
  have HL6 := hide L6
  have HL7 := hide L7
  have HL7' : Hid ((l7.set 156 sg).length = 512) := by rw [List.length_set]; exact hide L7
  have HL8 := hide L8
  have HL9 := hide L9
  have HE1 := hide e1
  have HE2 := hide e2
  have HE3 := hide e3
  have HE4 := hide e4
  have HE5 := hide e5
  have HE6 := hide e6
  have HE7 := hide e7
  have HE8 := hide e8
  have HE9 := hide e9
  obtain ⟨z7, hz7⟩ : ∃ z, l7[156]? = some z := ⟨l7[156]'(by omega), List.getElem?_eq_some_iff.2 ⟨_, rfl⟩⟩
  have HZ7 := hide hz7
  obtain ⟨sm, hsm⟩ : ∃ sm, octL 6 (sumL l9) = sm := ⟨_, rfl⟩
  have HSM := hide hsm
  have hsl : sm.length = 6 := by rw [← hsm]; exact octL_len _ _
  have hsb : (mk sm).size ≤ 6 := by rw [mk_size]; omega
  have HSX : Hid ((mk sm ++ ⟨#[0, 32]⟩ : ByteArray).data.toList = sm ++ [0, 32]) := by rw [show (⟨#[0, 32]⟩ : ByteArray) = mk [0, 32] by rfl, mk_join, mk_data]; exact hide rfl
  have HSL := hide hsl
  have HSR := hide (sum_room (l := l9) (by omega))
  have HSLE := hide (sumL_le l9)
  have HEND : Hid (splice l9 148 (sm ++ [0, 32]) = headH nm k sz lk) := by
    rw [← hsm]
    unfold headH
    rw [← HRAW.out]
    exact hide rfl
  clear hf1 hf2 hsm hsl e8' hz7 hx hmd hsg hs ht hok h hkr e1 e2 e3 e4 e5 e6 e7 e8 e9 L0 L1 L2 L3 L4 L5 L6 L7 L8 L9
  rcases ways with ⟨k1, k4, n2, s0⟩ | ⟨k1, k4, n2, s0⟩ | ⟨k1, k4, n2, s0⟩
  all_goals
    go_enter Tryz.func33, Tryz.ntmps33
    go_wp2_with fail
    refine (rzero_ok s nm false w HS.out Z1.out HSS.out).mono ?_
    rintro e w1 ⟨rfl, rfl⟩
    go_wp2_with fail
    refine (rzero_ok t lk false w1 HT.out Z2.out HTS.out).mono ?_
    rintro e w2 ⟨rfl, rfl⟩
    go_wp2_with fail
    refine (roctal_ok sz 11 x true w0 w2 HOK.out hsz HX.out H.out.size).mono ?_
    rintro e wa ⟨rfl, ok1, hb1⟩
    have HOK1 := hide ok1
    have HGB : Hid (w2.heap.size ≤ wa.heap.size) := hide hb1.size
    have HR0 : Hid (RowH (wa.alloc objH) wa.heap.size (pad 512 [])) := hide (heap_alloc_new wa _)
    have HB0 : Hid (Below w2.heap.size w2 (wa.alloc objH)) := hide (hb1.alloc hb1.size _)
    obtain ⟨G, hG⟩ : ∃ G, wa.heap.size = G := ⟨_, rfl⟩
    obtain ⟨V, hV⟩ : ∃ V, wa.alloc objH = V := ⟨_, rfl⟩
    have hmk1 := run_makeH wa
    rw [hG, hV] at hmk1
    rw [hG] at HGB HR0
    rw [hV] at HR0 HB0
    clear ok1 hb1 hG hV
    go_wp2_with (refine wpList_copy_str rfl _ _ rfl G 0 _ _ rfl _ rfl (pad 512 []) nm l1 HR0.out HS.out HE1.out ?_ ?_ w2.heap.size w2 HB0.out HGB.out ?_)
    · first | (have := HNL.out; omega) | (have := HLL.out; omega) | (have := HML.out; omega) | (rw [HXL.out]; omega) | decide
    · rw [HL0.out]; first | (have := HNL.out; omega) | (have := HLL.out; omega) | (have := HML.out; omega) | (rw [HXL.out]; omega) | decide
    intro v1 HR1 HB1
    clear HR0 HB0 hmk1
    go_wp2_with fail
    refine wp_region_any (by kernel_rfl) ?_
    change wpAny _ _ _ _ _ _ _ (World.drew _)
    refine wpAny_take (i := 0) (v := .slice (some ⟨G, 0, none⟩) 512 512) rfl (by kernel_rfl) (by kernel_rfl) (by kernel_rfl) (fun _ _ _ h => h) (Or.inl ⟨by kernel_rfl, ?_⟩) ?_
    · intro w'; go_simp
    refine wpAny_take (i := 1) (v := .slice (some ⟨G, 100, none⟩) 412 412) rfl (by kernel_rfl) (by kernel_rfl) (by kernel_rfl) (fun _ _ _ h => h) (Or.inl ⟨by kernel_rfl, ?_⟩) ?_
    · intro w'; go_simp
    refine wpAny_take (i := 2) (v := .int .i64 k) rfl (by kernel_rfl) (by kernel_rfl) (by kernel_rfl) (fun _ _ _ h => h) (Or.inl ⟨by kernel_rfl, ?_⟩) ?_
    · intro w'; go_simp
    refine wpAny_ready (rs := [3]) (by kernel_rfl) (by simp) (AllReady.cons rfl ?_ AllReady.nil)
    intro K hK
    go_simp
    have HBd : Hid (Below v1.heap.size v1 v1.drew) := hide (Below.refl _ v1).drew
    have HRd : Hid (RowH v1.drew G l1) := hide (HR1.out.below HBd.out HR1.out.lt)
    refine (rmode_any k md v1.drew HK1.out HK5.out HM.out).mono ?_
    rintro e vm ⟨rfl, hbm⟩
    have HRm : Hid (RowH vm G l1) := hide (HRd.out.below hbm HRd.out.lt)
    have HBm : Hid (Below w2.heap.size w2 vm) := hide ((below_two HB1.out HBd.out).trans (hbm.mono (below_two HB1.out HBd.out).size))
    clear hbm
    refine hK _ _ ?_
    clear hK K HBd HRd HR1 HB1
    refine wpAny_ready (rs := [4]) (by kernel_rfl) (by simp) (AllReady.cons rfl ?_ AllReady.nil)
    intro K hK
    refine step_copy_str rfl (.tmp 74) (.tmp 76) rfl G 100 412 412 (by simp [Act.eval]) _ (by simp [Act.eval]) l1 md l2 HRm.out (mk_data md) HE2.out ?_ ?_ w2.heap.size w2 HBm.out HGB.out ?_
    · first | (have := HNL.out; omega) | (have := HLL.out; omega) | (have := HML.out; omega) | (rw [HXL.out]; omega) | decide
    · rw [HL1.out]; first | (have := HNL.out; omega) | (have := HLL.out; omega) | (have := HML.out; omega) | (rw [HXL.out]; omega) | decide
    intro v2 HR2 HB2
    refine hK _ _ ?_
    clear hK K HRm HBm
    refine wpAny_done (by kernel_rfl) ?_ _
    go_wp2_with (refine wpList_copy_str rfl _ _ rfl G 108 _ _ rfl _ rfl l2 own7 l3 HR2.out rfl HE3.out ?_ ?_ w2.heap.size w2 HB2.out HGB.out ?_)
    · first | (have := HNL.out; omega) | (have := HLL.out; omega) | (have := HML.out; omega) | (rw [HXL.out]; omega) | decide
    · rw [HL2.out]; first | (have := HNL.out; omega) | (have := HLL.out; omega) | (have := HML.out; omega) | (rw [HXL.out]; omega) | decide
    intro v3 HR3 HB3
    clear HR2 HB2
    go_wp2_with (refine wpList_copy_str rfl _ _ rfl G 116 _ _ rfl _ rfl l3 own7 l4 HR3.out rfl HE4.out ?_ ?_ w2.heap.size w2 HB3.out HGB.out ?_)
    · first | (have := HNL.out; omega) | (have := HLL.out; omega) | (have := HML.out; omega) | (rw [HXL.out]; omega) | decide
    · rw [HL3.out]; first | (have := HNL.out; omega) | (have := HLL.out; omega) | (have := HML.out; omega) | (rw [HXL.out]; omega) | decide
    intro v4 HR4 HB4
    clear HR3 HB3
    go_wp2_with (refine wpList_copy_str rfl _ _ rfl G 124 _ _ rfl _ rfl l4 x l5 HR4.out (mk_data x) HE5.out ?_ ?_ w2.heap.size w2 HB4.out HGB.out ?_)
    · first | (have := HNL.out; omega) | (have := HLL.out; omega) | (have := HML.out; omega) | (rw [HXL.out]; omega) | decide
    · rw [HL4.out]; first | (have := HNL.out; omega) | (have := HLL.out; omega) | (have := HML.out; omega) | (rw [HXL.out]; omega) | decide
    intro v5 HR5 HB5
    clear HR4 HB4
    go_wp2_with (refine wpList_copy_str rfl _ _ rfl G 136 _ _ rfl _ rfl l5 time11 l6 HR5.out rfl HE6.out ?_ ?_ w2.heap.size w2 HB5.out HGB.out ?_)
    · first | (have := HNL.out; omega) | (have := HLL.out; omega) | (have := HML.out; omega) | (rw [HXL.out]; omega) | decide
    · rw [HL5.out]; first | (have := HNL.out; omega) | (have := HLL.out; omega) | (have := HML.out; omega) | (rw [HXL.out]; omega) | decide
    intro v6 HR6 HB6
    clear HR5 HB5
    go_wp2_with (refine wpList_copy_str rfl _ _ rfl G 148 _ _ rfl _ rfl l6 blanks l7 HR6.out rfl HE7.out ?_ ?_ w2.heap.size w2 HB6.out HGB.out ?_)
    · first | (have := HNL.out; omega) | (have := HLL.out; omega) | (have := HML.out; omega) | (rw [HXL.out]; omega) | decide
    · rw [HL6.out]; first | (have := HNL.out; omega) | (have := HLL.out; omega) | (have := HML.out; omega) | (rw [HXL.out]; omega) | decide
    intro v7 HR7 HB7
    clear HR6 HB6
    go_wp2_with fail
    refine (rletter_ok k sg v7 HK1.out HK5.out HG.out).mono ?_
    rintro e v7 ⟨rfl, rfl⟩
    have c7 := HR7.out.cell HZ7.out
    have f7 := HR7.out.free 156
    have HR7' : Hid (RowH (v7.setCell ⟨G, 156, none⟩ (.int .u8 sg.toNat)) G (l7.set 156 sg)) := hide (HR7.out.stored 156 sg)
    have HB7' : Hid (Below w2.heap.size w2 (v7.setCell ⟨G, 156, none⟩ (.int .u8 sg.toNat))) := hide (HB7.out.setCell HGB.out _)
    go_wp2_with (refine wpList_copy_str rfl _ _ rfl G 157 _ _ rfl _ rfl (l7.set 156 sg) lk l8 HR7'.out HT.out HE8.out ?_ ?_ w2.heap.size w2 HB7'.out HGB.out ?_)
    · first | (have := HNL.out; omega) | (have := HLL.out; omega) | (have := HML.out; omega) | (rw [HXL.out]; omega) | decide
    · rw [HL7'.out]; first | (have := HNL.out; omega) | (have := HLL.out; omega) | (have := HML.out; omega) | (rw [HXL.out]; omega) | decide
    intro v8 HR8 HB8
    clear HR7 HB7 HR7' HB7' c7 f7
    go_wp2_with (refine wpList_copy_str rfl _ _ rfl G 257 _ _ rfl _ rfl l8 mark8 l9 HR8.out rfl HE9.out ?_ ?_ w2.heap.size w2 HB8.out HGB.out ?_)
    · first | (have := HNL.out; omega) | (have := HLL.out; omega) | (have := HML.out; omega) | (rw [HXL.out]; omega) | decide
    · rw [HL8.out]; first | (have := HNL.out; omega) | (have := HLL.out; omega) | (have := HML.out; omega) | (rw [HXL.out]; omega) | decide
    intro v9 HR9 HB9
    clear HR8 HB8
    go_wp2_with fail
    go_loopw [13, 14] (fun q i wr => ∃ (j a : Nat), j ≤ 512 ∧ i = .int .i64 j ∧ q = .int .i64 a ∧ Hid (a = sumL (l9.take j)) ∧ a ≤ 255 * j ∧ wr = v9) (fun _ i _ => 512 - (intOf i).toNat)
    case atStart => exact ⟨0, 0, Nat.zero_le _, rfl, rfl, by rw [List.take_zero]; rfl, by omega, rfl⟩
    case round =>
      obtain ⟨j, a, hj, rfl, rfl, ha, hle, rfl⟩ := hrel
      by_cases hlt : j < 512
      · obtain ⟨y, hy⟩ : ∃ y, l9[j]? = some y := ⟨l9[j]'(by have := HL9.out; omega), List.getElem?_eq_some_iff.2 ⟨_, rfl⟩⟩
        have g1 := HR9.out.cell hy
        have hy256 : y.toNat < 256 := y.toNat_lt
        have hji : (j : Int) < 512 := by omega
        have HY := hide hy
        clear hy
        go_wp2_with fail
        go_roundw
        case rel => exact ⟨j + 1, a + y.toNat, by omega, by go_num, by go_num, by rw [sumL_step HY.out, ha.out]; exact hide rfl, by omega, trivial⟩
        case measure => simp [intOf]; omega
      · have ej : j = 512 := by omega
        have ha2 := ha.out
        rw [ej, ← HL9.out, List.take_length] at ha2
        have hai : (a : Int) < 9223372036854775808 := by omega
        have HA2 := hide ha2
        have hji : ¬ ((j : Int) < 512) := by omega
        clear ha2 ej
        go_wp2_with fail
        refine (roctal_ok a 6 sm true w0 wr (HOK.out.next HB9.out) hai (by rw [HA2.out, ← HSM.out]; exact HSR.out.2) (by rw [HA2.out]; exact HSR.out.1)).mono ?_
        rintro e va ⟨rfl, ok9, hb9⟩
        have HRa : Hid (RowH va G l9) := hide (HR9.out.below hb9 HR9.out.lt)
        have HBa : Hid (Below w2.heap.size w2 va) := hide (HB9.out.trans (hb9.mono HB9.out.size))
        clear ok9 hb9
        go_wp2_with (refine wpList_copy_str rfl _ _ rfl G 148 _ _ rfl _ rfl l9 (sm ++ [0, 32]) _ HRa.out HSX.out HEND.out ?_ ?_ w2.heap.size w2 HBa.out HGB.out ?_)
        · rw [List.length_append, HSL.out]; decide
        · rw [List.length_append, HSL.out, HL9.out]; decide
        intro vb HRb HBb
        go_wp2_with fail
        go_ret2
        exact ⟨G, rfl, HGB.out, HRb.out, HOK.out.next HBb.out, HBb.out⟩
end Go.Proofs.YtecjkkipglldlaaGreatDoor
