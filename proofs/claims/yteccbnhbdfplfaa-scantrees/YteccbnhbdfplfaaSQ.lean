/- The walk of ScanApart. Its last region draws its order: three orders for each of two pairs of boxes and a call; the tail is laid nine times (by a script; this is the text that counts). -/
import Derived.Test.YteccbnhbdfplfaaSM
import Derived.Test.YteccbnhbdfplfaaPlainP
import Derived.Test.YteccbnhbdfplfaaN13
import Derived.RegionTactic
namespace Go.Proofs.Yteccbnhbdfplfaa
open Go.RowKit

theorem has_of {P s : List UInt8} {i : Nat} (hP : P ≠ []) (h : i + P.length ≤ s.length) (k : Hog.occ P s i = true) : Hog.hasL P s = true := by
  refine Hog.hasL_is fun e => ?_
  rw [Hog.places_upto hP] at e
  have hm : 0 < P.length := List.length_pos_iff.2 hP
  have h1 : i ∈ Hog.uptoL P s s.length := List.mem_filter.2 ⟨List.mem_range.2 (by omega), k⟩
  rw [e] at h1
  simp at h1
theorem hit_short {s q : ByteArray} (h : s.size < 8) : hitB s q = false := by
  unfold hitB
  by_cases e : q.data.toList.length = 8
  · rw [Hog.hasL_not (Hog.places_none (.inr (by rw [← Hog.size_len, e]; exact h))), Bool.and_false]
  · rw [decide_eq_false e, Bool.false_and]
theorem hit_in {s q : ByteArray} (x y : List UInt8) (hq : q.size = 8) (hs : s.data.toList = x ++ (q.data.toList ++ y)) : hitB s q = true := by
  have hl : q.data.toList.length = 8 := by rw [← Hog.size_len]; exact hq
  unfold hitB
  rw [decide_eq_true hl, Bool.true_and]
  refine has_of (i := x.length + 0) (fun e => by rw [e] at hl; simp at hl) (by rw [hs]; simp) ?_
  rw [hs, Hog.occ_right]
  unfold Hog.occ
  rw [List.drop_zero, List.take_left]
  exact decide_eq_true rfl
theorem wrap_q {n : Int} (h : -9223372036854775808 ≤ n ∧ n ≤ 9223372036854775807) : IntKind.i64.wrap n = n := by
  simp only [IntKind.wrap, IntKind.bits, IntKind.signed, Bool.true_and]
  split <;> rename_i h2 <;> simp only [ge_iff_le, decide_eq_true_eq] at h2 <;> omega
theorem own_two (w : World) (x : ByteArray) : Own w.heap.size (w.alloc (.cells #[.string x, .string x] 9)) (.slice (some ⟨w.heap.size, 0, none⟩) 2 2) [x, x] := by
  simpa using Own.made w [x, x] (by unfold maxLen; simp)

set_option maxRecDepth 100000 in
set_option maxHeartbeats 16000000 in
theorem apart_walk (name : ByteArray) (cut : Int) (w : World) (hn : name.size ≤ maxLen) :
    Calls Try.prog 6 #[.string name, .int .i64 cut] w fun e w' => e = .returned (.bool true) ∧ Below w.heap.size w w' := by
  have hni : (name.size : Int) ≤ 9223372036854775807 := by unfold maxLen at hn; omega
  have HNM := hide hn
  clear hn
  have HAW := hide (awake8_ok)
  obtain ⟨h, hh⟩ : ∃ h, hashT name = h := ⟨_, rfl⟩
  have HH := hide hh
  clear hh
  go_enter Try.func6, Try.ntmps6
  by_cases h1 : 100 < name.size
  · have h1i : (100 : Int) < (name.size : Int) := by omega
    go_wp2_with fail
    refine (HAW.out w).mono ?_
    rintro e w1 ⟨rfl, hb1⟩
    have HB1 := hide hb1
    clear hb1
    go_wp2
    go_ret
    exact ⟨rfl, HB1.out⟩
  have h1i : (name.size : Int) ≤ 100 := by omega
  clear h1 hni
  go_wp2_with fail
  refine (hash_ok name h w (by omega) HH.out).mono ?_
  rintro e w1 ⟨rfl, hb1⟩
  have HB1 := hide hb1
  clear hb1
  by_cases h8 : h.size = 8
  case neg =>
    have h8i : ((h.size : Int) != 8) = true := by rw [bne_iff_ne]; omega
    clear h8
    go_wp2_with fail
    refine (HAW.out w1).mono ?_
    rintro e w2 ⟨rfl, hb2⟩
    have HB2 := hide (below_two HB1.out hb2)
    clear hb2
    go_wp2
    go_ret
    exact ⟨rfl, HB2.out⟩
  have h8i : ((h.size : Int) != 8) = false := by rw [h8]; rfl
  have H8 := hide h8
  have h8j : (8 : Int) ≤ (h.size : Int) := by omega
  have h8k : (h.size : Int) ≤ 8 := by omega
  clear h8
  go_wp2_with fail
  refine (hash_ok name h w1 (by omega) HH.out).mono ?_
  rintro e w2 ⟨rfl, hb2⟩
  have HB2 := hide (below_two HB1.out hb2)
  clear hb2 HB1
  go_wp2_with fail
  refine (low_any cut 7 w2 (by decide) (by decide)).mono ?_
  rintro e w3 ⟨r, rfl, hr7, hw3⟩
  have HB3 : Hid (Below w.heap.size w w3) := by rw [hw3]; exact HB2
  clear hw3 HB2
  obtain ⟨k, hk⟩ : ∃ k : Nat, 1 + r = k := ⟨_, rfl⟩
  have hki : (1 : Int) + (r : Int) = (k : Int) := by omega
  have hkw : IntKind.i64.wrap (1 + (r : Int)) = (k : Int) := by rw [hki]; exact wrap_q (by omega)
  have hk8 : (k : Int) ≤ (h.size : Int) := by have := H8.out; omega
  have hk0 : (0 : Int) ≤ (k : Int) := by omega
  have HK : Hid (1 ≤ k ∧ k ≤ 7) := by refine ⟨?_, ?_⟩ <;> omega
  go_wp2_with fail
  refine wp_region_any (by kernel_rfl) ?_
  change wpAny _ _ _ _ _ _ _ (World.drew _)
  refine wpAny_take (i := 0) (v := .agg #[.string ⟨#[]⟩, .int .i64 1, .string ⟨#[]⟩]) rfl (by kernel_rfl) (by kernel_rfl) (by kernel_rfl) (fun _ _ _ h => h) (Or.inl ⟨by rfl, ?_⟩) ?_
  · intro w; go_simp
  refine wpAny_take (i := 1) (v := .string h) rfl (by kernel_rfl) (by kernel_rfl) (by kernel_rfl) (fun _ _ _ h => h) (Or.inl ⟨by rfl, ?_⟩) ?_
  · intro w; go_simp
  refine wpAny_take (i := 2) (v := .int .i64 k) rfl (by kernel_rfl) (by kernel_rfl) (by kernel_rfl) (fun _ _ _ h => h) (Or.inl ⟨by rfl, ?_⟩) ?_
  · intro w; go_simp
  refine wpAny_take (i := 3) (v := .string (h.extract 0 k)) rfl (by kernel_rfl) (by kernel_rfl) (by kernel_rfl) (fun _ _ _ h => h) (Or.inl ⟨by rfl, ?_⟩) ?_
  · intro w; go_simp
  refine wpAny_take (i := 4) (v := .agg #[.string ⟨#[97]⟩, .int .i64 2, .string (h.extract 0 k)]) rfl (by kernel_rfl) (by kernel_rfl) (by kernel_rfl) (fun _ _ _ h => h) (Or.inl ⟨by rfl, ?_⟩) ?_
  · intro w; go_simp
  refine wpAny_take (i := 5) (v := .string h) rfl (by kernel_rfl) (by kernel_rfl) (by kernel_rfl) (fun _ _ _ h => h) (Or.inl ⟨by rfl, ?_⟩) ?_
  · intro w; go_simp
  refine wpAny_take (i := 6) (v := .int .i64 k) rfl (by kernel_rfl) (by kernel_rfl) (by kernel_rfl) (fun _ _ _ h => h) (Or.inl ⟨by rfl, ?_⟩) ?_
  · intro w; go_simp
  refine wpAny_take (i := 7) (v := .string (h.extract k h.size)) rfl (by kernel_rfl) (by kernel_rfl) (by kernel_rfl) (fun _ _ _ h => h) (Or.inl ⟨by rfl, ?_⟩) ?_
  · intro w; go_simp
  refine wpAny_take (i := 8) (v := .agg #[.string ⟨#[98]⟩, .int .i64 2, .string (h.extract k h.size)]) rfl (by kernel_rfl) (by kernel_rfl) (by kernel_rfl) (fun _ _ _ h => h) (Or.inl ⟨by rfl, ?_⟩) ?_
  · intro w; go_simp
  refine wpAny_ready (rs := [9]) (by kernel_rfl) (by simp) (AllReady.cons rfl ?_ AllReady.nil)
  intro K hK
  go_simp
  refine hK _ _ ?_
  clear hK K
  refine wpAny_take (i := 10) (v := .slice (some ⟨w3.heap.size, 0, none⟩) 3 3) rfl (by kernel_rfl) (by kernel_rfl) (by kernel_rfl) (fun _ _ _ h => h) (Or.inl ⟨by rfl, ?_⟩) ?_
  · intro w; go_simp
  refine wpAny_done (by kernel_rfl) ?_ _
  obtain ⟨w5, hw5⟩ : ∃ x, x = (w3.alloc (.cells #[.string ⟨#[]⟩, .int .i64 1, .string ⟨#[]⟩, .string ⟨#[97]⟩, .int .i64 2, .string (h.extract 0 k), .string ⟨#[98]⟩, .int .i64 2, .string (h.extract k h.size)] 40)).drew := ⟨_, rfl⟩
  rw [← hw5]
  obtain ⟨vs, hvs⟩ : ∃ vs : List Nd, vs = [(⟨#[]⟩, 1, ⟨#[]⟩), (⟨#[97]⟩, 2, h.extract 0 k), (⟨#[98]⟩, 2, h.extract k h.size)] := ⟨_, rfl⟩
  obtain ⟨ga, hga⟩ : ∃ g, g = w3.heap.size := ⟨_, rfl⟩
  have HNA : Hid (Nods w5 (.slice (some ⟨ga, 0, none⟩) 3 3) vs) := by
    have h1 := OwnN.made w3 vs (by rw [hvs]; unfold maxLen; simp)
    rw [hvs] at h1 ⊢
    rw [hw5, hga]
    exact (h1.below ((Below.refl _ _).drew)).nods
  have HB5 : Hid (Below w.heap.size w w5) := by rw [hw5]; exact (below_two HB3.out (below_box _ _)).drew
  rw [← hga]
  have HAL : Hid (vs.length = 3) := by rw [hvs]; exact hide rfl
  have HAD : Hid (∀ x ∈ vs, x.2.2.size < 1000000) := by
    rw [hvs]
    intro x hx
    simp at hx
    have h8 := H8.out
    rcases hx with rfl | rfl | rfl
    · exact of_decide_eq_true (by kernel_rfl)
    · show (h.extract 0 k).size < _
      rw [ByteArray.size_extract]
      omega
    · show (h.extract k h.size).size < _
      rw [ByteArray.size_extract]
      omega
  have HAT : Hid (toldT (hitN vs) [name] = []) := by
    refine told_none ?_
    have h8 := H8.out
    obtain ⟨hk1, hk7⟩ := HK.out
    unfold seenT hitN
    rw [List.filter_cons, hvs, List.any_cons, List.any_cons, List.any_cons, List.any_nil, hit_short (s := ⟨#[]⟩) (of_decide_eq_true (by kernel_rfl)), hit_short (s := h.extract 0 k) (by rw [ByteArray.size_extract]; omega), hit_short (s := h.extract k h.size) (by rw [ByteArray.size_extract]; omega)]
    rfl
  clear hw5 hvs hga HB3
  obtain ⟨ws, hws⟩ : ∃ ws : List Nd, ws = [(⟨#[]⟩, 1, ⟨#[]⟩), (h, 4, ⟨#[120]⟩ ++ h)] := ⟨_, rfl⟩
  have h9 : (⟨#[120]⟩ : ByteArray).size + h.size < 100 := by have := H8.out; rw [this]; decide
  go_wp2_with fail
  obtain ⟨w6, hw6⟩ : ∃ x, x = w5.alloc (.cells #[.string ⟨#[]⟩, .int .i64 1, .string ⟨#[]⟩, .string h, .int .i64 4, .string (⟨#[120]⟩ ++ h)] 40) := ⟨_, rfl⟩
  rw [← hw6]
  obtain ⟨gw, hgw⟩ : ∃ g, g = w5.heap.size := ⟨_, rfl⟩
  have HWS6 : Hid (Nods w6 (.slice (some ⟨gw, 0, none⟩) 2 2) ws) := by
    have h1 := OwnN.made w5 ws (by rw [hws]; unfold maxLen; simp)
    rw [hws] at h1 ⊢
    rw [hw6, hgw]
    exact h1.nods
  have HB65 : Hid (Below w5.heap.size w5 w6) := by rw [hw6]; exact below_box _ _
  rw [← hgw]
  have HWL : Hid (ws.length = 2) := by rw [hws]; exact hide rfl
  have HWD : Hid (∀ x ∈ ws, x.2.2.size < 1000000) := by
    rw [hws]
    intro x hx
    simp at hx
    rcases hx with rfl | rfl
    · exact of_decide_eq_true (by kernel_rfl)
    · show ((⟨#[120]⟩ : ByteArray) ++ h).size < _
      rw [ByteArray.size_append]
      omega
  have HTW : Hid (toldT (hitN ws) [name] = [name]) := by
    refine told_one ?_
    unfold seenT hitN
    rw [List.filter_cons, hws, List.any_cons, List.any_cons, List.any_nil, HH.out, hit_in (s := ⟨#[120]⟩ ++ h) [120] [] H8.out (by rw [app_data, List.append_nil])]
    simp
  have HSX : Hid (h.size < 1000000) := by
    have h8 := H8.out
    show _ < _
    omega
  have HTX : Hid (toldT (hitB h) [name, name] = [name]) := by
    refine told_two ?_
    unfold seenT
    have e : hitB h h = true := hit_in [] [] H8.out (by rw [List.nil_append, List.append_nil])
    rw [List.filter_cons, List.filter_cons, HH.out, e]
    rfl
  have hadd : min k h.size + (h.size - k) ≤ 9223372036854775807 := by have := H8.out; omega
  have HZ1 : Hid (∀ x ∈ [name], x.size ≤ maxLen) := fun x hx => by simp at hx; subst hx; exact HNM.out
  have HZ2 : Hid (∀ x ∈ [name, name], x.size ≤ maxLen) := fun x hx => by simp at hx; subst hx; exact HNM.out
  have HNA6 := hide (HNA.out.below HB65.out)
  have HB6 := hide (below_two HB5.out HB65.out)
  clear hw6 hws hgw HNA HB5 HB65 h9
  refine wp_region_any (by kernel_rfl) ?_
  change wpAny _ _ _ _ _ _ _ (World.drew _)
  refine wpAny_take (i := 0) (v := .slice (some ⟨ga, 0, none⟩) 3 3) rfl (by kernel_rfl) (by kernel_rfl) (by kernel_rfl) (fun _ _ _ h => h) (Or.inl ⟨by rfl, ?_⟩) ?_
  · intro w; go_simp
  refine wpAny_take (i := 1) (v := .string name) rfl (by kernel_rfl) (by kernel_rfl) (by kernel_rfl) (fun _ _ _ h => h) (Or.inl ⟨by rfl, ?_⟩) ?_
  · intro w; go_simp
  refine wpAny_ready (rs := [2]) (by kernel_rfl) (by simp) (AllReady.cons rfl ?_ AllReady.nil)
  intro K hK
  go_simp
  refine hK _ _ ?_
  clear hK K
  have HE6 := hide (below_box w6 (.cells #[.string name] 9)).drew
  have HV6 := hide ((Own.one w6 name).txt.below (Below.refl _ (w6.alloc (.cells #[.string name] 9))).drew)
  refine wpAny_ready (rs := [3]) (by kernel_rfl) (by simp) (AllReady.cons rfl ?_ AllReady.nil)
  intro K hK
  go_simp
  refine (tree_ok _ vs _ [name] [] _ (HNA6.out.below HE6.out) (by rw [HAL.out]; decide) HAD.out HV6.out (by simp) HZ1.out HAT.out).mono ?_
  rintro e w7 ⟨a7, c7, rfl, ho7, hb7⟩
  refine hK _ _ ?_
  clear hK K
  have HB7 := hide (below_two (below_two HB6.out HE6.out) hb7)
  have HWS := hide (HWS6.out.below (below_two HE6.out hb7))
  clear ho7 hb7 HB6 HE6 HV6 HNA6 HWS6 HAT HAD HAL
  refine wpAny_take (i := 4) (v := .int .i64 0) rfl (by kernel_rfl) (by kernel_rfl) (by kernel_rfl) (fun _ _ _ h => h) (Or.inl ⟨by rfl, ?_⟩) ?_
  · intro w; go_simp
  refine wpAny_take (i := 5) (v := .bool true) rfl (by kernel_rfl) (by kernel_rfl) (by kernel_rfl) (fun _ _ _ h => h) (Or.inl ⟨by rfl, ?_⟩) ?_
  · intro w; go_simp
  refine wpAny_take (i := 6) (v := .bool true) rfl (by kernel_rfl) (by kernel_rfl) (by kernel_rfl) (fun _ _ _ h => h) (Or.inl ⟨by rfl, ?_⟩) ?_
  · intro w; go_simp
  refine wpAny_take (i := 7) (v := .slice (some ⟨gw, 0, none⟩) 2 2) rfl (by kernel_rfl) (by kernel_rfl) (by kernel_rfl) (fun _ _ _ h => h) (Or.inl ⟨by kernel_rfl, ?_⟩) ?_
  · intro w; go_simp
  refine wpAny_take (i := 8) (v := .string name) rfl (by kernel_rfl) (by kernel_rfl) (by kernel_rfl) (fun _ _ _ h => h) (Or.inl ⟨by kernel_rfl, ?_⟩) ?_
  · intro w; go_simp
  refine wpAny_take (i := 11) (v := .string name) rfl (by kernel_rfl) (by kernel_rfl) (by kernel_rfl) (fun _ _ _ h => h) (Or.inl ⟨by kernel_rfl, ?_⟩) ?_
  · intro w; go_simp
  refine wpAny_ready (rs := [9, 12]) (by kernel_rfl) (by simp) (AllReady.cons rfl ?_ (AllReady.cons rfl ?_ AllReady.nil))
  · intro K hK
    go_simp
    refine hK _ _ ?_
    clear hK K
    have HP1 := hide (Own.one w7 name).txt
    have HD1 := hide (below_box w7 (.cells #[.string name] 9))
    refine wpAny_ready (rs := [10, 12]) (by kernel_rfl) (by simp) (AllReady.cons rfl ?_ (AllReady.cons rfl ?_ AllReady.nil))
    · intro K hK
      go_simp
      refine (tree_ok _ ws _ [name] [name] _ (HWS.out.below HD1.out) (by rw [HWL.out]; decide) HWD.out HP1.out (by simp) HZ1.out HTW.out).mono ?_
      rintro e x1 ⟨a1, c1, rfl, ho1, hb1⟩
      refine hK _ _ ?_
      clear hK K
      refine wpAny_ready (rs := [12]) (by kernel_rfl) (by simp) (AllReady.cons rfl ?_ AllReady.nil)
      intro K hK
      go_simp
      refine hK _ _ ?_
      clear hK K
      have HT1 := hide (ho1.txt.below (below_box x1 (.cells #[.string name] 9)))
      have HN1 := hide (Own.one x1 name).txt
      have HB1 := hide (below_two (below_two (below_two HB7.out HD1.out) hb1) (below_box x1 (.cells #[.string name] 9)))
      clear ho1 hb1 HP1 HD1
      refine wpAny_ready (rs := [13]) (by kernel_rfl) (by simp) (AllReady.cons rfl ?_ AllReady.nil)
      intro K hK
      go_simp
      refine (same_any _ _ [name] [name] _ HT1.out HN1.out (by simp)).mono ?_
      rintro e y ⟨rfl, hby⟩
      rw [decide_eq_true rfl]
      refine hK _ _ ?_
      clear hK K
      have HBy := hide (below_two HB1.out hby)
      clear hby HT1 HN1 HB1
      refine wpAny_take (i := 14) (v := .bool true) rfl (by kernel_rfl) (by kernel_rfl) (by kernel_rfl) (fun _ _ _ h => h) (Or.inl ⟨by kernel_rfl, ?_⟩) ?_
      · intro w; go_simp
      refine wpAny_take (i := 15) (v := .bool true) rfl (by kernel_rfl) (by kernel_rfl) (by kernel_rfl) (fun _ _ _ h => h) (Or.inl ⟨by kernel_rfl, ?_⟩) ?_
      · intro w; go_simp
      refine wpAny_take (i := 16) (v := .string h) rfl (by kernel_rfl) (by kernel_rfl) (by kernel_rfl) (fun _ _ _ h => h) (Or.inl ⟨by kernel_rfl, ?_⟩) ?_
      · intro w; go_simp
      refine wpAny_take (i := 17) (v := .int .i64 k) rfl (by kernel_rfl) (by kernel_rfl) (by kernel_rfl) (fun _ _ _ h => h) (Or.inl ⟨by kernel_rfl, ?_⟩) ?_
      · intro w; go_simp
      refine wpAny_take (i := 18) (v := .string (h.extract 0 k)) rfl (by kernel_rfl) (by kernel_rfl) (by kernel_rfl) (fun _ _ _ h => h) (Or.inl ⟨by kernel_rfl, ?_⟩) ?_
      · intro w; go_simp
      refine wpAny_take (i := 19) (v := .string h) rfl (by kernel_rfl) (by kernel_rfl) (by kernel_rfl) (fun _ _ _ h => h) (Or.inl ⟨by kernel_rfl, ?_⟩) ?_
      · intro w; go_simp
      refine wpAny_take (i := 20) (v := .int .i64 k) rfl (by kernel_rfl) (by kernel_rfl) (by kernel_rfl) (fun _ _ _ h => h) (Or.inl ⟨by kernel_rfl, ?_⟩) ?_
      · intro w; go_simp
      refine wpAny_take (i := 21) (v := .string (h.extract k h.size)) rfl (by kernel_rfl) (by kernel_rfl) (by kernel_rfl) (fun _ _ _ h => h) (Or.inl ⟨by kernel_rfl, ?_⟩) ?_
      · intro w; go_simp
      refine wpAny_take (i := 22) (v := .string h) rfl (by kernel_rfl) (by kernel_rfl) (by kernel_rfl) (fun _ _ _ h => h) (Or.inl ⟨by kernel_rfl, ?_⟩) ?_
      · intro w; go_simp
      refine wpAny_take (i := 23) (v := .string name) rfl (by kernel_rfl) (by kernel_rfl) (by kernel_rfl) (fun _ _ _ h => h) (Or.inl ⟨by kernel_rfl, ?_⟩) ?_
      · intro w; go_simp
      refine wpAny_take (i := 24) (v := .string name) rfl (by kernel_rfl) (by kernel_rfl) (by kernel_rfl) (fun _ _ _ h => h) (Or.inl ⟨by kernel_rfl, ?_⟩) ?_
      · intro w; go_simp
      refine wpAny_take (i := 27) (v := .string name) rfl (by kernel_rfl) (by kernel_rfl) (by kernel_rfl) (fun _ _ _ h => h) (Or.inl ⟨by kernel_rfl, ?_⟩) ?_
      · intro w; go_simp
      refine wpAny_ready (rs := [25, 28]) (by kernel_rfl) (by simp) (AllReady.cons rfl ?_ (AllReady.cons rfl ?_ AllReady.nil))
      · intro K hK
        go_simp
        refine hK _ _ ?_
        clear hK K
        have HP2 := hide (own_two y name).txt
        have HD2 := hide (below_box y (.cells #[.string name, .string name] 9))
        refine wpAny_ready (rs := [26, 28]) (by kernel_rfl) (by simp) (AllReady.cons rfl ?_ (AllReady.cons rfl ?_ AllReady.nil))
        · intro K hK
          go_simp
          refine (text_ok _ _ [name, name] [name] _ HSX.out HP2.out (by simp) HZ2.out HTX.out).mono ?_
          rintro e x2 ⟨a2, c2, rfl, ho2, hb2⟩
          refine hK _ _ ?_
          clear hK K
          refine wpAny_ready (rs := [28]) (by kernel_rfl) (by simp) (AllReady.cons rfl ?_ AllReady.nil)
          intro K hK
          go_simp
          refine hK _ _ ?_
          clear hK K
          have HT2 := hide (ho2.txt.below (below_box x2 (.cells #[.string name] 9)))
          have HN2 := hide (Own.one x2 name).txt
          have HB2 := hide (below_two (below_two (below_two HBy.out HD2.out) hb2) (below_box x2 (.cells #[.string name] 9)))
          clear ho2 hb2 HP2 HD2
          refine wpAny_ready (rs := [29]) (by kernel_rfl) (by simp) (AllReady.cons rfl ?_ AllReady.nil)
          intro K hK
          go_simp
          refine (same_any _ _ [name] [name] _ HT2.out HN2.out (by simp)).mono ?_
          rintro e z ⟨rfl, hbz⟩
          rw [decide_eq_true rfl]
          refine hK _ _ ?_
          clear hK K
          have HBz := hide (below_two HB2.out hbz)
          clear hbz HT2 HN2 HB2
          refine wpAny_take (i := 30) (v := .bool true) rfl (by kernel_rfl) (by kernel_rfl) (by kernel_rfl) (fun _ _ _ h => h) (Or.inl ⟨by kernel_rfl, ?_⟩) ?_
          · intro w; go_simp
          refine wpAny_take (i := 31) (v := .bool true) rfl (by kernel_rfl) (by kernel_rfl) (by kernel_rfl) (fun _ _ _ h => h) (Or.inl ⟨by kernel_rfl, ?_⟩) ?_
          · intro w; go_simp
          refine wpAny_ready (rs := [32]) (by kernel_rfl) (by simp) (AllReady.cons rfl ?_ AllReady.nil)
          intro K hK
          go_simp
          refine (HAW.out z).mono ?_
          rintro e z2 ⟨rfl, hbz2⟩
          refine hK _ _ ?_
          clear hK K
          have HBE := hide (below_two HBz.out hbz2)
          clear hbz2 HBz
          refine wpAny_take (i := 33) (v := .bool true) rfl (by kernel_rfl) (by kernel_rfl) (by kernel_rfl) (fun _ _ _ h => h) (Or.inl ⟨by kernel_rfl, ?_⟩) ?_
          · intro w; go_simp
          refine wpAny_take (i := 34) (v := .bool true) rfl (by kernel_rfl) (by kernel_rfl) (by kernel_rfl) (fun _ _ _ h => h) (Or.inl ⟨by kernel_rfl, ?_⟩) ?_
          · intro w; go_simp
          refine wpAny_done (by kernel_rfl) ?_ _
          go_wp2
          go_ret
          exact ⟨rfl, HBE.out⟩
        · intro K hK
          go_simp
          refine hK _ _ ?_
          clear hK K
          have HM2 := hide (Own.one (y.alloc (.cells #[.string name, .string name] 9)) name).txt
          rw [show (y.alloc (.cells #[.string name, .string name] 9)).heap.size = y.heap.size + 1 by simp] at HM2
          have HQ2 := hide (HP2.out.below (below_box (y.alloc (.cells #[.string name, .string name] 9)) (.cells #[.string name] 9)))
          have HE2 := hide (below_two HD2.out (below_box (y.alloc (.cells #[.string name, .string name] 9)) (.cells #[.string name] 9)))
          refine wpAny_ready (rs := [26]) (by kernel_rfl) (by simp) (AllReady.cons rfl ?_ AllReady.nil)
          intro K hK
          go_simp
          refine (text_ok _ _ [name, name] [name] _ HSX.out HQ2.out (by simp) HZ2.out HTX.out).mono ?_
          rintro e x2 ⟨a2, c2, rfl, ho2, hb2⟩
          refine hK _ _ ?_
          clear hK K
          have HT2 := hide ho2.txt
          have HN2 := hide (HM2.out.below hb2)
          have HB2 := hide (below_two (below_two HBy.out HE2.out) hb2)
          clear ho2 hb2 HP2 HD2 HM2 HQ2 HE2
          refine wpAny_ready (rs := [29]) (by kernel_rfl) (by simp) (AllReady.cons rfl ?_ AllReady.nil)
          intro K hK
          go_simp
          refine (same_any _ _ [name] [name] _ HT2.out HN2.out (by simp)).mono ?_
          rintro e z ⟨rfl, hbz⟩
          rw [decide_eq_true rfl]
          refine hK _ _ ?_
          clear hK K
          have HBz := hide (below_two HB2.out hbz)
          clear hbz HT2 HN2 HB2
          refine wpAny_take (i := 30) (v := .bool true) rfl (by kernel_rfl) (by kernel_rfl) (by kernel_rfl) (fun _ _ _ h => h) (Or.inl ⟨by kernel_rfl, ?_⟩) ?_
          · intro w; go_simp
          refine wpAny_take (i := 31) (v := .bool true) rfl (by kernel_rfl) (by kernel_rfl) (by kernel_rfl) (fun _ _ _ h => h) (Or.inl ⟨by kernel_rfl, ?_⟩) ?_
          · intro w; go_simp
          refine wpAny_ready (rs := [32]) (by kernel_rfl) (by simp) (AllReady.cons rfl ?_ AllReady.nil)
          intro K hK
          go_simp
          refine (HAW.out z).mono ?_
          rintro e z2 ⟨rfl, hbz2⟩
          refine hK _ _ ?_
          clear hK K
          have HBE := hide (below_two HBz.out hbz2)
          clear hbz2 HBz
          refine wpAny_take (i := 33) (v := .bool true) rfl (by kernel_rfl) (by kernel_rfl) (by kernel_rfl) (fun _ _ _ h => h) (Or.inl ⟨by kernel_rfl, ?_⟩) ?_
          · intro w; go_simp
          refine wpAny_take (i := 34) (v := .bool true) rfl (by kernel_rfl) (by kernel_rfl) (by kernel_rfl) (fun _ _ _ h => h) (Or.inl ⟨by kernel_rfl, ?_⟩) ?_
          · intro w; go_simp
          refine wpAny_done (by kernel_rfl) ?_ _
          go_wp2
          go_ret
          exact ⟨rfl, HBE.out⟩
      · intro K hK
        go_simp
        refine hK _ _ ?_
        clear hK K
        have HM2 := hide (Own.one y name).txt
        have HD2 := hide (below_box y (.cells #[.string name] 9))
        refine wpAny_ready (rs := [25]) (by kernel_rfl) (by simp) (AllReady.cons rfl ?_ AllReady.nil)
        intro K hK
        go_simp
        refine hK _ _ ?_
        clear hK K
        have HQ2 := hide (own_two (y.alloc (.cells #[.string name] 9)) name).txt
        rw [show (y.alloc (.cells #[.string name] 9)).heap.size = y.heap.size + 1 by simp] at HQ2
        have HE2 := hide (below_two HD2.out (below_box (y.alloc (.cells #[.string name] 9)) (.cells #[.string name, .string name] 9)))
        have HR2 := hide (HM2.out.below (below_box (y.alloc (.cells #[.string name] 9)) (.cells #[.string name, .string name] 9)))
        refine wpAny_ready (rs := [26]) (by kernel_rfl) (by simp) (AllReady.cons rfl ?_ AllReady.nil)
        intro K hK
        go_simp
        refine (text_ok _ _ [name, name] [name] _ HSX.out HQ2.out (by simp) HZ2.out HTX.out).mono ?_
        rintro e x2 ⟨a2, c2, rfl, ho2, hb2⟩
        refine hK _ _ ?_
        clear hK K
        have HT2 := hide ho2.txt
        have HN2 := hide (HR2.out.below hb2)
        have HB2 := hide (below_two (below_two HBy.out HE2.out) hb2)
        clear ho2 hb2 HD2 HM2 HQ2 HE2 HR2
        refine wpAny_ready (rs := [29]) (by kernel_rfl) (by simp) (AllReady.cons rfl ?_ AllReady.nil)
        intro K hK
        go_simp
        refine (same_any _ _ [name] [name] _ HT2.out HN2.out (by simp)).mono ?_
        rintro e z ⟨rfl, hbz⟩
        rw [decide_eq_true rfl]
        refine hK _ _ ?_
        clear hK K
        have HBz := hide (below_two HB2.out hbz)
        clear hbz HT2 HN2 HB2
        refine wpAny_take (i := 30) (v := .bool true) rfl (by kernel_rfl) (by kernel_rfl) (by kernel_rfl) (fun _ _ _ h => h) (Or.inl ⟨by kernel_rfl, ?_⟩) ?_
        · intro w; go_simp
        refine wpAny_take (i := 31) (v := .bool true) rfl (by kernel_rfl) (by kernel_rfl) (by kernel_rfl) (fun _ _ _ h => h) (Or.inl ⟨by kernel_rfl, ?_⟩) ?_
        · intro w; go_simp
        refine wpAny_ready (rs := [32]) (by kernel_rfl) (by simp) (AllReady.cons rfl ?_ AllReady.nil)
        intro K hK
        go_simp
        refine (HAW.out z).mono ?_
        rintro e z2 ⟨rfl, hbz2⟩
        refine hK _ _ ?_
        clear hK K
        have HBE := hide (below_two HBz.out hbz2)
        clear hbz2 HBz
        refine wpAny_take (i := 33) (v := .bool true) rfl (by kernel_rfl) (by kernel_rfl) (by kernel_rfl) (fun _ _ _ h => h) (Or.inl ⟨by kernel_rfl, ?_⟩) ?_
        · intro w; go_simp
        refine wpAny_take (i := 34) (v := .bool true) rfl (by kernel_rfl) (by kernel_rfl) (by kernel_rfl) (fun _ _ _ h => h) (Or.inl ⟨by kernel_rfl, ?_⟩) ?_
        · intro w; go_simp
        refine wpAny_done (by kernel_rfl) ?_ _
        go_wp2
        go_ret
        exact ⟨rfl, HBE.out⟩
    · intro K hK
      go_simp
      refine hK _ _ ?_
      clear hK K
      have HM1 := hide (Own.one (w7.alloc (.cells #[.string name] 9)) name).txt
      rw [show (w7.alloc (.cells #[.string name] 9)).heap.size = w7.heap.size + 1 by simp] at HM1
      have HQ1 := hide (HP1.out.below (below_box (w7.alloc (.cells #[.string name] 9)) (.cells #[.string name] 9)))
      have HE1 := hide (below_two HD1.out (below_box (w7.alloc (.cells #[.string name] 9)) (.cells #[.string name] 9)))
      refine wpAny_ready (rs := [10]) (by kernel_rfl) (by simp) (AllReady.cons rfl ?_ AllReady.nil)
      intro K hK
      go_simp
      refine (tree_ok _ ws _ [name] [name] _ (HWS.out.below HE1.out) (by rw [HWL.out]; decide) HWD.out HQ1.out (by simp) HZ1.out HTW.out).mono ?_
      rintro e x1 ⟨a1, c1, rfl, ho1, hb1⟩
      refine hK _ _ ?_
      clear hK K
      have HT1 := hide ho1.txt
      have HN1 := hide (HM1.out.below hb1)
      have HB1 := hide (below_two (below_two HB7.out HE1.out) hb1)
      clear ho1 hb1 HP1 HD1 HM1 HQ1 HE1
      refine wpAny_ready (rs := [13]) (by kernel_rfl) (by simp) (AllReady.cons rfl ?_ AllReady.nil)
      intro K hK
      go_simp
      refine (same_any _ _ [name] [name] _ HT1.out HN1.out (by simp)).mono ?_
      rintro e y ⟨rfl, hby⟩
      rw [decide_eq_true rfl]
      refine hK _ _ ?_
      clear hK K
      have HBy := hide (below_two HB1.out hby)
      clear hby HT1 HN1 HB1
      refine wpAny_take (i := 14) (v := .bool true) rfl (by kernel_rfl) (by kernel_rfl) (by kernel_rfl) (fun _ _ _ h => h) (Or.inl ⟨by kernel_rfl, ?_⟩) ?_
      · intro w; go_simp
      refine wpAny_take (i := 15) (v := .bool true) rfl (by kernel_rfl) (by kernel_rfl) (by kernel_rfl) (fun _ _ _ h => h) (Or.inl ⟨by kernel_rfl, ?_⟩) ?_
      · intro w; go_simp
      refine wpAny_take (i := 16) (v := .string h) rfl (by kernel_rfl) (by kernel_rfl) (by kernel_rfl) (fun _ _ _ h => h) (Or.inl ⟨by kernel_rfl, ?_⟩) ?_
      · intro w; go_simp
      refine wpAny_take (i := 17) (v := .int .i64 k) rfl (by kernel_rfl) (by kernel_rfl) (by kernel_rfl) (fun _ _ _ h => h) (Or.inl ⟨by kernel_rfl, ?_⟩) ?_
      · intro w; go_simp
      refine wpAny_take (i := 18) (v := .string (h.extract 0 k)) rfl (by kernel_rfl) (by kernel_rfl) (by kernel_rfl) (fun _ _ _ h => h) (Or.inl ⟨by kernel_rfl, ?_⟩) ?_
      · intro w; go_simp
      refine wpAny_take (i := 19) (v := .string h) rfl (by kernel_rfl) (by kernel_rfl) (by kernel_rfl) (fun _ _ _ h => h) (Or.inl ⟨by kernel_rfl, ?_⟩) ?_
      · intro w; go_simp
      refine wpAny_take (i := 20) (v := .int .i64 k) rfl (by kernel_rfl) (by kernel_rfl) (by kernel_rfl) (fun _ _ _ h => h) (Or.inl ⟨by kernel_rfl, ?_⟩) ?_
      · intro w; go_simp
      refine wpAny_take (i := 21) (v := .string (h.extract k h.size)) rfl (by kernel_rfl) (by kernel_rfl) (by kernel_rfl) (fun _ _ _ h => h) (Or.inl ⟨by kernel_rfl, ?_⟩) ?_
      · intro w; go_simp
      refine wpAny_take (i := 22) (v := .string h) rfl (by kernel_rfl) (by kernel_rfl) (by kernel_rfl) (fun _ _ _ h => h) (Or.inl ⟨by kernel_rfl, ?_⟩) ?_
      · intro w; go_simp
      refine wpAny_take (i := 23) (v := .string name) rfl (by kernel_rfl) (by kernel_rfl) (by kernel_rfl) (fun _ _ _ h => h) (Or.inl ⟨by kernel_rfl, ?_⟩) ?_
      · intro w; go_simp
      refine wpAny_take (i := 24) (v := .string name) rfl (by kernel_rfl) (by kernel_rfl) (by kernel_rfl) (fun _ _ _ h => h) (Or.inl ⟨by kernel_rfl, ?_⟩) ?_
      · intro w; go_simp
      refine wpAny_take (i := 27) (v := .string name) rfl (by kernel_rfl) (by kernel_rfl) (by kernel_rfl) (fun _ _ _ h => h) (Or.inl ⟨by kernel_rfl, ?_⟩) ?_
      · intro w; go_simp
      refine wpAny_ready (rs := [25, 28]) (by kernel_rfl) (by simp) (AllReady.cons rfl ?_ (AllReady.cons rfl ?_ AllReady.nil))
      · intro K hK
        go_simp
        refine hK _ _ ?_
        clear hK K
        have HP2 := hide (own_two y name).txt
        have HD2 := hide (below_box y (.cells #[.string name, .string name] 9))
        refine wpAny_ready (rs := [26, 28]) (by kernel_rfl) (by simp) (AllReady.cons rfl ?_ (AllReady.cons rfl ?_ AllReady.nil))
        · intro K hK
          go_simp
          refine (text_ok _ _ [name, name] [name] _ HSX.out HP2.out (by simp) HZ2.out HTX.out).mono ?_
          rintro e x2 ⟨a2, c2, rfl, ho2, hb2⟩
          refine hK _ _ ?_
          clear hK K
          refine wpAny_ready (rs := [28]) (by kernel_rfl) (by simp) (AllReady.cons rfl ?_ AllReady.nil)
          intro K hK
          go_simp
          refine hK _ _ ?_
          clear hK K
          have HT2 := hide (ho2.txt.below (below_box x2 (.cells #[.string name] 9)))
          have HN2 := hide (Own.one x2 name).txt
          have HB2 := hide (below_two (below_two (below_two HBy.out HD2.out) hb2) (below_box x2 (.cells #[.string name] 9)))
          clear ho2 hb2 HP2 HD2
          refine wpAny_ready (rs := [29]) (by kernel_rfl) (by simp) (AllReady.cons rfl ?_ AllReady.nil)
          intro K hK
          go_simp
          refine (same_any _ _ [name] [name] _ HT2.out HN2.out (by simp)).mono ?_
          rintro e z ⟨rfl, hbz⟩
          rw [decide_eq_true rfl]
          refine hK _ _ ?_
          clear hK K
          have HBz := hide (below_two HB2.out hbz)
          clear hbz HT2 HN2 HB2
          refine wpAny_take (i := 30) (v := .bool true) rfl (by kernel_rfl) (by kernel_rfl) (by kernel_rfl) (fun _ _ _ h => h) (Or.inl ⟨by kernel_rfl, ?_⟩) ?_
          · intro w; go_simp
          refine wpAny_take (i := 31) (v := .bool true) rfl (by kernel_rfl) (by kernel_rfl) (by kernel_rfl) (fun _ _ _ h => h) (Or.inl ⟨by kernel_rfl, ?_⟩) ?_
          · intro w; go_simp
          refine wpAny_ready (rs := [32]) (by kernel_rfl) (by simp) (AllReady.cons rfl ?_ AllReady.nil)
          intro K hK
          go_simp
          refine (HAW.out z).mono ?_
          rintro e z2 ⟨rfl, hbz2⟩
          refine hK _ _ ?_
          clear hK K
          have HBE := hide (below_two HBz.out hbz2)
          clear hbz2 HBz
          refine wpAny_take (i := 33) (v := .bool true) rfl (by kernel_rfl) (by kernel_rfl) (by kernel_rfl) (fun _ _ _ h => h) (Or.inl ⟨by kernel_rfl, ?_⟩) ?_
          · intro w; go_simp
          refine wpAny_take (i := 34) (v := .bool true) rfl (by kernel_rfl) (by kernel_rfl) (by kernel_rfl) (fun _ _ _ h => h) (Or.inl ⟨by kernel_rfl, ?_⟩) ?_
          · intro w; go_simp
          refine wpAny_done (by kernel_rfl) ?_ _
          go_wp2
          go_ret
          exact ⟨rfl, HBE.out⟩
        · intro K hK
          go_simp
          refine hK _ _ ?_
          clear hK K
          have HM2 := hide (Own.one (y.alloc (.cells #[.string name, .string name] 9)) name).txt
          rw [show (y.alloc (.cells #[.string name, .string name] 9)).heap.size = y.heap.size + 1 by simp] at HM2
          have HQ2 := hide (HP2.out.below (below_box (y.alloc (.cells #[.string name, .string name] 9)) (.cells #[.string name] 9)))
          have HE2 := hide (below_two HD2.out (below_box (y.alloc (.cells #[.string name, .string name] 9)) (.cells #[.string name] 9)))
          refine wpAny_ready (rs := [26]) (by kernel_rfl) (by simp) (AllReady.cons rfl ?_ AllReady.nil)
          intro K hK
          go_simp
          refine (text_ok _ _ [name, name] [name] _ HSX.out HQ2.out (by simp) HZ2.out HTX.out).mono ?_
          rintro e x2 ⟨a2, c2, rfl, ho2, hb2⟩
          refine hK _ _ ?_
          clear hK K
          have HT2 := hide ho2.txt
          have HN2 := hide (HM2.out.below hb2)
          have HB2 := hide (below_two (below_two HBy.out HE2.out) hb2)
          clear ho2 hb2 HP2 HD2 HM2 HQ2 HE2
          refine wpAny_ready (rs := [29]) (by kernel_rfl) (by simp) (AllReady.cons rfl ?_ AllReady.nil)
          intro K hK
          go_simp
          refine (same_any _ _ [name] [name] _ HT2.out HN2.out (by simp)).mono ?_
          rintro e z ⟨rfl, hbz⟩
          rw [decide_eq_true rfl]
          refine hK _ _ ?_
          clear hK K
          have HBz := hide (below_two HB2.out hbz)
          clear hbz HT2 HN2 HB2
          refine wpAny_take (i := 30) (v := .bool true) rfl (by kernel_rfl) (by kernel_rfl) (by kernel_rfl) (fun _ _ _ h => h) (Or.inl ⟨by kernel_rfl, ?_⟩) ?_
          · intro w; go_simp
          refine wpAny_take (i := 31) (v := .bool true) rfl (by kernel_rfl) (by kernel_rfl) (by kernel_rfl) (fun _ _ _ h => h) (Or.inl ⟨by kernel_rfl, ?_⟩) ?_
          · intro w; go_simp
          refine wpAny_ready (rs := [32]) (by kernel_rfl) (by simp) (AllReady.cons rfl ?_ AllReady.nil)
          intro K hK
          go_simp
          refine (HAW.out z).mono ?_
          rintro e z2 ⟨rfl, hbz2⟩
          refine hK _ _ ?_
          clear hK K
          have HBE := hide (below_two HBz.out hbz2)
          clear hbz2 HBz
          refine wpAny_take (i := 33) (v := .bool true) rfl (by kernel_rfl) (by kernel_rfl) (by kernel_rfl) (fun _ _ _ h => h) (Or.inl ⟨by kernel_rfl, ?_⟩) ?_
          · intro w; go_simp
          refine wpAny_take (i := 34) (v := .bool true) rfl (by kernel_rfl) (by kernel_rfl) (by kernel_rfl) (fun _ _ _ h => h) (Or.inl ⟨by kernel_rfl, ?_⟩) ?_
          · intro w; go_simp
          refine wpAny_done (by kernel_rfl) ?_ _
          go_wp2
          go_ret
          exact ⟨rfl, HBE.out⟩
      · intro K hK
        go_simp
        refine hK _ _ ?_
        clear hK K
        have HM2 := hide (Own.one y name).txt
        have HD2 := hide (below_box y (.cells #[.string name] 9))
        refine wpAny_ready (rs := [25]) (by kernel_rfl) (by simp) (AllReady.cons rfl ?_ AllReady.nil)
        intro K hK
        go_simp
        refine hK _ _ ?_
        clear hK K
        have HQ2 := hide (own_two (y.alloc (.cells #[.string name] 9)) name).txt
        rw [show (y.alloc (.cells #[.string name] 9)).heap.size = y.heap.size + 1 by simp] at HQ2
        have HE2 := hide (below_two HD2.out (below_box (y.alloc (.cells #[.string name] 9)) (.cells #[.string name, .string name] 9)))
        have HR2 := hide (HM2.out.below (below_box (y.alloc (.cells #[.string name] 9)) (.cells #[.string name, .string name] 9)))
        refine wpAny_ready (rs := [26]) (by kernel_rfl) (by simp) (AllReady.cons rfl ?_ AllReady.nil)
        intro K hK
        go_simp
        refine (text_ok _ _ [name, name] [name] _ HSX.out HQ2.out (by simp) HZ2.out HTX.out).mono ?_
        rintro e x2 ⟨a2, c2, rfl, ho2, hb2⟩
        refine hK _ _ ?_
        clear hK K
        have HT2 := hide ho2.txt
        have HN2 := hide (HR2.out.below hb2)
        have HB2 := hide (below_two (below_two HBy.out HE2.out) hb2)
        clear ho2 hb2 HD2 HM2 HQ2 HE2 HR2
        refine wpAny_ready (rs := [29]) (by kernel_rfl) (by simp) (AllReady.cons rfl ?_ AllReady.nil)
        intro K hK
        go_simp
        refine (same_any _ _ [name] [name] _ HT2.out HN2.out (by simp)).mono ?_
        rintro e z ⟨rfl, hbz⟩
        rw [decide_eq_true rfl]
        refine hK _ _ ?_
        clear hK K
        have HBz := hide (below_two HB2.out hbz)
        clear hbz HT2 HN2 HB2
        refine wpAny_take (i := 30) (v := .bool true) rfl (by kernel_rfl) (by kernel_rfl) (by kernel_rfl) (fun _ _ _ h => h) (Or.inl ⟨by kernel_rfl, ?_⟩) ?_
        · intro w; go_simp
        refine wpAny_take (i := 31) (v := .bool true) rfl (by kernel_rfl) (by kernel_rfl) (by kernel_rfl) (fun _ _ _ h => h) (Or.inl ⟨by kernel_rfl, ?_⟩) ?_
        · intro w; go_simp
        refine wpAny_ready (rs := [32]) (by kernel_rfl) (by simp) (AllReady.cons rfl ?_ AllReady.nil)
        intro K hK
        go_simp
        refine (HAW.out z).mono ?_
        rintro e z2 ⟨rfl, hbz2⟩
        refine hK _ _ ?_
        clear hK K
        have HBE := hide (below_two HBz.out hbz2)
        clear hbz2 HBz
        refine wpAny_take (i := 33) (v := .bool true) rfl (by kernel_rfl) (by kernel_rfl) (by kernel_rfl) (fun _ _ _ h => h) (Or.inl ⟨by kernel_rfl, ?_⟩) ?_
        · intro w; go_simp
        refine wpAny_take (i := 34) (v := .bool true) rfl (by kernel_rfl) (by kernel_rfl) (by kernel_rfl) (fun _ _ _ h => h) (Or.inl ⟨by kernel_rfl, ?_⟩) ?_
        · intro w; go_simp
        refine wpAny_done (by kernel_rfl) ?_ _
        go_wp2
        go_ret
        exact ⟨rfl, HBE.out⟩
  · intro K hK
    go_simp
    refine hK _ _ ?_
    clear hK K
    have HM1 := hide (Own.one w7 name).txt
    have HD1 := hide (below_box w7 (.cells #[.string name] 9))
    refine wpAny_ready (rs := [9]) (by kernel_rfl) (by simp) (AllReady.cons rfl ?_ AllReady.nil)
    intro K hK
    go_simp
    refine hK _ _ ?_
    clear hK K
    have HQ1 := hide (Own.one (w7.alloc (.cells #[.string name] 9)) name).txt
    rw [show (w7.alloc (.cells #[.string name] 9)).heap.size = w7.heap.size + 1 by simp] at HQ1
    have HE1 := hide (below_two HD1.out (below_box (w7.alloc (.cells #[.string name] 9)) (.cells #[.string name] 9)))
    have HR1 := hide (HM1.out.below (below_box (w7.alloc (.cells #[.string name] 9)) (.cells #[.string name] 9)))
    refine wpAny_ready (rs := [10]) (by kernel_rfl) (by simp) (AllReady.cons rfl ?_ AllReady.nil)
    intro K hK
    go_simp
    refine (tree_ok _ ws _ [name] [name] _ (HWS.out.below HE1.out) (by rw [HWL.out]; decide) HWD.out HQ1.out (by simp) HZ1.out HTW.out).mono ?_
    rintro e x1 ⟨a1, c1, rfl, ho1, hb1⟩
    refine hK _ _ ?_
    clear hK K
    have HT1 := hide ho1.txt
    have HN1 := hide (HR1.out.below hb1)
    have HB1 := hide (below_two (below_two HB7.out HE1.out) hb1)
    clear ho1 hb1 HD1 HM1 HQ1 HE1 HR1
    refine wpAny_ready (rs := [13]) (by kernel_rfl) (by simp) (AllReady.cons rfl ?_ AllReady.nil)
    intro K hK
    go_simp
    refine (same_any _ _ [name] [name] _ HT1.out HN1.out (by simp)).mono ?_
    rintro e y ⟨rfl, hby⟩
    rw [decide_eq_true rfl]
    refine hK _ _ ?_
    clear hK K
    have HBy := hide (below_two HB1.out hby)
    clear hby HT1 HN1 HB1
    refine wpAny_take (i := 14) (v := .bool true) rfl (by kernel_rfl) (by kernel_rfl) (by kernel_rfl) (fun _ _ _ h => h) (Or.inl ⟨by kernel_rfl, ?_⟩) ?_
    · intro w; go_simp
    refine wpAny_take (i := 15) (v := .bool true) rfl (by kernel_rfl) (by kernel_rfl) (by kernel_rfl) (fun _ _ _ h => h) (Or.inl ⟨by kernel_rfl, ?_⟩) ?_
    · intro w; go_simp
    refine wpAny_take (i := 16) (v := .string h) rfl (by kernel_rfl) (by kernel_rfl) (by kernel_rfl) (fun _ _ _ h => h) (Or.inl ⟨by kernel_rfl, ?_⟩) ?_
    · intro w; go_simp
    refine wpAny_take (i := 17) (v := .int .i64 k) rfl (by kernel_rfl) (by kernel_rfl) (by kernel_rfl) (fun _ _ _ h => h) (Or.inl ⟨by kernel_rfl, ?_⟩) ?_
    · intro w; go_simp
    refine wpAny_take (i := 18) (v := .string (h.extract 0 k)) rfl (by kernel_rfl) (by kernel_rfl) (by kernel_rfl) (fun _ _ _ h => h) (Or.inl ⟨by kernel_rfl, ?_⟩) ?_
    · intro w; go_simp
    refine wpAny_take (i := 19) (v := .string h) rfl (by kernel_rfl) (by kernel_rfl) (by kernel_rfl) (fun _ _ _ h => h) (Or.inl ⟨by kernel_rfl, ?_⟩) ?_
    · intro w; go_simp
    refine wpAny_take (i := 20) (v := .int .i64 k) rfl (by kernel_rfl) (by kernel_rfl) (by kernel_rfl) (fun _ _ _ h => h) (Or.inl ⟨by kernel_rfl, ?_⟩) ?_
    · intro w; go_simp
    refine wpAny_take (i := 21) (v := .string (h.extract k h.size)) rfl (by kernel_rfl) (by kernel_rfl) (by kernel_rfl) (fun _ _ _ h => h) (Or.inl ⟨by kernel_rfl, ?_⟩) ?_
    · intro w; go_simp
    refine wpAny_take (i := 22) (v := .string h) rfl (by kernel_rfl) (by kernel_rfl) (by kernel_rfl) (fun _ _ _ h => h) (Or.inl ⟨by kernel_rfl, ?_⟩) ?_
    · intro w; go_simp
    refine wpAny_take (i := 23) (v := .string name) rfl (by kernel_rfl) (by kernel_rfl) (by kernel_rfl) (fun _ _ _ h => h) (Or.inl ⟨by kernel_rfl, ?_⟩) ?_
    · intro w; go_simp
    refine wpAny_take (i := 24) (v := .string name) rfl (by kernel_rfl) (by kernel_rfl) (by kernel_rfl) (fun _ _ _ h => h) (Or.inl ⟨by kernel_rfl, ?_⟩) ?_
    · intro w; go_simp
    refine wpAny_take (i := 27) (v := .string name) rfl (by kernel_rfl) (by kernel_rfl) (by kernel_rfl) (fun _ _ _ h => h) (Or.inl ⟨by kernel_rfl, ?_⟩) ?_
    · intro w; go_simp
    refine wpAny_ready (rs := [25, 28]) (by kernel_rfl) (by simp) (AllReady.cons rfl ?_ (AllReady.cons rfl ?_ AllReady.nil))
    · intro K hK
      go_simp
      refine hK _ _ ?_
      clear hK K
      have HP2 := hide (own_two y name).txt
      have HD2 := hide (below_box y (.cells #[.string name, .string name] 9))
      refine wpAny_ready (rs := [26, 28]) (by kernel_rfl) (by simp) (AllReady.cons rfl ?_ (AllReady.cons rfl ?_ AllReady.nil))
      · intro K hK
        go_simp
        refine (text_ok _ _ [name, name] [name] _ HSX.out HP2.out (by simp) HZ2.out HTX.out).mono ?_
        rintro e x2 ⟨a2, c2, rfl, ho2, hb2⟩
        refine hK _ _ ?_
        clear hK K
        refine wpAny_ready (rs := [28]) (by kernel_rfl) (by simp) (AllReady.cons rfl ?_ AllReady.nil)
        intro K hK
        go_simp
        refine hK _ _ ?_
        clear hK K
        have HT2 := hide (ho2.txt.below (below_box x2 (.cells #[.string name] 9)))
        have HN2 := hide (Own.one x2 name).txt
        have HB2 := hide (below_two (below_two (below_two HBy.out HD2.out) hb2) (below_box x2 (.cells #[.string name] 9)))
        clear ho2 hb2 HP2 HD2
        refine wpAny_ready (rs := [29]) (by kernel_rfl) (by simp) (AllReady.cons rfl ?_ AllReady.nil)
        intro K hK
        go_simp
        refine (same_any _ _ [name] [name] _ HT2.out HN2.out (by simp)).mono ?_
        rintro e z ⟨rfl, hbz⟩
        rw [decide_eq_true rfl]
        refine hK _ _ ?_
        clear hK K
        have HBz := hide (below_two HB2.out hbz)
        clear hbz HT2 HN2 HB2
        refine wpAny_take (i := 30) (v := .bool true) rfl (by kernel_rfl) (by kernel_rfl) (by kernel_rfl) (fun _ _ _ h => h) (Or.inl ⟨by kernel_rfl, ?_⟩) ?_
        · intro w; go_simp
        refine wpAny_take (i := 31) (v := .bool true) rfl (by kernel_rfl) (by kernel_rfl) (by kernel_rfl) (fun _ _ _ h => h) (Or.inl ⟨by kernel_rfl, ?_⟩) ?_
        · intro w; go_simp
        refine wpAny_ready (rs := [32]) (by kernel_rfl) (by simp) (AllReady.cons rfl ?_ AllReady.nil)
        intro K hK
        go_simp
        refine (HAW.out z).mono ?_
        rintro e z2 ⟨rfl, hbz2⟩
        refine hK _ _ ?_
        clear hK K
        have HBE := hide (below_two HBz.out hbz2)
        clear hbz2 HBz
        refine wpAny_take (i := 33) (v := .bool true) rfl (by kernel_rfl) (by kernel_rfl) (by kernel_rfl) (fun _ _ _ h => h) (Or.inl ⟨by kernel_rfl, ?_⟩) ?_
        · intro w; go_simp
        refine wpAny_take (i := 34) (v := .bool true) rfl (by kernel_rfl) (by kernel_rfl) (by kernel_rfl) (fun _ _ _ h => h) (Or.inl ⟨by kernel_rfl, ?_⟩) ?_
        · intro w; go_simp
        refine wpAny_done (by kernel_rfl) ?_ _
        go_wp2
        go_ret
        exact ⟨rfl, HBE.out⟩
      · intro K hK
        go_simp
        refine hK _ _ ?_
        clear hK K
        have HM2 := hide (Own.one (y.alloc (.cells #[.string name, .string name] 9)) name).txt
        rw [show (y.alloc (.cells #[.string name, .string name] 9)).heap.size = y.heap.size + 1 by simp] at HM2
        have HQ2 := hide (HP2.out.below (below_box (y.alloc (.cells #[.string name, .string name] 9)) (.cells #[.string name] 9)))
        have HE2 := hide (below_two HD2.out (below_box (y.alloc (.cells #[.string name, .string name] 9)) (.cells #[.string name] 9)))
        refine wpAny_ready (rs := [26]) (by kernel_rfl) (by simp) (AllReady.cons rfl ?_ AllReady.nil)
        intro K hK
        go_simp
        refine (text_ok _ _ [name, name] [name] _ HSX.out HQ2.out (by simp) HZ2.out HTX.out).mono ?_
        rintro e x2 ⟨a2, c2, rfl, ho2, hb2⟩
        refine hK _ _ ?_
        clear hK K
        have HT2 := hide ho2.txt
        have HN2 := hide (HM2.out.below hb2)
        have HB2 := hide (below_two (below_two HBy.out HE2.out) hb2)
        clear ho2 hb2 HP2 HD2 HM2 HQ2 HE2
        refine wpAny_ready (rs := [29]) (by kernel_rfl) (by simp) (AllReady.cons rfl ?_ AllReady.nil)
        intro K hK
        go_simp
        refine (same_any _ _ [name] [name] _ HT2.out HN2.out (by simp)).mono ?_
        rintro e z ⟨rfl, hbz⟩
        rw [decide_eq_true rfl]
        refine hK _ _ ?_
        clear hK K
        have HBz := hide (below_two HB2.out hbz)
        clear hbz HT2 HN2 HB2
        refine wpAny_take (i := 30) (v := .bool true) rfl (by kernel_rfl) (by kernel_rfl) (by kernel_rfl) (fun _ _ _ h => h) (Or.inl ⟨by kernel_rfl, ?_⟩) ?_
        · intro w; go_simp
        refine wpAny_take (i := 31) (v := .bool true) rfl (by kernel_rfl) (by kernel_rfl) (by kernel_rfl) (fun _ _ _ h => h) (Or.inl ⟨by kernel_rfl, ?_⟩) ?_
        · intro w; go_simp
        refine wpAny_ready (rs := [32]) (by kernel_rfl) (by simp) (AllReady.cons rfl ?_ AllReady.nil)
        intro K hK
        go_simp
        refine (HAW.out z).mono ?_
        rintro e z2 ⟨rfl, hbz2⟩
        refine hK _ _ ?_
        clear hK K
        have HBE := hide (below_two HBz.out hbz2)
        clear hbz2 HBz
        refine wpAny_take (i := 33) (v := .bool true) rfl (by kernel_rfl) (by kernel_rfl) (by kernel_rfl) (fun _ _ _ h => h) (Or.inl ⟨by kernel_rfl, ?_⟩) ?_
        · intro w; go_simp
        refine wpAny_take (i := 34) (v := .bool true) rfl (by kernel_rfl) (by kernel_rfl) (by kernel_rfl) (fun _ _ _ h => h) (Or.inl ⟨by kernel_rfl, ?_⟩) ?_
        · intro w; go_simp
        refine wpAny_done (by kernel_rfl) ?_ _
        go_wp2
        go_ret
        exact ⟨rfl, HBE.out⟩
    · intro K hK
      go_simp
      refine hK _ _ ?_
      clear hK K
      have HM2 := hide (Own.one y name).txt
      have HD2 := hide (below_box y (.cells #[.string name] 9))
      refine wpAny_ready (rs := [25]) (by kernel_rfl) (by simp) (AllReady.cons rfl ?_ AllReady.nil)
      intro K hK
      go_simp
      refine hK _ _ ?_
      clear hK K
      have HQ2 := hide (own_two (y.alloc (.cells #[.string name] 9)) name).txt
      rw [show (y.alloc (.cells #[.string name] 9)).heap.size = y.heap.size + 1 by simp] at HQ2
      have HE2 := hide (below_two HD2.out (below_box (y.alloc (.cells #[.string name] 9)) (.cells #[.string name, .string name] 9)))
      have HR2 := hide (HM2.out.below (below_box (y.alloc (.cells #[.string name] 9)) (.cells #[.string name, .string name] 9)))
      refine wpAny_ready (rs := [26]) (by kernel_rfl) (by simp) (AllReady.cons rfl ?_ AllReady.nil)
      intro K hK
      go_simp
      refine (text_ok _ _ [name, name] [name] _ HSX.out HQ2.out (by simp) HZ2.out HTX.out).mono ?_
      rintro e x2 ⟨a2, c2, rfl, ho2, hb2⟩
      refine hK _ _ ?_
      clear hK K
      have HT2 := hide ho2.txt
      have HN2 := hide (HR2.out.below hb2)
      have HB2 := hide (below_two (below_two HBy.out HE2.out) hb2)
      clear ho2 hb2 HD2 HM2 HQ2 HE2 HR2
      refine wpAny_ready (rs := [29]) (by kernel_rfl) (by simp) (AllReady.cons rfl ?_ AllReady.nil)
      intro K hK
      go_simp
      refine (same_any _ _ [name] [name] _ HT2.out HN2.out (by simp)).mono ?_
      rintro e z ⟨rfl, hbz⟩
      rw [decide_eq_true rfl]
      refine hK _ _ ?_
      clear hK K
      have HBz := hide (below_two HB2.out hbz)
      clear hbz HT2 HN2 HB2
      refine wpAny_take (i := 30) (v := .bool true) rfl (by kernel_rfl) (by kernel_rfl) (by kernel_rfl) (fun _ _ _ h => h) (Or.inl ⟨by kernel_rfl, ?_⟩) ?_
      · intro w; go_simp
      refine wpAny_take (i := 31) (v := .bool true) rfl (by kernel_rfl) (by kernel_rfl) (by kernel_rfl) (fun _ _ _ h => h) (Or.inl ⟨by kernel_rfl, ?_⟩) ?_
      · intro w; go_simp
      refine wpAny_ready (rs := [32]) (by kernel_rfl) (by simp) (AllReady.cons rfl ?_ AllReady.nil)
      intro K hK
      go_simp
      refine (HAW.out z).mono ?_
      rintro e z2 ⟨rfl, hbz2⟩
      refine hK _ _ ?_
      clear hK K
      have HBE := hide (below_two HBz.out hbz2)
      clear hbz2 HBz
      refine wpAny_take (i := 33) (v := .bool true) rfl (by kernel_rfl) (by kernel_rfl) (by kernel_rfl) (fun _ _ _ h => h) (Or.inl ⟨by kernel_rfl, ?_⟩) ?_
      · intro w; go_simp
      refine wpAny_take (i := 34) (v := .bool true) rfl (by kernel_rfl) (by kernel_rfl) (by kernel_rfl) (fun _ _ _ h => h) (Or.inl ⟨by kernel_rfl, ?_⟩) ?_
      · intro w; go_simp
      refine wpAny_done (by kernel_rfl) ?_ _
      go_wp2
      go_ret
      exact ⟨rfl, HBE.out⟩
end Go.Proofs.Yteccbnhbdfplfaa
