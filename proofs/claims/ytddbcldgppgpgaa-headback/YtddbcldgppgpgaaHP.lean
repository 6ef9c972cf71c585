/- The walk of the statement HeadBack: for every name, kind, size and link, and every two numbers, it answers true. -/
import Derived.Test.YtddbcldgppgpgaaHL
import Derived.Test.YtddbcldgppgpgaaYA
import Derived.RegionTactic
namespace Go.Proofs.Ytddbcldgppgpgaa
open Go.RowKit Hog

set_option maxHeartbeats 2000000 in
theorem back_great (s t : ByteArray) (k sz at' x : Int) (w : World) (h : s.size > 120 ∨ t.size > 120) :
    Calls Try.prog 6 #[.string s, .int .i64 k, .int .i64 sz, .string t, .int .i64 at', .int .i64 x] w fun e w' => e = .returned (.bool true) ∧ Below w.heap.size w w' := by
  by_cases h1 : s.size > 120
  · have c1 : (s.size : Int) > 120 := by omega
    clear h h1
    go_enter Try.func6, Try.ntmps6
    go_wp2_with fail
    refine (awake12_ok w w (Ok.start w)).mono ?_
    rintro e w1 ⟨rfl, ok1, _⟩
    go_wp2_with fail
    go_ret
    exact ⟨rfl, ok1⟩
  · have c1 : ¬ ((s.size : Int) > 120) := by omega
    have c2 : (t.size : Int) > 120 := by omega
    clear h h1
    go_enter Try.func6, Try.ntmps6
    go_wp2_with fail
    refine (awake12_ok w w (Ok.start w)).mono ?_
    rintro e w1 ⟨rfl, ok1, _⟩
    go_wp2_with fail
    go_ret
    exact ⟨rfl, ok1⟩
set_option maxHeartbeats 2000000 in
theorem back_bad (s t : ByteArray) (nm lk : List UInt8) (k sz at' x : Int) (w : World) (c1 : ¬ ((s.size : Int) > 120)) (c2 : ¬ ((t.size : Int) > 120)) (HS : Hid (s.data.toList = nm)) (HT : Hid (t.data.toList = lk)) (hz : sz < 9223372036854775808) (HNO : Hid (mayH nm k sz lk = false)) :
    Calls Try.prog 6 #[.string s, .int .i64 k, .int .i64 sz, .string t, .int .i64 at', .int .i64 x] w fun e w' => e = .returned (.bool true) ∧ Below w.heap.size w w' := by
  go_enter Try.func6, Try.ntmps6
  go_wp2_with fail
  refine (lay_bad s t nm lk k sz w w (Ok.start w) HS.out HT.out hz HNO.out).mono ?_
  rintro e w1 ⟨rfl, ok1, _⟩
  go_wp2_with fail
  refine (awake12_ok w w1 ok1).mono ?_
  rintro e w2 ⟨rfl, ok2, _⟩
  go_wp2_with fail
  go_ret
  exact ⟨rfl, ok2⟩
set_option maxRecDepth 100000 in
set_option maxHeartbeats 4000000 in
theorem back_good (s t : ByteArray) (nm lk : List UInt8) (k sz at' x : Int) (w : World) (c1 : ¬ ((s.size : Int) > 120)) (c2 : ¬ ((t.size : Int) > 120)) (HS : Hid (s.data.toList = nm)) (HT : Hid (t.data.toList = lk)) (HM : Hid (May nm k sz lk)) :
    Calls Try.prog 6 #[.string s, .int .i64 k, .int .i64 sz, .string t, .int .i64 at', .int .i64 x] w fun e w' => e = .returned (.bool true) ∧ Below w.heap.size w w' := by
  have d1 : ((mk nm).toList == s.toList) = true := by rw [mk_toList, Lib.toList_data, HS.out]; simp
  have d2 : ((mk lk).toList == t.toList) = true := by rw [mk_toList, Lib.toList_data, HT.out]; simp
  obtain ⟨l, hl⟩ : ∃ l, headH nm k sz lk = l := ⟨_, rfl⟩
  have HL := hide hl
  have HLEN : Hid (l.length = 512) := by rw [← hl]; exact hide (head_len HM.out)
  have HRD : Hid (readH l = some (nm, k, sz, lk)) := by rw [← hl]; exact hide (read_head HM.out)
  obtain ⟨r, hr⟩ : ∃ r, lowN at' 512 = r := ⟨_, rfl⟩
  obtain ⟨q, hq⟩ : ∃ q, lowN x 255 = q := ⟨_, rfl⟩
  have hrn : r < 512 := by rw [← hr]; exact lowN_lt _ (by decide)
  have hq5 : q < 255 := by rw [← hq]; exact lowN_lt _ (by decide)
  have HR := hide hr
  have HQ := hide hq
  obtain ⟨v, hv⟩ : ∃ v, l[r]? = some v := ⟨l[r]'(by have := HLEN.out; omega), List.getElem?_eq_some_iff.2 ⟨_, rfl⟩⟩
  have HV := hide hv
  have hri : (r : Int) < 512 := by omega
  have hq1 : IntKind.i64.wrap (1 + (q : Int)) = 1 + (q : Int) := by rw [IntKind.wrap_i64]; omega
  have hq2 : IntKind.u8.wrap (1 + (q : Int)) = 1 + (q : Int) := by rw [IntKind.wrap_u8']; omega
  have HTV := hide (turnB_val v hq5)
  have HNONE : Hid (readH (l.set r (turnB v q)) = none) := by
    rw [← hl]
    exact hide (turned HM.out (by rw [hl]; exact hv) (fun e => turnB_ne v hq5 e.symm))
  have HSHORT : Hid (readH (l.take 511) = none) := hide (read_len (by rw [List.length_take]; have := HLEN.out; omega))
  clear hr hq hv hl
  go_enter Try.func6, Try.ntmps6
  go_wp2_with fail
  refine (lay_good s t nm lk k sz w w (Ok.start w) HS.out HT.out HM.out).mono ?_
  rintro e w1 ⟨g, rfl, hg, hr1, ok1, _⟩
  rw [HL.out] at hr1
  have HR1 := hide hr1
  clear hr1 hg
  go_wp2_with fail
  refine (read_ok _ 512 512 l _ w w1 ok1 (HR1.out.arg HLEN.out (Nat.le_refl _)) HRD.out).mono ?_
  rintro e w2 ⟨he, ok2, hb2⟩
  simp only [outR] at he
  subst he
  have HR2 := hide (HR1.out.below hb2 HR1.out.lt)
  have HA2 := hide (HR2.out.arg HLEN.out (Nat.le_refl _))
  clear hb2 ok1 HR1
  go_wp2_with (at_builtin; refine wpList_append_bytes rfl _ _ rfl w2.heap.size _ [] rfl (OwnB.nil _ _) _ _ _ l rfl HA2.out 0 rfl l rfl ?c1 (Nat.le_refl _) ?_)
  case c1 => omega
  intro b1 c1 w3 ho1 hl1
  have hb3 := hl1.below (OwnB.nil w2.heap.size w2) (Nat.le_refl _)
  clear hl1
  obtain ⟨bg, rfl, hbg, hbw⟩ : ∃ bg, b1 = some ⟨bg, 0, none⟩ ∧ w2.heap.size ≤ bg ∧ bg < w3.heap.size := by
    have hp := ho1.argAt.2.plain (by omega)
    rcases ho1.2 with ⟨e, e2⟩ | ⟨bg, cap, cur, e, hle, hgt, _⟩
    · obtain ⟨b, o, e3, _⟩ := hp
      rw [e3] at e
      cases e
    · simp only [Value.slice.injEq] at e
      exact ⟨bg, e.1, hle, (Array.getElem?_eq_some_iff.1 hgt).1⟩
  have HCAP : Hid (512 ≤ c1) := hide ho1.argAt.2.cap
  have HO := hide ho1
  have HB3 := hide hb3
  have hcell : w3.cell? ⟨bg, r, none⟩ = some (.int .u8 v.toNat) := by
    have := ho1.argAt.2.at HV.out
    rwa [Nat.zero_add] at this
  have hfr : w3.frozen? ⟨bg, r, none⟩ = false := by
    have h1 : w3.ownsRow w2.heap.size 5 1 (.slice (some ⟨bg, 0, none⟩) 512 c1) l.length (bcells l) := ho1
    rw [HLEN.out] at h1
    exact World.ownsRow.frozenAt h1 r
  have HC := hide hcell
  have HR3 := hide (HR2.out.below hb3 HR2.out.lt)
  have HGB : Hid (g < bg) := hide (Nat.lt_of_lt_of_le HR2.out.lt hbg)
  have hbgb : w2.heap.size ≤ bg := hbg
  clear ho1 hb3 hcell HR2 HA2
  have hcd : w3.drew.cell? ⟨bg, r, none⟩ = some (.int .u8 v.toNat) := HC.out
  have hfd : w3.drew.frozen? ⟨bg, r, none⟩ = false := hfr
  go_wp2_with fail
  refine wp_region_any (by kernel_rfl) ?_
  change wpAny _ _ _ _ _ _ _ (World.drew _)
  refine wpAny_take (i := 0) (v := .slice (some ⟨bg, 0, none⟩) 512 c1) rfl (by kernel_rfl) (by kernel_rfl) (by kernel_rfl) (fun _ _ _ h => h) (Or.inl ⟨by kernel_rfl, ?_⟩) ?_
  · intro w'; go_simp
  refine wpAny_take (i := 1) (v := .int .i64 at') rfl (by kernel_rfl) (by kernel_rfl) (by kernel_rfl) (fun _ _ _ h => h) (Or.inl ⟨by kernel_rfl, ?_⟩) ?_
  · intro w'; go_simp
  refine wpAny_take (i := 5) (v := .int .i64 x) rfl (by kernel_rfl) (by kernel_rfl) (by kernel_rfl) (fun _ _ _ h => h) (Or.inl ⟨by kernel_rfl, ?_⟩) ?_
  · intro w'; go_simp
  refine wpAny_ready (rs := [2]) (by kernel_rfl) (by simp) (AllReady.cons rfl ?_ AllReady.nil)
  intro K hK
  go_simp
  refine (lowV_ok at' 512 r _ (by decide) (by decide) HR.out).mono ?_
  rintro e w4 ⟨rfl, rfl⟩
  refine hK _ _ ?_
  clear hK K
  refine wpAny_take (i := 3) (v := .pointer (some ⟨bg, r, none⟩)) rfl (by kernel_rfl) (by kernel_rfl) (by kernel_rfl) (fun _ _ _ h => h) (Or.inl ⟨by kernel_rfl, ?_⟩) ?_
  · intro w'; go_simp
  refine wpAny_ready (rs := [4, 6]) (by kernel_rfl) (by simp) (AllReady.cons rfl ?_ (AllReady.cons rfl ?_ AllReady.nil))
  · intro K hK
    go_simp
    refine hK _ _ ?_
    clear hK K
    refine wpAny_ready (rs := [6]) (by kernel_rfl) (by simp) (AllReady.cons rfl ?_ AllReady.nil)
    intro K hK
    go_simp
    refine (lowV_ok x 255 q _ (by decide) (by decide) HQ.out).mono ?_
    rintro e w4 ⟨rfl, rfl⟩
    refine hK _ _ ?_
    clear hK K
    refine wpAny_take (i := 7) (v := .int .i64 (1 + q)) rfl (by kernel_rfl) (by kernel_rfl) (by kernel_rfl) (fun _ _ _ h => h) (Or.inl ⟨by kernel_rfl, ?_⟩) ?_
    · intro w'; go_simp
    refine wpAny_take (i := 8) (v := .int .u8 (1 + q)) rfl (by kernel_rfl) (by kernel_rfl) (by kernel_rfl) (fun _ _ _ h => h) (Or.inl ⟨by kernel_rfl, ?_⟩) ?_
    · intro w'; go_simp
    refine wpAny_take (i := 9) (v := .int .u8 (turnB v q).toNat) rfl (by kernel_rfl) (by kernel_rfl) (by kernel_rfl) (fun _ _ _ h => h) (Or.inl ⟨by kernel_rfl, ?_⟩) ?_
    · intro w'; go_simp; exact HTV.out
    refine wpAny_take (i := 10) (v := .pointer (some ⟨bg, r, none⟩)) rfl (by kernel_rfl) (by kernel_rfl) (by kernel_rfl) (fun _ _ _ h => h) (Or.inl ⟨by kernel_rfl, ?_⟩) ?_
    · intro w'; go_simp
    refine wpAny_ready (rs := [11]) (by kernel_rfl) (by simp) (AllReady.cons rfl ?_ AllReady.nil)
    intro K hK
    go_simp
    refine hK _ _ ?_
    clear hK K
    refine wpAny_done (by kernel_rfl) ?_ _
    obtain ⟨W2, hW2⟩ : ∃ W, W = (w3.setCell ⟨bg, r, none⟩ (.int .u8 (turnB v q).toNat)).drew := ⟨_, rfl⟩
    obtain ⟨l', hl'⟩ : ∃ l', l' = l.set r (turnB v q) := ⟨_, rfl⟩
    have HB4 : Hid (Below w2.heap.size w2 W2) := by rw [hW2]; exact (HB3.out.setCell (p := ⟨bg, r, none⟩) hbgb _).drew
    have HO2 : Hid (ArgB W2 (some ⟨bg, 0, none⟩) 512 c1 l') := by
      have h1 := (HO.out.stored HLEN.out.symm r (turnB v q)).argAt.2
      rw [hW2, hl']
      exact h1.below ((Below.refl _ _).drew)
    have HR4 : Hid (RowH W2 g l) := by
      rw [hW2]
      refine hide ?_
      have h1 : (w3.setCell ⟨bg, r, none⟩ (.int .u8 (turnB v q).toNat)).heap[g]? = w3.heap[g]? := Below.heap_setCell w3 ⟨bg, r, none⟩ _ g (by have := HGB.out; show g ≠ bg; omega)
      unfold RowH
      exact h1.trans HR3.out
    have HN2 : Hid (readH l' = none) := by rw [hl']; exact HNONE
    have ok4 : Ok w W2 := ok2.next HB4.out
    rw [← hW2]
    clear hW2 hl' hcd hfd hq1 hq2 HTV HC hfr HO HB3 HB4 HR3 ok2 HNONE
    go_wp2_with fail
    refine (read_ok _ 512 c1 l' none w W2 ok4 HO2.out HN2.out).mono ?_
    rintro e w5 ⟨he, ok5, hb5⟩
    simp only [outR] at he
    subst he
    have HR5 := hide (HR4.out.below hb5 HR4.out.lt)
    have HA5 := hide ((HR5.out.arg HLEN.out (Nat.le_refl _)).take (r := 511) (by omega))
    clear hb5 ok4 HR4 HO2
    go_wp2_with fail
    refine (read_ok _ 511 512 _ none w w5 ok5 HA5.out HSHORT.out).mono ?_
    rintro e w6 ⟨he, ok6, _⟩
    simp only [outR] at he
    subst he
    go_wp2_with fail
    refine (awake12_ok w w6 ok6).mono ?_
    rintro e w7 ⟨rfl, ok7, _⟩
    go_wp2_with fail
    go_ret
    exact ⟨rfl, ok7⟩
  · intro K hK
    go_simp
    refine (lowV_ok x 255 q _ (by decide) (by decide) HQ.out).mono ?_
    rintro e w4 ⟨rfl, rfl⟩
    refine hK _ _ ?_
    clear hK K
    refine wpAny_take (i := 7) (v := .int .i64 (1 + q)) rfl (by kernel_rfl) (by kernel_rfl) (by kernel_rfl) (fun _ _ _ h => h) (Or.inl ⟨by kernel_rfl, ?_⟩) ?_
    · intro w'; go_simp
    refine wpAny_take (i := 8) (v := .int .u8 (1 + q)) rfl (by kernel_rfl) (by kernel_rfl) (by kernel_rfl) (fun _ _ _ h => h) (Or.inl ⟨by kernel_rfl, ?_⟩) ?_
    · intro w'; go_simp
    refine wpAny_ready (rs := [4]) (by kernel_rfl) (by simp) (AllReady.cons rfl ?_ AllReady.nil)
    intro K hK
    go_simp
    refine hK _ _ ?_
    clear hK K
    refine wpAny_take (i := 9) (v := .int .u8 (turnB v q).toNat) rfl (by kernel_rfl) (by kernel_rfl) (by kernel_rfl) (fun _ _ _ h => h) (Or.inl ⟨by kernel_rfl, ?_⟩) ?_
    · intro w'; go_simp; exact HTV.out
    refine wpAny_take (i := 10) (v := .pointer (some ⟨bg, r, none⟩)) rfl (by kernel_rfl) (by kernel_rfl) (by kernel_rfl) (fun _ _ _ h => h) (Or.inl ⟨by kernel_rfl, ?_⟩) ?_
    · intro w'; go_simp
    refine wpAny_ready (rs := [11]) (by kernel_rfl) (by simp) (AllReady.cons rfl ?_ AllReady.nil)
    intro K hK
    go_simp
    refine hK _ _ ?_
    clear hK K
    refine wpAny_done (by kernel_rfl) ?_ _
    obtain ⟨W2, hW2⟩ : ∃ W, W = (w3.setCell ⟨bg, r, none⟩ (.int .u8 (turnB v q).toNat)).drew := ⟨_, rfl⟩
    obtain ⟨l', hl'⟩ : ∃ l', l' = l.set r (turnB v q) := ⟨_, rfl⟩
    have HB4 : Hid (Below w2.heap.size w2 W2) := by rw [hW2]; exact (HB3.out.setCell (p := ⟨bg, r, none⟩) hbgb _).drew
    have HO2 : Hid (ArgB W2 (some ⟨bg, 0, none⟩) 512 c1 l') := by
      have h1 := (HO.out.stored HLEN.out.symm r (turnB v q)).argAt.2
      rw [hW2, hl']
      exact h1.below ((Below.refl _ _).drew)
    have HR4 : Hid (RowH W2 g l) := by
      rw [hW2]
      refine hide ?_
      have h1 : (w3.setCell ⟨bg, r, none⟩ (.int .u8 (turnB v q).toNat)).heap[g]? = w3.heap[g]? := Below.heap_setCell w3 ⟨bg, r, none⟩ _ g (by have := HGB.out; show g ≠ bg; omega)
      unfold RowH
      exact h1.trans HR3.out
    have HN2 : Hid (readH l' = none) := by rw [hl']; exact HNONE
    have ok4 : Ok w W2 := ok2.next HB4.out
    rw [← hW2]
    clear hW2 hl' hcd hfd hq1 hq2 HTV HC hfr HO HB3 HB4 HR3 ok2 HNONE
    go_wp2_with fail
    refine (read_ok _ 512 c1 l' none w W2 ok4 HO2.out HN2.out).mono ?_
    rintro e w5 ⟨he, ok5, hb5⟩
    simp only [outR] at he
    subst he
    have HR5 := hide (HR4.out.below hb5 HR4.out.lt)
    have HA5 := hide ((HR5.out.arg HLEN.out (Nat.le_refl _)).take (r := 511) (by omega))
    clear hb5 ok4 HR4 HO2
    go_wp2_with fail
    refine (read_ok _ 511 512 _ none w w5 ok5 HA5.out HSHORT.out).mono ?_
    rintro e w6 ⟨he, ok6, _⟩
    simp only [outR] at he
    subst he
    go_wp2_with fail
    refine (awake12_ok w w6 ok6).mono ?_
    rintro e w7 ⟨rfl, ok7, _⟩
    go_wp2_with fail
    go_ret
    exact ⟨rfl, ok7⟩
theorem back_walk (s : ByteArray) (k sz : Int) (t : ByteArray) (at' x : Int) (w : World) (hz : sz < 9223372036854775808) :
    Calls Try.prog 6 #[.string s, .int .i64 k, .int .i64 sz, .string t, .int .i64 at', .int .i64 x] w fun e w' => e = .returned (.bool true) ∧ Below w.heap.size w w' := by
  by_cases hg : s.size > 120 ∨ t.size > 120
  · exact back_great s t k sz at' x w hg
  · cases hmay : mayH s.data.toList k sz t.data.toList with
    | true => exact back_good s t _ _ k sz at' x w (by omega) (by omega) (hide rfl) (hide rfl) (hide (mayH_of hmay))
    | false => exact back_bad s t _ _ k sz at' x w (by omega) (by omega) (hide rfl) (hide rfl) hz (hide hmay)
end Go.Proofs.Ytddbcldgppgpgaa
