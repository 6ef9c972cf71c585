/- The walk of the statement TreeCuts: for every nodes and every number it answers true. -/
import Derived.Test.YtdgchinfanialaaDoorC1
import Derived.Test.YtdgchinfanialaaDoorL21
namespace Go.Proofs.YtdgchinfanialaaDoor
open Go.RowKit

theorem add_block (ad : Addr) (j : Nat) : (ad.add j).block = ad.block := by unfold Addr.add; split <;> rfl
set_option maxHeartbeats 400000 in
theorem cuts_great (ao : Option Addr) (n c : Nat) (ns : List Nd) (k : Int) (w : World) (hsh : w.ShapedOpen Tryd.prog) (h : ArgN w ao n c ns) (hm : n ≤ maxLen) (hg : greatN 60 ns = true) :
    Calls Tryd.prog 5 #[.slice ao n c, .int .i64 k] w fun e w' => e = .returned (.bool true) ∧ Below w.heap.size w w' := by
  have HA := hide h
  have HG := hide hg
  have HL := hide h.len
  clear h hg
  go_enter Tryd.func5, Tryd.ntmps5
  go_wp2_with fail
  refine (greatN_ok _ 60 ns true w HA.out.nods (by rw [HL.out]; exact hm) (by decide) (by decide) HG.out).mono ?_
  rintro e w1 ⟨rfl, rfl⟩
  go_wp2_with fail
  refine (awake2_any _ _ (Ok.start hsh)).mono ?_
  rintro e w2 ⟨rfl, ok2, _⟩
  go_wp2_with fail
  go_ret
  exact ⟨rfl, ok2.2⟩
set_option maxHeartbeats 400000 in
theorem cuts_none (ao : Option Addr) (n c : Nat) (ns : List Nd) (k : Int) (w : World) (hsh : w.ShapedOpen Tryd.prog) (h : ArgN w ao n c ns) (hg : greatN 60 ns = false) (hy : mayN ns = false) :
    Calls Tryd.prog 5 #[.slice ao n c, .int .i64 k] w fun e w' => e = .returned (.bool true) ∧ Below w.heap.size w w' := by
  have HA := hide h
  have HG := hide hg
  have HL := hide h.len
  have HY := hide hy
  have hn60 : n ≤ 60 := by have := (greatN_not hg).1; rw [h.len] at this; omega
  have HSM := hide (greatN_not hg).2
  clear h hg hy
  go_enter Tryd.func5, Tryd.ntmps5
  go_wp2_with fail
  refine (greatN_ok _ 60 ns false w HA.out.nods (by rw [HL.out]; unfold maxLen; omega) (by decide) (by decide) HG.out).mono ?_
  rintro e w1 ⟨rfl, rfl⟩
  go_wp2_with fail
  refine (mayT_ok _ ns false _ _ (Ok.start hsh) (fun z hz => by have := (HSM.out z hz).1; omega) HA.out.nods (by rw [HL.out]; omega) HY.out).mono ?_
  rintro e w2 ⟨rfl, ok2, _⟩
  go_wp2_with fail
  refine (awake2_any _ _ ok2).mono ?_
  rintro e w3 ⟨rfl, ok3, _⟩
  go_wp2_with fail
  go_ret
  exact ⟨rfl, ok3.2⟩

set_option maxRecDepth 100000 in
set_option maxHeartbeats 8000000 in
theorem cuts_main (b o n c : Nat) (ns : List Nd) (k : Int) (w : World) (hsh : w.ShapedOpen Tryd.prog) (h : ArgN w (some ⟨b, o, none⟩) n c ns) (hrun : Run w b o ns) (hg : greatN 60 ns = false) (hy : mayN ns = true) :
    Calls Tryd.prog 5 #[.slice (some ⟨b, o, none⟩) n c, .int .i64 k] w fun e w' => e = .returned (.bool true) ∧ Below w.heap.size w w' := by
  have HA := hide h
  have HRN := hide hrun
  have HG := hide hg
  have HL := hide h.len
  have hnc := h.cap
  have HMAY := hide hy
  have hn60 : n ≤ 60 := by have := (greatN_not hg).1; rw [h.len] at this; omega
  have hn0 : 0 < n := by rw [← h.len]; exact List.length_pos_iff.2 (may_iff.1 hy).1
  have HSM := hide (greatN_not hg).2
  clear h hg hy hrun
  go_enter Tryd.func5, Tryd.ntmps5
  go_wp2_with fail
  refine (greatN_ok _ 60 ns false w HA.out.nods (by rw [HL.out]; unfold maxLen; omega) (by decide) (by decide) HG.out).mono ?_
  rintro e w1 ⟨rfl, hw1⟩
  have hw2 := hw1.symm
  clear hw1
  subst hw2
  go_wp2_with fail
  refine (mayT_ok _ ns true _ _ (Ok.start hsh) (fun z hz => by have := (HSM.out z hz).1; omega) HA.out.nods (by rw [HL.out]; omega) HMAY.out).mono ?_
  rintro e w2 ⟨rfl, ok2, _⟩
  have HB2 := hide ok2.2
  go_wp2_with fail
  refine (low_any k n w2 (by omega) (by omega)).mono ?_
  rintro e w3 ⟨r, rfl, hr, rfl⟩
  have hrn : r < n := by omega
  obtain ⟨x, hx⟩ : ∃ x, ns[r]? = some x := ⟨ns[r]'(by have := HL.out; omega), List.getElem?_eq_some_iff.2 ⟨_, rfl⟩⟩
  have hxs := HSM.out x (List.mem_of_getElem? hx)
  have HX := hide hx
  have HMT := hide (may_take HMAY.out (k := r + 1) (by omega) (by rw [HL.out]; omega))
  have HTK := hide (Nods.take (k := r + 1) (c := c) (HRN.out.below HB2.out HRN.out.1) (by rw [HL.out]; omega) (by omega))
  clear hx hr
  go_wp2_with fail
  refine (mayT_ok _ (ns.take (r + 1)) true _ w3 ok2 (fun z hz => by have := (HSM.out z (List.mem_of_mem_take hz)).1; omega) HTK.out (by rw [List.length_take, HL.out]; omega) HMT.out).mono ?_
  rintro e w4 ⟨rfl, ok4, _⟩
  clear HMT HTK ok2 HB2
  have HB4 := hide ok4.2
  go_wp2_with fail
  refine (sort_ok (some ⟨b, o, none⟩) n c ns w4 (HA.out.below HB4.out) (by omega)).mono ?_
  rintro e w5' ⟨v, es, rfl, ho, hs, hal, hb⟩
  have hes : es = ns := srtd_unique hs (rising_srtd (may_rising HMAY.out)) hal.symm
  subst hes
  have HO := hide ho
  have HB5' := hide (below_two HB4.out hb)
  clear ho hs hal hb
  go_wp2_with fail
  refine (sameN_any v _ es es w5' HO.out.nods (HA.out.below HB5'.out).nods (by rw [HL.out]; omega)).mono ?_
  rintro e w5 ⟨rfl, hb6⟩
  rw [decide_eq_true rfl]
  have HB5 := hide (below_two HB5'.out hb6)
  clear hb6 HO HB5' HB4 ok4
  have hp2 := ((HRN.out.2 r x HX.out).below HB5.out HRN.out.1).path
  have hrn' : (r : Int) < (n : Int) := by omega
  by_cases hr0 : r = 0
  · have hz : ((r : Int) == 0) = true := by rw [hr0]; rfl
    go_wp2
    go_quiet (fail)
    have HBQ := hide (below_two HB5.out (below_drewN (Below.refl _ w5) nq))
    clear HB5
    go_wp2_with fail
    refine (awake2_any w _ ⟨hsh, HBQ.out⟩).mono ?_
    rintro e w8 ⟨rfl, ok8, _⟩
    go_wp2
    go_ret
    exact ⟨rfl, ok8.2⟩
  · have hr0 : 0 < r := by omega
    have hz : ((r : Int) == 0) = false := by rw [beq_eq_false_iff_ne]; omega
    by_cases h1 : r + 1 < n
    · obtain ⟨y, hy⟩ : ∃ y, es[r + 1]? = some y := ⟨es[r + 1]'(by have := HL.out; omega), List.getElem?_eq_some_iff.2 ⟨_, rfl⟩⟩
      have hp1 := ((HRN.out.2 (r + 1) y hy).below HB5.out HRN.out.1).path
      have hys := HSM.out y (List.mem_of_getElem? hy)
      have h1' : (r : Int) + 1 < (n : Int) := by omega
      clear hy
      by_cases h2 : x.1.size < y.1.size
      · have h2' : (x.1.size : Int) < (y.1.size : Int) := by omega
        have h3 : (x.1.size : Int) ≤ (y.1.size : Int) := by omega
        cases hb : ((y.1.extract 0 x.1.size).toList == x.1.toList) with
        | true =>
          go_wp2
          go_quiet (fail)
          have HBQ := hide (below_two HB5.out (below_drewN (Below.refl _ w5) nq))
          clear HB5
          go_wp2_with fail
          refine (awake2_any w _ ⟨hsh, HBQ.out⟩).mono ?_
          rintro e w8 ⟨rfl, ok8, _⟩
          go_wp2
          go_ret
          exact ⟨rfl, ok8.2⟩
        | false =>
          go_wp2
          go_quiet (fail)
          have HB6 := hide (below_two HB5.out (below_drewN (Below.refl _ w5) nq))
          clear hp1 hp2 HB5
          go_wp2
          go_loopw [5] (fun i wr => ∃ q : Nat, q ≤ n ∧ i = .int .i64 q ∧ Hid (∀ (j : Nat) z, j < q → es[j]? = some z → ¬ x.1.data.toList ++ [47] <+: z.1.data.toList) ∧ Hid (Below w.heap.size w wr)) (fun i _ => n - (intOf i).toNat)
          case atStart => exact ⟨0, Nat.zero_le _, rfl, fun j z h => by omega, HB6⟩
          case round =>
            clear HB6
            obtain ⟨q, hq, rfl, HNU, HBR⟩ := hrel
            by_cases hqn : q < n
            · obtain ⟨z, hz⟩ : ∃ z, es[q]? = some z := ⟨es[q]'(by have := HL.out; omega), List.getElem?_eq_some_iff.2 ⟨_, rfl⟩⟩
              have hzs := (HSM.out z (List.mem_of_getElem? hz)).1
              have c1 := ((HRN.out.2 q z hz).below HBR.out HRN.out.1).path
              have c2 := ((HRN.out.2 r x HX.out).below HBR.out HRN.out.1).path
              have HZ := hide hz
              have hqn' : (q : Int) < (n : Int) := by omega
              clear hz
              by_cases hlz : x.1.size < z.1.size
              · have hlz' : (x.1.size : Int) < (z.1.size : Int) := by omega
                have hsl : (x.1.size : Int) + 1 ≤ (z.1.size : Int) := by omega
                have hsl2 : (0 : Int) ≤ (x.1.size : Int) + 1 := by omega
                cases hb : ((z.1.extract 0 (x.1.size + 1)).toList == (x.1 ++ ⟨#[47]⟩).toList) with
                | true =>
                  have hbb := hb
                  go_wp2
                  go_quiet (fail)
                  have HBQ := hide (below_two HBR.out (below_drewN (Below.refl _ wr) nq))
                  clear HBR
                  go_wp2_with fail
                  refine (awake2_any w _ ⟨hsh, HBQ.out⟩).mono ?_
                  rintro e w8 ⟨rfl, ok8, _⟩
                  go_wp2
                  go_ret
                  exact ⟨rfl, ok8.2⟩
                | false =>
                  have HPT := hide (pre_test hb)
                  go_wp2
                  go_quiet (fail)
                  have HBQ := hide (below_two HBR.out (below_drewN (Below.refl _ wr) nq))
                  clear HBR
                  go_wp2
                  go_roundw
                  case rel => exact ⟨q + 1, by omega, by go_num, fun j y hj hy => by
                    by_cases e : j = q
                    · subst e
                      rw [HZ.out] at hy
                      cases hy
                      exact HPT.out
                    · exact HNU.out j y (by omega) hy, HBQ⟩
                  case measure => simp [intOf]; omega
              · have hlz' : decide ((x.1.size : Int) < (z.1.size : Int)) = false := by simp; omega
                have HPT := hide (pre_short2 (p := z.1) (x := x.1) (by omega))
                go_wp2
                go_quiet (fail)
                have HBQ := hide (below_two HBR.out (below_drewN (Below.refl _ wr) nq))
                clear HBR
                go_wp2
                go_roundw
                case rel => exact ⟨q + 1, by omega, by go_num, fun j y hj hy => by
                  by_cases e : j = q
                  · subst e
                    rw [HZ.out] at hy
                    cases hy
                    exact HPT.out
                  · exact HNU.out j y (by omega) hy, HBQ⟩
                case measure => simp [intOf]; omega
            · have hqn' : (n : Int) ≤ (q : Int) := by omega
              have HNU2 : Hid (∀ (j : Nat) z, es[j]? = some z → ¬ x.1.data.toList ++ [47] <+: z.1.data.toList) := fun j z hz => HNU.out j z (by have := (List.getElem?_eq_some_iff.1 hz).1; have := HL.out; omega) hz
              have HMAY2 := hide (may_less HMAY.out hr0 HX.out (by rw [HL.out]; exact hn60) HNU2.out)
              have HSZ := hide (size_less HX.out)
              clear HNU HNU2
              have hrc : r ≤ c := by omega
              have hr1c : r + 1 ≤ n := by omega
              have hr1i : (r : Int) + 1 ≤ (n : Int) := by omega
              have hr10 : (0 : Int) ≤ (r : Int) + 1 := by omega
              have hwr : IntKind.i64.wrap ((r : Int) + 1) = (r : Int) + 1 := wrap_in _ (by omega)
              have hzr : w.heap.size ≤ wr.heap.size := HBR.out.size
              have HRD := hide ((HRN.out.below HBR.out HRN.out.1).below (Below.refl _ wr).drew (Nat.lt_of_lt_of_le HRN.out.1 hzr))
              obtain ⟨T, hT⟩ : ∃ T, T = es.take r := ⟨_, rfl⟩
              obtain ⟨D, hD⟩ : ∃ D, D = es.drop (r + 1) := ⟨_, rfl⟩
              have hTl : T.length = r := by rw [hT, List.length_take, HL.out]; omega
              have hDl : D.length = n - (r + 1) := by rw [hD, List.length_drop, HL.out]
              obtain ⟨ad2, hif⟩ : ∃ ad2 : Addr, (if c = r + 1 then some (⟨b, o, none⟩ : Addr) else some ⟨b, o + (r + 1) * 3, none⟩) = some ad2 := by split <;> exact ⟨_, rfl⟩
              have HA1 : Hid (ArgN wr.drew (some ⟨b, o, none⟩) r c T) := by
                have h7 : Run wr.drew b o T := ⟨HRD.out.1, fun j y hy => by
                  rw [hT, List.getElem?_take] at hy
                  split at hy
                  · exact HRD.out.2 j y hy
                  · cases hy⟩
                have h8 := h7.arg (c := c) (by omega)
                rw [hTl] at h8
                exact h8
              have HA2 : Hid (ArgN wr.drew (some ad2) (n - (r + 1)) (c - (r + 1)) D) := by
                by_cases hcr : c = r + 1
                · have e : D = [] := List.eq_nil_of_length_eq_zero (by omega)
                  exact ⟨hDl, by simp, by omega, fun ad _ j u hu => by rw [e] at hu; simp [flat] at hu⟩
                · rw [if_neg hcr] at hif
                  cases hif
                  have h7 : Run wr.drew b (o + (r + 1) * 3) D := ⟨HRD.out.1, fun j y hy => by
                    rw [hD, List.getElem?_drop] at hy
                    have := HRD.out.2 (r + 1 + j) y hy
                    rw [show o + (r + 1 + j) * 3 = o + (r + 1) * 3 + j * 3 by omega] at this
                    exact this⟩
                  have h8 := h7.arg (c := c - (r + 1)) (by omega)
                  rw [hDl] at h8
                  exact h8
              have HA2B : Hid (∀ W, Below w.heap.size wr.drew W → ArgN W (some ad2) (n - (r + 1)) (c - (r + 1)) D) := fun W hb => ⟨HA2.out.len, HA2.out.none, HA2.out.cap, fun ad e j u hu => by
                have h9 := HA2.out.cell ad e j u hu
                have h10 : ad.block < w.heap.size := by
                  cases e
                  by_cases hcr : c = r + 1
                  · rw [if_pos hcr] at hif; cases hif; exact HRN.out.1
                  · rw [if_neg hcr] at hif; cases hif; exact HRN.out.1
                have h11 := (hb.cell (p := ad.add j) (by rw [add_block]; exact h10)).trans h9
                exact h11⟩
              have HTD : Hid (T ++ D = es.take r ++ es.drop (r + 1)) := by rw [hT, hD]; rfl
              have HTL := hide hTl
              have HDL := hide hDl
              have hlen1 : ([] : List Nd).length + T.length < 1000000 := by rw [hTl]; simp; omega
              have hlen2 : T.length + D.length < 1000000 := by omega
              rw [← HTD.out] at HMAY2 HSZ
              clear hT hD hTl hDl
              go_wp2
              go_region_law (first
                | (refine step_append_nodes rfl (.const (.slice none 0 0)) (.tmp 123) rfl w.heap.size (.slice none 0 0) [] rfl (OwnN.nil _ _) ⟨b, o, none⟩ r c T (by simp [Act.eval, Act.put]) HA1.out hlen1 hzr ?_; intro b7 c7 w7 ho7 hb7; have HO7 : Hid (OwnN w.heap.size w7 (.slice b7 T.length c7) T) := (by show OwnN w.heap.size w7 (.slice b7 T.length c7) T; simpa using ho7); have HB7 := hide hb7; have hz7 := Nat.le_trans hzr hb7.size; clear ho7 hb7)
                | (refine step_append_nodes rfl (.tmp 124) (.tmp 128) rfl w.heap.size (.slice b7 T.length c7) T (by simp [Act.eval]) HO7.out ad2 (n - (r + 1)) (c - (r + 1)) D (by simp [Act.eval]) (HA2B.out w7 HB7.out) hlen2 hz7 ?_; intro b8 c8 w8 ho8 hb8; have HO8 := hide ho8; have HB8 := hide hb8; clear ho8 hb8))
              have HBW := hide (HBR.out.trans (((Below.refl _ wr).drew).trans (HB7.out.trans HB8.out)))
              have hz8 : w.heap.size ≤ w8.heap.size := HBW.out.size
              have hlb : b < w8.heap.size := Nat.lt_of_lt_of_le HRN.out.1 hz8
              have hxd := ((HRN.out.2 r x HX.out).below HBW.out HRN.out.1).data
              have f1 : ∀ p : Later w8, p.w1.cell? ⟨b, o + r * 3 + 2, none⟩ = some (.string x.2.2) := fun p => p.cell hlb hxd
              have HSMT : Hid (∀ z ∈ T ++ D, z.1.size ≤ 300 ∧ z.2.2.size ≤ 500) := fun z hz => by
                rw [HTD.out] at hz
                rcases List.mem_append.1 hz with h | h
                · exact HSM.out z (List.mem_of_mem_take h)
                · exact HSM.out z (List.mem_of_mem_drop h)
              have HC1 : Hid (∀ p : Later w8, Calls Tryd.prog 17 #[.slice b8 (T.length + D.length) c8] p.w1 fun e w' => e = .returned (.bool true) ∧ Below p.w1.heap.size p.w1 w') := fun p =>
                (mayT_ok _ (T ++ D) true w p.w1 ⟨hsh, below_two HBW.out p.below⟩ (fun z hz => by have := (HSMT.out z hz).1; omega) (HO8.out.below p.below).nods (by rw [List.length_append]; exact hlen2) HMAY2.out).mono fun e w' ⟨q1, _, q3⟩ => ⟨q1, q3⟩
              have HC2 : Hid (∀ p : Later w8, Calls Tryd.prog 21 #[.slice b8 (T.length + D.length) c8] p.w1 fun e w' => e = .returned (.int .i64 (sizeN (T ++ D))) ∧ Below p.w1.heap.size p.w1 w') := fun p =>
                size_any _ (T ++ D) p.w1 (HO8.out.below p.below).nods (by rw [List.length_append]; exact hlen2) (fun z hz => by have := (HSMT.out z hz).2; omega)
              have HC3 : Hid (∀ p : Later w8, Calls Tryd.prog 21 #[.slice (some ⟨b, o, none⟩) n c] p.w1 fun e w' => e = .returned (.int .i64 (sizeN es)) ∧ Below p.w1.heap.size p.w1 w') := fun p =>
                size_any _ es p.w1 (HA.out.below (below_two HBW.out p.below)).nods (by rw [HL.out]; omega) (fun z hz => by have := (HSM.out z hz).2; omega)
              have HC4 : Hid (∀ p : Later w8, Calls Tryd.prog 8 #[] p.w1 fun e w' => e = .returned (.bool true) ∧ Below p.w1.heap.size p.w1 w') := fun p =>
                (awake2_any w p.w1 ⟨hsh, below_two HBW.out p.below⟩).mono fun e w' ⟨q1, _, q3⟩ => ⟨q1, q3⟩
              have hsb : sizeN es ≤ 100000 := by
                have q1 := sizeN_le es 500 (fun z hz => (HSM.out z hz).2)
                rw [HL.out] at q1
                have : n * 500 ≤ 60 * 500 := Nat.mul_le_mul_right _ hn60
                omega
              have hsx : sizeN (T ++ D) + x.2.2.size = sizeN es := HSZ.out
              have hse : ((sizeN (T ++ D) : Int) == (sizeN es : Int) - (x.2.2.size : Int)) = true := by rw [beq_iff_eq]; omega
              have hne := later_one w8
              obtain ⟨S1, hS1⟩ : ∃ S1, S1 = sizeN (T ++ D) := ⟨_, rfl⟩
              obtain ⟨S2, hS2⟩ : ∃ S2, S2 = sizeN es := ⟨_, rfl⟩
              rw [← hS1] at hse hsx HC2
              rw [← hS2] at hse hsx hsb HC3
              have hsx1 : S1 ≤ 100000 := by omega
              clear hxd HO7 HB7 HB8 HA1 HA2 HA2B HSZ HMAY2 hif hsx hS1 hS2
              go_wp2
              refine wp_region_later (by kernel_rfl) (by kernel_rfl) ?_
              repeat (first
                | go_big_quiet_step ((first
                  | (go_at_call 17; exact Calls.later_of (HC1.out _))
                  | (go_at_call_of 21 b8; exact Calls.later_of (HC2.out _))
                  | (go_at_call_of 21 o; exact Calls.later_of (HC3.out _))
                  | (go_at_call 8; exact Calls.later_of (HC4.out _))))
                | quiet_step ((first
                  | (go_at_call 17; exact Calls.later_of (HC1.out _))
                  | (go_at_call_of 21 b8; exact Calls.later_of (HC2.out _))
                  | (go_at_call_of 21 o; exact Calls.later_of (HC3.out _))
                  | (go_at_call 8; exact Calls.later_of (HC4.out _)))))
              refine wpQuiet_nil ?_
              intro W4 hw'
              have hbq := later_below hw'
              clear hw'
              have HBF := hide (below_two HBW.out hbq)
              clear hbq f1
              go_wp2
              go_ret
              exact ⟨rfl, HBF.out⟩
      · have h2' : decide ((x.1.size : Int) < (y.1.size : Int)) = false := by simp; omega
        go_wp2
        go_quiet (fail)
        have HB6 := hide (below_two HB5.out (below_drewN (Below.refl _ w5) nq))
        clear hp1 hp2 HB5
        go_wp2
        go_loopw [5] (fun i wr => ∃ q : Nat, q ≤ n ∧ i = .int .i64 q ∧ Hid (∀ (j : Nat) z, j < q → es[j]? = some z → ¬ x.1.data.toList ++ [47] <+: z.1.data.toList) ∧ Hid (Below w.heap.size w wr)) (fun i _ => n - (intOf i).toNat)
        case atStart => exact ⟨0, Nat.zero_le _, rfl, fun j z h => by omega, HB6⟩
        case round =>
          clear HB6
          obtain ⟨q, hq, rfl, HNU, HBR⟩ := hrel
          by_cases hqn : q < n
          · obtain ⟨z, hz⟩ : ∃ z, es[q]? = some z := ⟨es[q]'(by have := HL.out; omega), List.getElem?_eq_some_iff.2 ⟨_, rfl⟩⟩
            have hzs := (HSM.out z (List.mem_of_getElem? hz)).1
            have c1 := ((HRN.out.2 q z hz).below HBR.out HRN.out.1).path
            have c2 := ((HRN.out.2 r x HX.out).below HBR.out HRN.out.1).path
            have HZ := hide hz
            have hqn' : (q : Int) < (n : Int) := by omega
            clear hz
            by_cases hlz : x.1.size < z.1.size
            · have hlz' : (x.1.size : Int) < (z.1.size : Int) := by omega
              have hsl : (x.1.size : Int) + 1 ≤ (z.1.size : Int) := by omega
              have hsl2 : (0 : Int) ≤ (x.1.size : Int) + 1 := by omega
              cases hb : ((z.1.extract 0 (x.1.size + 1)).toList == (x.1 ++ ⟨#[47]⟩).toList) with
              | true =>
                have hbb := hb
                go_wp2
                go_quiet (fail)
                have HBQ := hide (below_two HBR.out (below_drewN (Below.refl _ wr) nq))
                clear HBR
                go_wp2_with fail
                refine (awake2_any w _ ⟨hsh, HBQ.out⟩).mono ?_
                rintro e w8 ⟨rfl, ok8, _⟩
                go_wp2
                go_ret
                exact ⟨rfl, ok8.2⟩
              | false =>
                have HPT := hide (pre_test hb)
                go_wp2
                go_quiet (fail)
                have HBQ := hide (below_two HBR.out (below_drewN (Below.refl _ wr) nq))
                clear HBR
                go_wp2
                go_roundw
                case rel => exact ⟨q + 1, by omega, by go_num, fun j y hj hy => by
                  by_cases e : j = q
                  · subst e
                    rw [HZ.out] at hy
                    cases hy
                    exact HPT.out
                  · exact HNU.out j y (by omega) hy, HBQ⟩
                case measure => simp [intOf]; omega
            · have hlz' : decide ((x.1.size : Int) < (z.1.size : Int)) = false := by simp; omega
              have HPT := hide (pre_short2 (p := z.1) (x := x.1) (by omega))
              go_wp2
              go_quiet (fail)
              have HBQ := hide (below_two HBR.out (below_drewN (Below.refl _ wr) nq))
              clear HBR
              go_wp2
              go_roundw
              case rel => exact ⟨q + 1, by omega, by go_num, fun j y hj hy => by
                by_cases e : j = q
                · subst e
                  rw [HZ.out] at hy
                  cases hy
                  exact HPT.out
                · exact HNU.out j y (by omega) hy, HBQ⟩
              case measure => simp [intOf]; omega
          · have hqn' : (n : Int) ≤ (q : Int) := by omega
            have HNU2 : Hid (∀ (j : Nat) z, es[j]? = some z → ¬ x.1.data.toList ++ [47] <+: z.1.data.toList) := fun j z hz => HNU.out j z (by have := (List.getElem?_eq_some_iff.1 hz).1; have := HL.out; omega) hz
            have HMAY2 := hide (may_less HMAY.out hr0 HX.out (by rw [HL.out]; exact hn60) HNU2.out)
            have HSZ := hide (size_less HX.out)
            clear HNU HNU2
            have hrc : r ≤ c := by omega
            have hr1c : r + 1 ≤ n := by omega
            have hr1i : (r : Int) + 1 ≤ (n : Int) := by omega
            have hr10 : (0 : Int) ≤ (r : Int) + 1 := by omega
            have hwr : IntKind.i64.wrap ((r : Int) + 1) = (r : Int) + 1 := wrap_in _ (by omega)
            have hzr : w.heap.size ≤ wr.heap.size := HBR.out.size
            have HRD := hide ((HRN.out.below HBR.out HRN.out.1).below (Below.refl _ wr).drew (Nat.lt_of_lt_of_le HRN.out.1 hzr))
            obtain ⟨T, hT⟩ : ∃ T, T = es.take r := ⟨_, rfl⟩
            obtain ⟨D, hD⟩ : ∃ D, D = es.drop (r + 1) := ⟨_, rfl⟩
            have hTl : T.length = r := by rw [hT, List.length_take, HL.out]; omega
            have hDl : D.length = n - (r + 1) := by rw [hD, List.length_drop, HL.out]
            obtain ⟨ad2, hif⟩ : ∃ ad2 : Addr, (if c = r + 1 then some (⟨b, o, none⟩ : Addr) else some ⟨b, o + (r + 1) * 3, none⟩) = some ad2 := by split <;> exact ⟨_, rfl⟩
            have HA1 : Hid (ArgN wr.drew (some ⟨b, o, none⟩) r c T) := by
              have h7 : Run wr.drew b o T := ⟨HRD.out.1, fun j y hy => by
                rw [hT, List.getElem?_take] at hy
                split at hy
                · exact HRD.out.2 j y hy
                · cases hy⟩
              have h8 := h7.arg (c := c) (by omega)
              rw [hTl] at h8
              exact h8
            have HA2 : Hid (ArgN wr.drew (some ad2) (n - (r + 1)) (c - (r + 1)) D) := by
              by_cases hcr : c = r + 1
              · have e : D = [] := List.eq_nil_of_length_eq_zero (by omega)
                exact ⟨hDl, by simp, by omega, fun ad _ j u hu => by rw [e] at hu; simp [flat] at hu⟩
              · rw [if_neg hcr] at hif
                cases hif
                have h7 : Run wr.drew b (o + (r + 1) * 3) D := ⟨HRD.out.1, fun j y hy => by
                  rw [hD, List.getElem?_drop] at hy
                  have := HRD.out.2 (r + 1 + j) y hy
                  rw [show o + (r + 1 + j) * 3 = o + (r + 1) * 3 + j * 3 by omega] at this
                  exact this⟩
                have h8 := h7.arg (c := c - (r + 1)) (by omega)
                rw [hDl] at h8
                exact h8
            have HA2B : Hid (∀ W, Below w.heap.size wr.drew W → ArgN W (some ad2) (n - (r + 1)) (c - (r + 1)) D) := fun W hb => ⟨HA2.out.len, HA2.out.none, HA2.out.cap, fun ad e j u hu => by
              have h9 := HA2.out.cell ad e j u hu
              have h10 : ad.block < w.heap.size := by
                cases e
                by_cases hcr : c = r + 1
                · rw [if_pos hcr] at hif; cases hif; exact HRN.out.1
                · rw [if_neg hcr] at hif; cases hif; exact HRN.out.1
              have h11 := (hb.cell (p := ad.add j) (by rw [add_block]; exact h10)).trans h9
              exact h11⟩
            have HTD : Hid (T ++ D = es.take r ++ es.drop (r + 1)) := by rw [hT, hD]; rfl
            have HTL := hide hTl
            have HDL := hide hDl
            have hlen1 : ([] : List Nd).length + T.length < 1000000 := by rw [hTl]; simp; omega
            have hlen2 : T.length + D.length < 1000000 := by omega
            rw [← HTD.out] at HMAY2 HSZ
            clear hT hD hTl hDl
            go_wp2
            go_region_law (first
              | (refine step_append_nodes rfl (.const (.slice none 0 0)) (.tmp 123) rfl w.heap.size (.slice none 0 0) [] rfl (OwnN.nil _ _) ⟨b, o, none⟩ r c T (by simp [Act.eval, Act.put]) HA1.out hlen1 hzr ?_; intro b7 c7 w7 ho7 hb7; have HO7 : Hid (OwnN w.heap.size w7 (.slice b7 T.length c7) T) := (by show OwnN w.heap.size w7 (.slice b7 T.length c7) T; simpa using ho7); have HB7 := hide hb7; have hz7 := Nat.le_trans hzr hb7.size; clear ho7 hb7)
              | (refine step_append_nodes rfl (.tmp 124) (.tmp 128) rfl w.heap.size (.slice b7 T.length c7) T (by simp [Act.eval]) HO7.out ad2 (n - (r + 1)) (c - (r + 1)) D (by simp [Act.eval]) (HA2B.out w7 HB7.out) hlen2 hz7 ?_; intro b8 c8 w8 ho8 hb8; have HO8 := hide ho8; have HB8 := hide hb8; clear ho8 hb8))
            have HBW := hide (HBR.out.trans (((Below.refl _ wr).drew).trans (HB7.out.trans HB8.out)))
            have hz8 : w.heap.size ≤ w8.heap.size := HBW.out.size
            have hlb : b < w8.heap.size := Nat.lt_of_lt_of_le HRN.out.1 hz8
            have hxd := ((HRN.out.2 r x HX.out).below HBW.out HRN.out.1).data
            have f1 : ∀ p : Later w8, p.w1.cell? ⟨b, o + r * 3 + 2, none⟩ = some (.string x.2.2) := fun p => p.cell hlb hxd
            have HSMT : Hid (∀ z ∈ T ++ D, z.1.size ≤ 300 ∧ z.2.2.size ≤ 500) := fun z hz => by
              rw [HTD.out] at hz
              rcases List.mem_append.1 hz with h | h
              · exact HSM.out z (List.mem_of_mem_take h)
              · exact HSM.out z (List.mem_of_mem_drop h)
            have HC1 : Hid (∀ p : Later w8, Calls Tryd.prog 17 #[.slice b8 (T.length + D.length) c8] p.w1 fun e w' => e = .returned (.bool true) ∧ Below p.w1.heap.size p.w1 w') := fun p =>
              (mayT_ok _ (T ++ D) true w p.w1 ⟨hsh, below_two HBW.out p.below⟩ (fun z hz => by have := (HSMT.out z hz).1; omega) (HO8.out.below p.below).nods (by rw [List.length_append]; exact hlen2) HMAY2.out).mono fun e w' ⟨q1, _, q3⟩ => ⟨q1, q3⟩
            have HC2 : Hid (∀ p : Later w8, Calls Tryd.prog 21 #[.slice b8 (T.length + D.length) c8] p.w1 fun e w' => e = .returned (.int .i64 (sizeN (T ++ D))) ∧ Below p.w1.heap.size p.w1 w') := fun p =>
              size_any _ (T ++ D) p.w1 (HO8.out.below p.below).nods (by rw [List.length_append]; exact hlen2) (fun z hz => by have := (HSMT.out z hz).2; omega)
            have HC3 : Hid (∀ p : Later w8, Calls Tryd.prog 21 #[.slice (some ⟨b, o, none⟩) n c] p.w1 fun e w' => e = .returned (.int .i64 (sizeN es)) ∧ Below p.w1.heap.size p.w1 w') := fun p =>
              size_any _ es p.w1 (HA.out.below (below_two HBW.out p.below)).nods (by rw [HL.out]; omega) (fun z hz => by have := (HSM.out z hz).2; omega)
            have HC4 : Hid (∀ p : Later w8, Calls Tryd.prog 8 #[] p.w1 fun e w' => e = .returned (.bool true) ∧ Below p.w1.heap.size p.w1 w') := fun p =>
              (awake2_any w p.w1 ⟨hsh, below_two HBW.out p.below⟩).mono fun e w' ⟨q1, _, q3⟩ => ⟨q1, q3⟩
            have hsb : sizeN es ≤ 100000 := by
              have q1 := sizeN_le es 500 (fun z hz => (HSM.out z hz).2)
              rw [HL.out] at q1
              have : n * 500 ≤ 60 * 500 := Nat.mul_le_mul_right _ hn60
              omega
            have hsx : sizeN (T ++ D) + x.2.2.size = sizeN es := HSZ.out
            have hse : ((sizeN (T ++ D) : Int) == (sizeN es : Int) - (x.2.2.size : Int)) = true := by rw [beq_iff_eq]; omega
            have hne := later_one w8
            obtain ⟨S1, hS1⟩ : ∃ S1, S1 = sizeN (T ++ D) := ⟨_, rfl⟩
            obtain ⟨S2, hS2⟩ : ∃ S2, S2 = sizeN es := ⟨_, rfl⟩
            rw [← hS1] at hse hsx HC2
            rw [← hS2] at hse hsx hsb HC3
            have hsx1 : S1 ≤ 100000 := by omega
            clear hxd HO7 HB7 HB8 HA1 HA2 HA2B HSZ HMAY2 hif hsx hS1 hS2
            go_wp2
            refine wp_region_later (by kernel_rfl) (by kernel_rfl) ?_
            repeat (first
              | go_big_quiet_step ((first
                | (go_at_call 17; exact Calls.later_of (HC1.out _))
                | (go_at_call_of 21 b8; exact Calls.later_of (HC2.out _))
                | (go_at_call_of 21 o; exact Calls.later_of (HC3.out _))
                | (go_at_call 8; exact Calls.later_of (HC4.out _))))
              | quiet_step ((first
                | (go_at_call 17; exact Calls.later_of (HC1.out _))
                | (go_at_call_of 21 b8; exact Calls.later_of (HC2.out _))
                | (go_at_call_of 21 o; exact Calls.later_of (HC3.out _))
                | (go_at_call 8; exact Calls.later_of (HC4.out _)))))
            refine wpQuiet_nil ?_
            intro W4 hw'
            have hbq := later_below hw'
            clear hw'
            have HBF := hide (below_two HBW.out hbq)
            clear hbq f1
            go_wp2
            go_ret
            exact ⟨rfl, HBF.out⟩
    · have h1' : decide ((r : Int) + 1 < (n : Int)) = false := by simp; omega
      have hp1 := hp2
      go_wp2
      go_quiet (fail)
      have HB6 := hide (below_two HB5.out (below_drewN (Below.refl _ w5) nq))
      clear hp1 hp2 HB5
      go_wp2
      go_loopw [5] (fun i wr => ∃ q : Nat, q ≤ n ∧ i = .int .i64 q ∧ Hid (∀ (j : Nat) z, j < q → es[j]? = some z → ¬ x.1.data.toList ++ [47] <+: z.1.data.toList) ∧ Hid (Below w.heap.size w wr)) (fun i _ => n - (intOf i).toNat)
      case atStart => exact ⟨0, Nat.zero_le _, rfl, fun j z h => by omega, HB6⟩
      case round =>
        clear HB6
        obtain ⟨q, hq, rfl, HNU, HBR⟩ := hrel
        by_cases hqn : q < n
        · obtain ⟨z, hz⟩ : ∃ z, es[q]? = some z := ⟨es[q]'(by have := HL.out; omega), List.getElem?_eq_some_iff.2 ⟨_, rfl⟩⟩
          have hzs := (HSM.out z (List.mem_of_getElem? hz)).1
          have c1 := ((HRN.out.2 q z hz).below HBR.out HRN.out.1).path
          have c2 := ((HRN.out.2 r x HX.out).below HBR.out HRN.out.1).path
          have HZ := hide hz
          have hqn' : (q : Int) < (n : Int) := by omega
          clear hz
          by_cases hlz : x.1.size < z.1.size
          · have hlz' : (x.1.size : Int) < (z.1.size : Int) := by omega
            have hsl : (x.1.size : Int) + 1 ≤ (z.1.size : Int) := by omega
            have hsl2 : (0 : Int) ≤ (x.1.size : Int) + 1 := by omega
            cases hb : ((z.1.extract 0 (x.1.size + 1)).toList == (x.1 ++ ⟨#[47]⟩).toList) with
            | true =>
              have hbb := hb
              go_wp2
              go_quiet (fail)
              have HBQ := hide (below_two HBR.out (below_drewN (Below.refl _ wr) nq))
              clear HBR
              go_wp2_with fail
              refine (awake2_any w _ ⟨hsh, HBQ.out⟩).mono ?_
              rintro e w8 ⟨rfl, ok8, _⟩
              go_wp2
              go_ret
              exact ⟨rfl, ok8.2⟩
            | false =>
              have HPT := hide (pre_test hb)
              go_wp2
              go_quiet (fail)
              have HBQ := hide (below_two HBR.out (below_drewN (Below.refl _ wr) nq))
              clear HBR
              go_wp2
              go_roundw
              case rel => exact ⟨q + 1, by omega, by go_num, fun j y hj hy => by
                by_cases e : j = q
                · subst e
                  rw [HZ.out] at hy
                  cases hy
                  exact HPT.out
                · exact HNU.out j y (by omega) hy, HBQ⟩
              case measure => simp [intOf]; omega
          · have hlz' : decide ((x.1.size : Int) < (z.1.size : Int)) = false := by simp; omega
            have HPT := hide (pre_short2 (p := z.1) (x := x.1) (by omega))
            go_wp2
            go_quiet (fail)
            have HBQ := hide (below_two HBR.out (below_drewN (Below.refl _ wr) nq))
            clear HBR
            go_wp2
            go_roundw
            case rel => exact ⟨q + 1, by omega, by go_num, fun j y hj hy => by
              by_cases e : j = q
              · subst e
                rw [HZ.out] at hy
                cases hy
                exact HPT.out
              · exact HNU.out j y (by omega) hy, HBQ⟩
            case measure => simp [intOf]; omega
        · have hqn' : (n : Int) ≤ (q : Int) := by omega
          have HNU2 : Hid (∀ (j : Nat) z, es[j]? = some z → ¬ x.1.data.toList ++ [47] <+: z.1.data.toList) := fun j z hz => HNU.out j z (by have := (List.getElem?_eq_some_iff.1 hz).1; have := HL.out; omega) hz
          have HMAY2 := hide (may_less HMAY.out hr0 HX.out (by rw [HL.out]; exact hn60) HNU2.out)
          have HSZ := hide (size_less HX.out)
          clear HNU HNU2
          have hrc : r ≤ c := by omega
          have hr1c : r + 1 ≤ n := by omega
          have hr1i : (r : Int) + 1 ≤ (n : Int) := by omega
          have hr10 : (0 : Int) ≤ (r : Int) + 1 := by omega
          have hwr : IntKind.i64.wrap ((r : Int) + 1) = (r : Int) + 1 := wrap_in _ (by omega)
          have hzr : w.heap.size ≤ wr.heap.size := HBR.out.size
          have HRD := hide ((HRN.out.below HBR.out HRN.out.1).below (Below.refl _ wr).drew (Nat.lt_of_lt_of_le HRN.out.1 hzr))
          obtain ⟨T, hT⟩ : ∃ T, T = es.take r := ⟨_, rfl⟩
          obtain ⟨D, hD⟩ : ∃ D, D = es.drop (r + 1) := ⟨_, rfl⟩
          have hTl : T.length = r := by rw [hT, List.length_take, HL.out]; omega
          have hDl : D.length = n - (r + 1) := by rw [hD, List.length_drop, HL.out]
          obtain ⟨ad2, hif⟩ : ∃ ad2 : Addr, (if c = r + 1 then some (⟨b, o, none⟩ : Addr) else some ⟨b, o + (r + 1) * 3, none⟩) = some ad2 := by split <;> exact ⟨_, rfl⟩
          have HA1 : Hid (ArgN wr.drew (some ⟨b, o, none⟩) r c T) := by
            have h7 : Run wr.drew b o T := ⟨HRD.out.1, fun j y hy => by
              rw [hT, List.getElem?_take] at hy
              split at hy
              · exact HRD.out.2 j y hy
              · cases hy⟩
            have h8 := h7.arg (c := c) (by omega)
            rw [hTl] at h8
            exact h8
          have HA2 : Hid (ArgN wr.drew (some ad2) (n - (r + 1)) (c - (r + 1)) D) := by
            by_cases hcr : c = r + 1
            · have e : D = [] := List.eq_nil_of_length_eq_zero (by omega)
              exact ⟨hDl, by simp, by omega, fun ad _ j u hu => by rw [e] at hu; simp [flat] at hu⟩
            · rw [if_neg hcr] at hif
              cases hif
              have h7 : Run wr.drew b (o + (r + 1) * 3) D := ⟨HRD.out.1, fun j y hy => by
                rw [hD, List.getElem?_drop] at hy
                have := HRD.out.2 (r + 1 + j) y hy
                rw [show o + (r + 1 + j) * 3 = o + (r + 1) * 3 + j * 3 by omega] at this
                exact this⟩
              have h8 := h7.arg (c := c - (r + 1)) (by omega)
              rw [hDl] at h8
              exact h8
          have HA2B : Hid (∀ W, Below w.heap.size wr.drew W → ArgN W (some ad2) (n - (r + 1)) (c - (r + 1)) D) := fun W hb => ⟨HA2.out.len, HA2.out.none, HA2.out.cap, fun ad e j u hu => by
            have h9 := HA2.out.cell ad e j u hu
            have h10 : ad.block < w.heap.size := by
              cases e
              by_cases hcr : c = r + 1
              · rw [if_pos hcr] at hif; cases hif; exact HRN.out.1
              · rw [if_neg hcr] at hif; cases hif; exact HRN.out.1
            have h11 := (hb.cell (p := ad.add j) (by rw [add_block]; exact h10)).trans h9
            exact h11⟩
          have HTD : Hid (T ++ D = es.take r ++ es.drop (r + 1)) := by rw [hT, hD]; rfl
          have HTL := hide hTl
          have HDL := hide hDl
          have hlen1 : ([] : List Nd).length + T.length < 1000000 := by rw [hTl]; simp; omega
          have hlen2 : T.length + D.length < 1000000 := by omega
          rw [← HTD.out] at HMAY2 HSZ
          clear hT hD hTl hDl
          go_wp2
          go_region_law (first
            | (refine step_append_nodes rfl (.const (.slice none 0 0)) (.tmp 123) rfl w.heap.size (.slice none 0 0) [] rfl (OwnN.nil _ _) ⟨b, o, none⟩ r c T (by simp [Act.eval, Act.put]) HA1.out hlen1 hzr ?_; intro b7 c7 w7 ho7 hb7; have HO7 : Hid (OwnN w.heap.size w7 (.slice b7 T.length c7) T) := (by show OwnN w.heap.size w7 (.slice b7 T.length c7) T; simpa using ho7); have HB7 := hide hb7; have hz7 := Nat.le_trans hzr hb7.size; clear ho7 hb7)
            | (refine step_append_nodes rfl (.tmp 124) (.tmp 128) rfl w.heap.size (.slice b7 T.length c7) T (by simp [Act.eval]) HO7.out ad2 (n - (r + 1)) (c - (r + 1)) D (by simp [Act.eval]) (HA2B.out w7 HB7.out) hlen2 hz7 ?_; intro b8 c8 w8 ho8 hb8; have HO8 := hide ho8; have HB8 := hide hb8; clear ho8 hb8))
          have HBW := hide (HBR.out.trans (((Below.refl _ wr).drew).trans (HB7.out.trans HB8.out)))
          have hz8 : w.heap.size ≤ w8.heap.size := HBW.out.size
          have hlb : b < w8.heap.size := Nat.lt_of_lt_of_le HRN.out.1 hz8
          have hxd := ((HRN.out.2 r x HX.out).below HBW.out HRN.out.1).data
          have f1 : ∀ p : Later w8, p.w1.cell? ⟨b, o + r * 3 + 2, none⟩ = some (.string x.2.2) := fun p => p.cell hlb hxd
          have HSMT : Hid (∀ z ∈ T ++ D, z.1.size ≤ 300 ∧ z.2.2.size ≤ 500) := fun z hz => by
            rw [HTD.out] at hz
            rcases List.mem_append.1 hz with h | h
            · exact HSM.out z (List.mem_of_mem_take h)
            · exact HSM.out z (List.mem_of_mem_drop h)
          have HC1 : Hid (∀ p : Later w8, Calls Tryd.prog 17 #[.slice b8 (T.length + D.length) c8] p.w1 fun e w' => e = .returned (.bool true) ∧ Below p.w1.heap.size p.w1 w') := fun p =>
            (mayT_ok _ (T ++ D) true w p.w1 ⟨hsh, below_two HBW.out p.below⟩ (fun z hz => by have := (HSMT.out z hz).1; omega) (HO8.out.below p.below).nods (by rw [List.length_append]; exact hlen2) HMAY2.out).mono fun e w' ⟨q1, _, q3⟩ => ⟨q1, q3⟩
          have HC2 : Hid (∀ p : Later w8, Calls Tryd.prog 21 #[.slice b8 (T.length + D.length) c8] p.w1 fun e w' => e = .returned (.int .i64 (sizeN (T ++ D))) ∧ Below p.w1.heap.size p.w1 w') := fun p =>
            size_any _ (T ++ D) p.w1 (HO8.out.below p.below).nods (by rw [List.length_append]; exact hlen2) (fun z hz => by have := (HSMT.out z hz).2; omega)
          have HC3 : Hid (∀ p : Later w8, Calls Tryd.prog 21 #[.slice (some ⟨b, o, none⟩) n c] p.w1 fun e w' => e = .returned (.int .i64 (sizeN es)) ∧ Below p.w1.heap.size p.w1 w') := fun p =>
            size_any _ es p.w1 (HA.out.below (below_two HBW.out p.below)).nods (by rw [HL.out]; omega) (fun z hz => by have := (HSM.out z hz).2; omega)
          have HC4 : Hid (∀ p : Later w8, Calls Tryd.prog 8 #[] p.w1 fun e w' => e = .returned (.bool true) ∧ Below p.w1.heap.size p.w1 w') := fun p =>
            (awake2_any w p.w1 ⟨hsh, below_two HBW.out p.below⟩).mono fun e w' ⟨q1, _, q3⟩ => ⟨q1, q3⟩
          have hsb : sizeN es ≤ 100000 := by
            have q1 := sizeN_le es 500 (fun z hz => (HSM.out z hz).2)
            rw [HL.out] at q1
            have : n * 500 ≤ 60 * 500 := Nat.mul_le_mul_right _ hn60
            omega
          have hsx : sizeN (T ++ D) + x.2.2.size = sizeN es := HSZ.out
          have hse : ((sizeN (T ++ D) : Int) == (sizeN es : Int) - (x.2.2.size : Int)) = true := by rw [beq_iff_eq]; omega
          have hne := later_one w8
          obtain ⟨S1, hS1⟩ : ∃ S1, S1 = sizeN (T ++ D) := ⟨_, rfl⟩
          obtain ⟨S2, hS2⟩ : ∃ S2, S2 = sizeN es := ⟨_, rfl⟩
          rw [← hS1] at hse hsx HC2
          rw [← hS2] at hse hsx hsb HC3
          have hsx1 : S1 ≤ 100000 := by omega
          clear hxd HO7 HB7 HB8 HA1 HA2 HA2B HSZ HMAY2 hif hsx hS1 hS2
          go_wp2
          refine wp_region_later (by kernel_rfl) (by kernel_rfl) ?_
          repeat (first
            | go_big_quiet_step ((first
              | (go_at_call 17; exact Calls.later_of (HC1.out _))
              | (go_at_call_of 21 b8; exact Calls.later_of (HC2.out _))
              | (go_at_call_of 21 o; exact Calls.later_of (HC3.out _))
              | (go_at_call 8; exact Calls.later_of (HC4.out _))))
            | quiet_step ((first
              | (go_at_call 17; exact Calls.later_of (HC1.out _))
              | (go_at_call_of 21 b8; exact Calls.later_of (HC2.out _))
              | (go_at_call_of 21 o; exact Calls.later_of (HC3.out _))
              | (go_at_call 8; exact Calls.later_of (HC4.out _)))))
          refine wpQuiet_nil ?_
          intro W4 hw'
          have hbq := later_below hw'
          clear hw'
          have HBF := hide (below_two HBW.out hbq)
          clear hbq f1
          go_wp2
          go_ret
          exact ⟨rfl, HBF.out⟩

theorem cuts_walk (ao : Option Addr) (n c : Nat) (ns : List Nd) (k : Int) (w : World) (hsh : w.ShapedOpen Tryd.prog) (h : ArgN w ao n c ns) (hm : n ≤ maxLen) :
    Calls Tryd.prog 5 #[.slice ao n c, .int .i64 k] w fun e w' => e = .returned (.bool true) ∧ Below w.heap.size w w' := by
  cases hg : greatN 60 ns with
  | true => exact cuts_great ao n c ns k w hsh h hm hg
  | false =>
    cases hy : mayN ns with
    | false => exact cuts_none ao n c ns k w hsh h hg hy
    | true =>
      rcases h.nods with ⟨e, _⟩ | ⟨b, o, c', e, _, hr⟩
      · exact absurd e (may_iff.1 hy).1
      · simp only [Value.slice.injEq] at e
        obtain ⟨rfl, _, _⟩ := e
        exact cuts_main b o n c ns k w hsh h hr hg hy
end Go.Proofs.YtdgchinfanialaaDoor
