/- The walk of slices.symMergeCmpFunc of two runs. -/
import Derived.Test.YteablfekfijnhaaDoorS5
namespace Go.Proofs.YteablfekfijnhaaDoor
open Go.RowKit

set_option maxRecDepth 100000 in
set_option maxHeartbeats 8000000 in
theorem sym_main (base g cap n k : Nat) (IH : SymSaid base g cap n k) (hn : n < 1000) (P A B Q : List Nd) (w : World) (a m b : Nat) (h : RowD base g cap n w (P ++ (A ++ (B ++ Q)))) (ha : P.length = a) (hA : a + A.length = m) (hB : m + B.length = b)
    (hA2 : 1 < A.length) (hB2 : 1 < B.length) (hsA : Srtd A) (hsB : Srtd B) (hk : A.length + B.length ≤ k + 1) :
    Calls Tryd.prog 48 #[.slice (some ⟨g, 0, none⟩) n cap, .int .i64 a, .int .i64 m, .int .i64 b, .func (.func 33) #[] #[]] w
      fun e w' => e = .returned (.tuple #[]) ∧ (∃ M', RowD base g cap n w' (P ++ (M' ++ Q)) ∧ Srtd M' ∧ Alike (A ++ B) M') ∧ Below base w w' := by
  have HR := hide h
  have HIH := hide IH
  have hg := h.lt.1
  have hlen := h.len
  simp only [List.length_append] at hlen
  have hbn : b ≤ n := by omega
  have HA := hide ha
  have HAL := hide hA
  have HBL := hide hB
  have HSA := hide hsA
  have HSB := hide hsB
  have ham : a + 1 < m := by omega
  have hmb : m + 1 < b := by omega
  have hbk : b ≤ a + k + 1 := by omega
  have h1 : ((m : Int) - (a : Int) == 1) = false := by rw [beq_eq_false_iff_ne]; omega
  have h2 : ((b : Int) - (m : Int) == 1) = false := by rw [beq_eq_false_iff_ne]; omega
  obtain ⟨mid, hmid⟩ : ∃ mid : Nat, ((a : Int) + (b : Int)) / 2 = (mid : Int) := ⟨(a + b) / 2, by omega⟩
  obtain ⟨N0, hN0⟩ : ∃ N0 : Nat, (mid : Int) + (m : Int) = (N0 : Int) := ⟨mid + m, by omega⟩
  obtain ⟨pp, hpp⟩ : ∃ pp : Nat, (N0 : Int) - 1 = (pp : Int) := ⟨mid + m - 1, by omega⟩
  have hm1 : a < mid := by omega
  have hm2 : mid < b := by omega
  have hN : N0 = mid + m := by omega
  have hp : pp + 1 = N0 := by omega
  have HGA : Hid (∀ t, t < A.length → (P ++ (A ++ (B ++ Q)))[a + t]? = A[t]?) := fun t ht => get_mid ha ht
  have HGB : Hid (∀ t, t < B.length → (P ++ (A ++ (B ++ Q)))[m + t]? = B[t]?) := fun t ht => by
    have := get_mid (P := P ++ A) (B := B) (Q := Q) (a := m) (t := t) (by rw [List.length_append, ha, hA]) ht
    simpa using this
  have HN := hide hN
  have HP := hide hp
  clear h hlen ha hA hB hA2 hB2 hsA hsB hk hN hp IH
  by_cases hmm : mid < m
  · obtain ⟨st, hst⟩ : ∃ st : Nat, (N0 : Int) - (b : Int) = (st : Int) := ⟨mid + m - b, by omega⟩
    have hmm' : (mid : Int) < (m : Int) := by omega
    have hst1 : a ≤ st := by omega
    have hst2 : st < mid := by omega
    have HT : Hid (∃ t0 t1, st = a + t0 ∧ mid = a + t1 ∧ (t1 = A.length ∨ t1 = mid - a) ∧ (t0 = 0 ∨ mid - a - t0 = B.length) ∧ t1 ≤ A.length ∧ t1 ≤ mid - a ∧ mid - a - t0 ≤ B.length) := ⟨st - a, mid - a, by omega, by omega, .inr rfl, .inr (by have := HBL.out; have := HN.out; omega), by have := HAL.out; omega, Nat.le_refl _, by have := HBL.out; have := HN.out; omega⟩
    go_enter Tryd.func48, Tryd.ntmps48
    go_wp2
    have HMID := hide hmid
    have HN0 := hide hN0
    have HPP := hide hpp
    clear hmid hN0 hpp hst
    go_loopw [20, 21, 23] (fun s t _ wr => ∃ i j : Nat, st ≤ i ∧ i ≤ j ∧ j ≤ mid ∧ s = .int .i64 i ∧ t = .int .i64 j ∧ Hid (SymLo A B (mid - a) (st - a) (i - a) ∧ SymHi A B (mid - a) (mid - a) (j - a)) ∧ Hid (RowD base g cap n wr (P ++ (A ++ (B ++ Q)))) ∧ Hid (Below base w wr)) (fun s t _ _ => (intOf t).toNat - (intOf s).toNat)
    case atStart => exact ⟨st, mid, Nat.le_refl _, by omega, Nat.le_refl _, rfl, rfl, ⟨fun t h1 h2 => by omega, fun t h1 h2 => by omega⟩, HR, Below.refl _ _⟩
    case round =>
      obtain ⟨i, j, hi, hij, hj, rfl, rfl, HL, HD, HB⟩ := hrel
      clear HR
      have hgw : g < wr.heap.size := HD.out.lt.2
      by_cases hlt : i < j
      · have hlt' : (i : Int) < (j : Int) := by omega
        obtain ⟨q, hq⟩ : ∃ q : Nat, ((i : Int) + (j : Int)) / 2 = (q : Int) := ⟨(i + j) / 2, by omega⟩
        have hq1 : i ≤ q := by omega
        have hq2 : q < j := by omega
        have hfact : q - a < A.length ∧ q - a < mid - a ∧ mid - a - 1 - (q - a) < B.length ∧ q ≤ pp ∧ pp - q = m + (mid - a - 1 - (q - a)) ∧ a ≤ q := by
          obtain ⟨t0, t1, e0, e1, _, _, k1, k2, k3⟩ := HT.out
          have := HN.out; have := HP.out; have := HAL.out; have := HBL.out
          omega
        obtain ⟨u1, u2, u3, u4, u5, u6⟩ := hfact
        obtain ⟨d, hd⟩ : ∃ d : Nat, (pp : Int) - (q : Int) = (d : Int) := ⟨pp - q, by omega⟩
        have hdn : d < n := by have := HBL.out; omega
        obtain ⟨x, hx⟩ : ∃ x, A[q - a]? = some x := ⟨A[q - a], List.getElem?_eq_some_iff.2 ⟨_, rfl⟩⟩
        obtain ⟨y, hy⟩ : ∃ y, B[mid - a - 1 - (q - a)]? = some y := ⟨B[mid - a - 1 - (q - a)], List.getElem?_eq_some_iff.2 ⟨_, rfl⟩⟩
        have hxd : (P ++ (A ++ (B ++ Q)))[q]? = some x := by
          have := HGA.out (q - a) u1
          rw [show a + (q - a) = q by omega] at this
          rw [this, hx]
        have hyd : (P ++ (A ++ (B ++ Q)))[d]? = some y := by
          have := HGB.out (mid - a - 1 - (q - a)) u3
          rw [← u5, show pp - q = d by omega] at this
          rw [this, hy]
        have ax := HD.out.at hxd
        have ay := HD.out.at hyd
        have hne := later_one wr
        have f1 : ∀ p : Later wr, p.w1.cell? ⟨g, d * 3, none⟩ = some (.string y.1) := fun p => p.cell hgw ay.path
        have f2 : ∀ p : Later wr, p.w1.cell? ⟨g, d * 3 + 1, none⟩ = some (.int .i64 y.2.1) := fun p => p.cell hgw ay.kind
        have f3 : ∀ p : Later wr, p.w1.cell? ⟨g, d * 3 + 2, none⟩ = some (.string y.2.2) := fun p => p.cell hgw ay.data
        have g1 : ∀ p : Later wr, p.w1.cell? ⟨g, q * 3, none⟩ = some (.string x.1) := fun p => p.cell hgw ax.path
        have g2 : ∀ p : Later wr, p.w1.cell? ⟨g, q * 3 + 1, none⟩ = some (.int .i64 x.2.1) := fun p => p.cell hgw ax.kind
        have g3 : ∀ p : Later wr, p.w1.cell? ⟨g, q * 3 + 2, none⟩ = some (.string x.2.2) := fun p => p.cell hgw ax.data
        have hqn : (q : Int) < (n : Int) := by have := HAL.out; omega
        have hdn' : (d : Int) < (n : Int) := by omega
        have hqpp : (q : Int) ≤ (pp : Int) := by omega
        have HQ := hide hq
        have HX := hide hx
        have HY := hide hy
        have hd' := hd
        clear hq hx hy hxd hyd ax ay u5 hd
        by_cases hc : cmpN y x < 0
        · have HC := hide ((cmpN_neg y x).1 hc)
          go_wp2
          rw [HQ.out]
          refine wp_region_later (by kernel_rfl) (by kernel_rfl) ?_
          repeat (first | go_big_quiet_step ((go_at_call 33; exact Calls.later_of (bypath_any y x _))) | quiet_step ((go_at_call 33; exact Calls.later_of (bypath_any y x _))))
          refine wpQuiet_nil ?_
          intro W4 hw'
          have hbq := later_below hw'
          clear hw'
          have HD4 := hide (HD.out.below hbq)
          have HB4 := hide (HB.out.trans (hbq.mono (Nat.le_trans hg (Nat.le_of_lt hgw))))
          clear f1 f2 f3 g1 g2 g3 hbq hne
          go_wp2
          go_roundw
          case rel => exact ⟨i, q, hi, by omega, by omega, rfl, rfl, ⟨HL.out.1, fun t ht1 ht2 => not_step HSA.out HSB.out HX.out HY.out HC.out t ht1 (by obtain ⟨t0, t1, e0, e1, _, _, k1, k2, k3⟩ := HT.out; omega)⟩, HD4, HB4⟩
          case measure => simp [intOf]; omega
        · have HC : Hid (ltN y x = false) := by
            show ltN y x = false
            cases k : ltN y x with
            | false => rfl
            | true => exact absurd ((cmpN_neg y x).2 k) hc
          have hc' : decide (cmpN y x < 0) = false := by simpa using hc
          clear hc
          go_wp2
          rw [HQ.out]
          refine wp_region_later (by kernel_rfl) (by kernel_rfl) ?_
          repeat (first | go_big_quiet_step ((go_at_call 33; exact Calls.later_of (bypath_any y x _))) | quiet_step ((go_at_call 33; exact Calls.later_of (bypath_any y x _))))
          refine wpQuiet_nil ?_
          intro W4 hw'
          have hbq := later_below hw'
          clear hw'
          have HD4 := hide (HD.out.below hbq)
          have HB4 := hide (HB.out.trans (hbq.mono (Nat.le_trans hg (Nat.le_of_lt hgw))))
          clear f1 f2 f3 g1 g2 g3 hbq hne
          go_wp2
          go_roundw
          case rel => exact ⟨q + 1, j, by omega, by omega, hj, by go_num, rfl, ⟨fun t ht1 ht2 => cond_step HSA.out HSB.out u2 HX.out HY.out HC.out t (by omega), HL.out.2⟩, HD4, HB4⟩
          case measure => simp [intOf]; omega
      · have e : j = i := by omega
        subst e
        have hfnd : ∃ A1 X Y B2, A = A1 ++ X ∧ B = Y ++ B2 ∧ A1.length = j - a ∧ Y.length = mid - a - (j - a) ∧ (∀ x ∈ X, ∀ y ∈ Y, ltN y x = true) ∧ ∀ x ∈ A1, ∀ z ∈ B2, ltN z x = false := by
          obtain ⟨t0, t1, e0, e1, k4, k5, k1, k2, k3⟩ := HT.out
          exact sym_found (t0 := st - a) (t1 := mid - a) (s := j - a) HSA.out HSB.out (by omega) (by omega) (by omega) (by omega) (by omega) HL.out.1 HL.out.2 (k4.elim (fun k => .inl (by omega)) (fun k => .inr (by omega))) (k5.elim (fun k => .inl (by omega)) (fun k => .inr (by omega)))
        obtain ⟨A1, X, Y, B2, eA, eB, la, ly, hxy, hab⟩ := hfnd
        have hja : a ≤ j := by omega
        have hjm : j ≤ mid ∧ j ≤ m := by obtain ⟨t0, t1, e0, e1, k4, k5, k1, k2, k3⟩ := HT.out; have := HAL.out; omega
        obtain ⟨en, hen⟩ : ∃ en : Nat, (N0 : Int) - (j : Int) = (en : Int) := ⟨N0 - j, by have := HN.out; omega⟩
        have HEQ : Hid (A = A1 ++ X ∧ B = Y ++ B2 ∧ A1.length = j - a ∧ Y.length = mid - j ∧ X.length = m - j ∧ B2.length = b - en ∧ en = m + (mid - j)) := by
          have q1 := HAL.out; have q2 := HBL.out; have q3 := HN.out
          rw [eA] at q1
          rw [eB] at q2
          simp only [List.length_append] at q1 q2
          exact ⟨eA, eB, la, by omega, by omega, by omega, by omega⟩
        have HXY := hide hxy
        have HAB := hide hab
        have HD2 : Hid (RowD base g cap n wr (P ++ (A1 ++ (X ++ (Y ++ (B2 ++ Q)))))) := by
          have := HD.out
          rw [eA, eB] at this
          show RowD _ _ _ _ _ _
          simpa using this
        have hen2 : en = m + (mid - j) := HEQ.out.2.2.2.2.2.2
        have hene : m ≤ en ∧ mid ≤ en ∧ en ≤ b ∧ en - mid = m - j := by
          have q2 := HBL.out
          have := HEQ.out
          have l3 : Y.length + B2.length = B.length := by rw [this.2.1]; simp
          omega
        have HEN2 := hide hen2
        clear eA eB la ly hxy hab HL HT HD HGA HGB hen2
        by_cases cX : j < m
        · by_cases cY : j < mid
          · have e1 : (j : Int) < (m : Int) := by omega
            have e2 : (m : Int) < (en : Int) := by have := HEN2.out; omega
            have e3 : (j : Int) < (mid : Int) := by omega
            have e4 : (mid : Int) < (en : Int) := by omega
            go_wp2_with fail
            refine (rotate_any base g cap n j m en wr (P ++ A1) X Y (B2 ++ Q) (by have := HD2.out; simpa using this) hn (by have := HEQ.out; have := HA.out; simp; omega) (by have := HEQ.out; omega) (by have := HEQ.out; omega) (by have := HEQ.out; omega) (by have := HEQ.out; omega) _).mono ?_
            rintro e w2 ⟨rfl, hr2, hb2⟩
            have HD3 : Hid (RowD base g cap n w2 (P ++ (A1 ++ (Y ++ (X ++ (B2 ++ Q)))))) := by
              show RowD _ _ _ _ _ _
              simpa using hr2
            have HB3 := hide (HB.out.trans hb2)
            clear hr2 hb2 HD2 HB
            by_cases cA : a < j
            · have e5 : (a : Int) < (j : Int) := by omega
              go_wp2_with fail
              refine (HIH.out P A1 Y (X ++ (B2 ++ Q)) w2 a j mid HD3.out HA.out (by have := HEQ.out; omega) (by have := HEQ.out; omega) (by intro e; have := HEQ.out.2.2.1; rw [e] at this; simp at this; omega) (by intro e; have := HEQ.out.2.2.2.1; rw [e] at this; simp at this; omega) (by have := HSA.out; rw [HEQ.out.1] at this; exact (srtd_app.1 this).1) (by have := HSB.out; rw [HEQ.out.2.1] at this; exact (srtd_app.1 this).1) (by have := HEQ.out; omega)).mono ?_
              rintro e w5 ⟨rfl, hL, hb5⟩
              obtain ⟨L, hr5, hsL, haL⟩ := hL
              have HL5 : Hid (RowD base g cap n w5 (P ++ (L ++ (X ++ (B2 ++ Q)))) ∧ Srtd L ∧ Alike (A1 ++ Y) L ∧ L.length = mid - a) := ⟨hr5, hsL, haL, by
                have l1 := hr5.len
                have l2 := HD3.out.len
                have := HEQ.out
                simp only [List.length_append] at l1 l2
                omega⟩
              have HB5 := hide (HB3.out.trans hb5)
              clear hr5 hsL haL hb5 HD3 HB3
              by_cases cB : en < b
              · have e6 : (en : Int) < (b : Int) := by omega
                go_wp2_with fail
                refine (HIH.out (P ++ L) X B2 Q w5 mid en b (by have := HL5.out.1; simpa using this) (by have := HL5.out.2.2.2; have := HA.out; simp; omega) (by have := HEQ.out; omega) (by have := HEQ.out; omega) (by intro e; have := HEQ.out.2.2.2.2.1; rw [e] at this; simp at this; omega) (by intro e; have := HEQ.out.2.2.2.2.2.1; rw [e] at this; simp at this; omega) (by have := HSA.out; rw [HEQ.out.1] at this; exact (srtd_app.1 this).2.1) (by have := HSB.out; rw [HEQ.out.2.1] at this; exact (srtd_app.1 this).2.1) (by have := HEQ.out; omega)).mono ?_
                rintro e w6 ⟨rfl, hR, hb6⟩
                obtain ⟨R, hr6, hsR, haR⟩ := hR
                have HR6 : Hid (RowD base g cap n w6 (P ++ (L ++ (R ++ Q))) ∧ Srtd R ∧ Alike (X ++ B2) R) := ⟨by simpa using hr6, hsR, haR⟩
                have HB6 := hide (HB5.out.trans hb6)
                clear hr6 hsR haR hb6
                go_wp2
                go_end0
                obtain ⟨z1, z2⟩ := sym_join (by have := HSA.out; rw [HEQ.out.1] at this; exact this) (by have := HSB.out; rw [HEQ.out.2.1] at this; exact this) HXY.out HAB.out HL5.out.2.1 HR6.out.2.1 HL5.out.2.2.1 HR6.out.2.2
                exact ⟨rfl, ⟨L ++ R, by have := HR6.out.1; simpa using this, z1, by rw [HEQ.out.1, HEQ.out.2.1]; exact z2⟩, HB6.out⟩
              · have e6 : (b : Int) ≤ (en : Int) := by omega
                go_wp2
                go_end0
                have eB2 : B2 = [] := List.eq_nil_of_length_eq_zero (by have := HEQ.out; omega)
                obtain ⟨z1, z2⟩ := sym_join (R := X) (by have := HSA.out; rw [HEQ.out.1] at this; exact this) (by have := HSB.out; rw [HEQ.out.2.1] at this; exact this) HXY.out HAB.out HL5.out.2.1 (by have := HSA.out; rw [HEQ.out.1] at this; exact (srtd_app.1 this).2.1) HL5.out.2.2.1 (by rw [eB2]; simp [Alike.refl])
                exact ⟨rfl, ⟨L ++ X, by have := HL5.out.1; rw [eB2] at this; simpa using this, z1, by rw [HEQ.out.1, HEQ.out.2.1]; exact z2⟩, HB5.out⟩
            · have e5 : (j : Int) ≤ (a : Int) := by omega
              have HL5 : Hid (∃ L, RowD base g cap n w2 (P ++ (L ++ (X ++ (B2 ++ Q)))) ∧ Srtd L ∧ Alike (A1 ++ Y) L ∧ L.length = mid - a) := by
                have eA : A1 = [] := List.eq_nil_of_length_eq_zero (by have := HEQ.out; omega)
                refine ⟨Y, by have := HD3.out; rw [eA] at this; simpa using this, by have := HSB.out; rw [HEQ.out.2.1] at this; exact (srtd_app.1 this).1, by rw [eA]; exact Alike.refl _, by have := HEQ.out; omega⟩
              obtain ⟨L, HL5⟩ := HL5.out
              have HL5 := hide HL5
              have HB5 := HB3
              clear HD3 HB3
              by_cases cB : en < b
              · have e6 : (en : Int) < (b : Int) := by omega
                go_wp2_with fail
                refine (HIH.out (P ++ L) X B2 Q w2 mid en b (by have := HL5.out.1; simpa using this) (by have := HL5.out.2.2.2; have := HA.out; simp; omega) (by have := HEQ.out; omega) (by have := HEQ.out; omega) (by intro e; have := HEQ.out.2.2.2.2.1; rw [e] at this; simp at this; omega) (by intro e; have := HEQ.out.2.2.2.2.2.1; rw [e] at this; simp at this; omega) (by have := HSA.out; rw [HEQ.out.1] at this; exact (srtd_app.1 this).2.1) (by have := HSB.out; rw [HEQ.out.2.1] at this; exact (srtd_app.1 this).2.1) (by have := HEQ.out; omega)).mono ?_
                rintro e w6 ⟨rfl, hR, hb6⟩
                obtain ⟨R, hr6, hsR, haR⟩ := hR
                have HR6 : Hid (RowD base g cap n w6 (P ++ (L ++ (R ++ Q))) ∧ Srtd R ∧ Alike (X ++ B2) R) := ⟨by simpa using hr6, hsR, haR⟩
                have HB6 := hide (HB5.out.trans hb6)
                clear hr6 hsR haR hb6
                go_wp2
                go_end0
                obtain ⟨z1, z2⟩ := sym_join (by have := HSA.out; rw [HEQ.out.1] at this; exact this) (by have := HSB.out; rw [HEQ.out.2.1] at this; exact this) HXY.out HAB.out HL5.out.2.1 HR6.out.2.1 HL5.out.2.2.1 HR6.out.2.2
                exact ⟨rfl, ⟨L ++ R, by have := HR6.out.1; simpa using this, z1, by rw [HEQ.out.1, HEQ.out.2.1]; exact z2⟩, HB6.out⟩
              · have e6 : (b : Int) ≤ (en : Int) := by omega
                go_wp2
                go_end0
                have eB2 : B2 = [] := List.eq_nil_of_length_eq_zero (by have := HEQ.out; omega)
                obtain ⟨z1, z2⟩ := sym_join (R := X) (by have := HSA.out; rw [HEQ.out.1] at this; exact this) (by have := HSB.out; rw [HEQ.out.2.1] at this; exact this) HXY.out HAB.out HL5.out.2.1 (by have := HSA.out; rw [HEQ.out.1] at this; exact (srtd_app.1 this).2.1) HL5.out.2.2.1 (by rw [eB2]; simp [Alike.refl])
                exact ⟨rfl, ⟨L ++ X, by have := HL5.out.1; rw [eB2] at this; simpa using this, z1, by rw [HEQ.out.1, HEQ.out.2.1]; exact z2⟩, HB5.out⟩
          · have e1 : (j : Int) < (m : Int) := by omega
            have e2 : (en : Int) ≤ (m : Int) := by have := HEN2.out; omega
            have e3 : (mid : Int) ≤ (j : Int) := by omega
            have e4 : (mid : Int) < (en : Int) := by omega
            have HD3 : Hid (RowD base g cap n wr (P ++ (A1 ++ (Y ++ (X ++ (B2 ++ Q)))))) := by
              have eY : Y = [] := List.eq_nil_of_length_eq_zero (by have := HEQ.out; omega)
              have := HD2.out
              rw [eY] at this ⊢
              show RowD _ _ _ _ _ _
              simpa using this
            have HB3 := HB
            clear HD2 HB
            have HL5 : Hid (∃ L, RowD base g cap n wr (P ++ (L ++ (X ++ (B2 ++ Q)))) ∧ Srtd L ∧ Alike (A1 ++ Y) L ∧ L.length = mid - a) := by
              have eY : Y = [] := List.eq_nil_of_length_eq_zero (by have := HEQ.out; omega)
              refine ⟨A1, by have := HD3.out; rw [eY] at this; simpa using this, by have := HSA.out; rw [HEQ.out.1] at this; exact (srtd_app.1 this).1, by rw [eY]; simp [Alike.refl], by have := HEQ.out; omega⟩
            obtain ⟨L, HL5⟩ := HL5.out
            have HL5 := hide HL5
            have HB5 := HB3
            clear HD3 HB3
            have e5 : decide ((a : Int) < (j : Int)) = true := by simp; omega
            by_cases cB : en < b
            · have e6 : (en : Int) < (b : Int) := by omega
              go_wp2_with fail
              refine (HIH.out (P ++ L) X B2 Q wr mid en b (by have := HL5.out.1; simpa using this) (by have := HL5.out.2.2.2; have := HA.out; simp; omega) (by have := HEQ.out; omega) (by have := HEQ.out; omega) (by intro e; have := HEQ.out.2.2.2.2.1; rw [e] at this; simp at this; omega) (by intro e; have := HEQ.out.2.2.2.2.2.1; rw [e] at this; simp at this; omega) (by have := HSA.out; rw [HEQ.out.1] at this; exact (srtd_app.1 this).2.1) (by have := HSB.out; rw [HEQ.out.2.1] at this; exact (srtd_app.1 this).2.1) (by have := HEQ.out; omega)).mono ?_
              rintro e w6 ⟨rfl, hR, hb6⟩
              obtain ⟨R, hr6, hsR, haR⟩ := hR
              have HR6 : Hid (RowD base g cap n w6 (P ++ (L ++ (R ++ Q))) ∧ Srtd R ∧ Alike (X ++ B2) R) := ⟨by simpa using hr6, hsR, haR⟩
              have HB6 := hide (HB5.out.trans hb6)
              clear hr6 hsR haR hb6
              go_wp2
              go_end0
              obtain ⟨z1, z2⟩ := sym_join (by have := HSA.out; rw [HEQ.out.1] at this; exact this) (by have := HSB.out; rw [HEQ.out.2.1] at this; exact this) HXY.out HAB.out HL5.out.2.1 HR6.out.2.1 HL5.out.2.2.1 HR6.out.2.2
              exact ⟨rfl, ⟨L ++ R, by have := HR6.out.1; simpa using this, z1, by rw [HEQ.out.1, HEQ.out.2.1]; exact z2⟩, HB6.out⟩
            · have e6 : (b : Int) ≤ (en : Int) := by omega
              go_wp2
              all_goals (exfalso; have := HEQ.out; have := HBL.out; have := HAL.out; omega)
        · have e1 : (m : Int) ≤ (j : Int) := by omega
          by_cases cY : j < mid
          · have e3 : (j : Int) < (mid : Int) := by omega
            have e4 : (en : Int) ≤ (mid : Int) := by have := HEN2.out; omega
            have HD3 : Hid (RowD base g cap n wr (P ++ (A1 ++ (Y ++ (X ++ (B2 ++ Q)))))) := by
              have eX : X = [] := List.eq_nil_of_length_eq_zero (by have := HEQ.out; omega)
              have := HD2.out
              rw [eX] at this ⊢
              show RowD _ _ _ _ _ _
              simpa using this
            have HB3 := HB
            clear HD2 HB
            by_cases cA : a < j
            · have e5 : (a : Int) < (j : Int) := by omega
              go_wp2_with fail
              refine (HIH.out P A1 Y (X ++ (B2 ++ Q)) wr a j mid HD3.out HA.out (by have := HEQ.out; omega) (by have := HEQ.out; omega) (by intro e; have := HEQ.out.2.2.1; rw [e] at this; simp at this; omega) (by intro e; have := HEQ.out.2.2.2.1; rw [e] at this; simp at this; omega) (by have := HSA.out; rw [HEQ.out.1] at this; exact (srtd_app.1 this).1) (by have := HSB.out; rw [HEQ.out.2.1] at this; exact (srtd_app.1 this).1) (by have := HEQ.out; omega)).mono ?_
              rintro e w5 ⟨rfl, hL, hb5⟩
              obtain ⟨L, hr5, hsL, haL⟩ := hL
              have HL5 : Hid (RowD base g cap n w5 (P ++ (L ++ (X ++ (B2 ++ Q)))) ∧ Srtd L ∧ Alike (A1 ++ Y) L ∧ L.length = mid - a) := ⟨hr5, hsL, haL, by
                have l1 := hr5.len
                have l2 := HD3.out.len
                have := HEQ.out
                simp only [List.length_append] at l1 l2
                omega⟩
              have HB5 := hide (HB3.out.trans hb5)
              clear hr5 hsL haL hb5 HD3 HB3
              go_wp2
              all_goals (exfalso; have := HEQ.out; have := HBL.out; have := HAL.out; omega)
            · have e5 : (j : Int) ≤ (a : Int) := by omega
              have HL5 : Hid (∃ L, RowD base g cap n wr (P ++ (L ++ (X ++ (B2 ++ Q)))) ∧ Srtd L ∧ Alike (A1 ++ Y) L ∧ L.length = mid - a) := by
                have eA : A1 = [] := List.eq_nil_of_length_eq_zero (by have := HEQ.out; omega)
                refine ⟨Y, by have := HD3.out; rw [eA] at this; simpa using this, by have := HSB.out; rw [HEQ.out.2.1] at this; exact (srtd_app.1 this).1, by rw [eA]; exact Alike.refl _, by have := HEQ.out; omega⟩
              obtain ⟨L, HL5⟩ := HL5.out
              have HL5 := hide HL5
              have HB5 := HB3
              clear HD3 HB3
              go_wp2
              all_goals (exfalso; have := HEQ.out; have := HBL.out; have := HAL.out; omega)
          · have e3 : (mid : Int) ≤ (j : Int) := by omega
            have e4 : (en : Int) ≤ (mid : Int) := by have := HEN2.out; omega
            have HD3 : Hid (RowD base g cap n wr (P ++ (A1 ++ (Y ++ (X ++ (B2 ++ Q)))))) := by
              have eX : X = [] := List.eq_nil_of_length_eq_zero (by have := HEQ.out; omega)
              have := HD2.out
              rw [eX] at this ⊢
              show RowD _ _ _ _ _ _
              simpa using this
            have HB3 := HB
            clear HD2 HB
            have HL5 : Hid (∃ L, RowD base g cap n wr (P ++ (L ++ (X ++ (B2 ++ Q)))) ∧ Srtd L ∧ Alike (A1 ++ Y) L ∧ L.length = mid - a) := by
              have eY : Y = [] := List.eq_nil_of_length_eq_zero (by have := HEQ.out; omega)
              refine ⟨A1, by have := HD3.out; rw [eY] at this; simpa using this, by have := HSA.out; rw [HEQ.out.1] at this; exact (srtd_app.1 this).1, by rw [eY]; simp [Alike.refl], by have := HEQ.out; omega⟩
            obtain ⟨L, HL5⟩ := HL5.out
            have HL5 := hide HL5
            have HB5 := HB3
            clear HD3 HB3
            have e5 : decide ((a : Int) < (j : Int)) = true := by simp; omega
            go_wp2
            all_goals (exfalso; have := HEQ.out; have := HBL.out; have := HAL.out; omega)
  · have hmm' : (m : Int) ≤ (mid : Int) := by omega
    have hst1 : a ≤ a := Nat.le_refl _
    have HT : Hid (∃ t0 t1, a = a + t0 ∧ m = a + t1 ∧ (t1 = A.length ∨ t1 = mid - a) ∧ (t0 = 0 ∨ mid - a - t0 = B.length) ∧ t1 ≤ A.length ∧ t1 ≤ mid - a ∧ mid - a - t0 ≤ B.length) := ⟨0, m - a, by omega, by omega, .inl (by have := HAL.out; omega), .inl rfl, by have := HAL.out; omega, by omega, by have := HBL.out; omega⟩
    go_enter Tryd.func48, Tryd.ntmps48
    go_wp2
    have HMID := hide hmid
    have HN0 := hide hN0
    have HPP := hide hpp
    clear hmid hN0 hpp
    go_loopw [20, 21, 23] (fun s t _ wr => ∃ i j : Nat, a ≤ i ∧ i ≤ j ∧ j ≤ m ∧ s = .int .i64 i ∧ t = .int .i64 j ∧ Hid (SymLo A B (mid - a) (a - a) (i - a) ∧ SymHi A B (mid - a) (m - a) (j - a)) ∧ Hid (RowD base g cap n wr (P ++ (A ++ (B ++ Q)))) ∧ Hid (Below base w wr)) (fun s t _ _ => (intOf t).toNat - (intOf s).toNat)
    case atStart => exact ⟨a, m, Nat.le_refl _, by omega, Nat.le_refl _, rfl, rfl, ⟨fun t h1 h2 => by omega, fun t h1 h2 => by omega⟩, HR, Below.refl _ _⟩
    case round =>
      obtain ⟨i, j, hi, hij, hj, rfl, rfl, HL, HD, HB⟩ := hrel
      clear HR
      have hgw : g < wr.heap.size := HD.out.lt.2
      by_cases hlt : i < j
      · have hlt' : (i : Int) < (j : Int) := by omega
        obtain ⟨q, hq⟩ : ∃ q : Nat, ((i : Int) + (j : Int)) / 2 = (q : Int) := ⟨(i + j) / 2, by omega⟩
        have hq1 : i ≤ q := by omega
        have hq2 : q < j := by omega
        have hfact : q - a < A.length ∧ q - a < mid - a ∧ mid - a - 1 - (q - a) < B.length ∧ q ≤ pp ∧ pp - q = m + (mid - a - 1 - (q - a)) ∧ a ≤ q := by
          obtain ⟨t0, t1, e0, e1, _, _, k1, k2, k3⟩ := HT.out
          have := HN.out; have := HP.out; have := HAL.out; have := HBL.out
          omega
        obtain ⟨u1, u2, u3, u4, u5, u6⟩ := hfact
        obtain ⟨d, hd⟩ : ∃ d : Nat, (pp : Int) - (q : Int) = (d : Int) := ⟨pp - q, by omega⟩
        have hdn : d < n := by have := HBL.out; omega
        obtain ⟨x, hx⟩ : ∃ x, A[q - a]? = some x := ⟨A[q - a], List.getElem?_eq_some_iff.2 ⟨_, rfl⟩⟩
        obtain ⟨y, hy⟩ : ∃ y, B[mid - a - 1 - (q - a)]? = some y := ⟨B[mid - a - 1 - (q - a)], List.getElem?_eq_some_iff.2 ⟨_, rfl⟩⟩
        have hxd : (P ++ (A ++ (B ++ Q)))[q]? = some x := by
          have := HGA.out (q - a) u1
          rw [show a + (q - a) = q by omega] at this
          rw [this, hx]
        have hyd : (P ++ (A ++ (B ++ Q)))[d]? = some y := by
          have := HGB.out (mid - a - 1 - (q - a)) u3
          rw [← u5, show pp - q = d by omega] at this
          rw [this, hy]
        have ax := HD.out.at hxd
        have ay := HD.out.at hyd
        have hne := later_one wr
        have f1 : ∀ p : Later wr, p.w1.cell? ⟨g, d * 3, none⟩ = some (.string y.1) := fun p => p.cell hgw ay.path
        have f2 : ∀ p : Later wr, p.w1.cell? ⟨g, d * 3 + 1, none⟩ = some (.int .i64 y.2.1) := fun p => p.cell hgw ay.kind
        have f3 : ∀ p : Later wr, p.w1.cell? ⟨g, d * 3 + 2, none⟩ = some (.string y.2.2) := fun p => p.cell hgw ay.data
        have g1 : ∀ p : Later wr, p.w1.cell? ⟨g, q * 3, none⟩ = some (.string x.1) := fun p => p.cell hgw ax.path
        have g2 : ∀ p : Later wr, p.w1.cell? ⟨g, q * 3 + 1, none⟩ = some (.int .i64 x.2.1) := fun p => p.cell hgw ax.kind
        have g3 : ∀ p : Later wr, p.w1.cell? ⟨g, q * 3 + 2, none⟩ = some (.string x.2.2) := fun p => p.cell hgw ax.data
        have hqn : (q : Int) < (n : Int) := by have := HAL.out; omega
        have hdn' : (d : Int) < (n : Int) := by omega
        have hqpp : (q : Int) ≤ (pp : Int) := by omega
        have HQ := hide hq
        have HX := hide hx
        have HY := hide hy
        have hd' := hd
        clear hq hx hy hxd hyd ax ay u5 hd
        by_cases hc : cmpN y x < 0
        · have HC := hide ((cmpN_neg y x).1 hc)
          go_wp2
          rw [HQ.out]
          refine wp_region_later (by kernel_rfl) (by kernel_rfl) ?_
          repeat (first | go_big_quiet_step ((go_at_call 33; exact Calls.later_of (bypath_any y x _))) | quiet_step ((go_at_call 33; exact Calls.later_of (bypath_any y x _))))
          refine wpQuiet_nil ?_
          intro W4 hw'
          have hbq := later_below hw'
          clear hw'
          have HD4 := hide (HD.out.below hbq)
          have HB4 := hide (HB.out.trans (hbq.mono (Nat.le_trans hg (Nat.le_of_lt hgw))))
          clear f1 f2 f3 g1 g2 g3 hbq hne
          go_wp2
          go_roundw
          case rel => exact ⟨i, q, hi, by omega, by omega, rfl, rfl, ⟨HL.out.1, fun t ht1 ht2 => not_step HSA.out HSB.out HX.out HY.out HC.out t ht1 (by obtain ⟨t0, t1, e0, e1, _, _, k1, k2, k3⟩ := HT.out; omega)⟩, HD4, HB4⟩
          case measure => simp [intOf]; omega
        · have HC : Hid (ltN y x = false) := by
            show ltN y x = false
            cases k : ltN y x with
            | false => rfl
            | true => exact absurd ((cmpN_neg y x).2 k) hc
          have hc' : decide (cmpN y x < 0) = false := by simpa using hc
          clear hc
          go_wp2
          rw [HQ.out]
          refine wp_region_later (by kernel_rfl) (by kernel_rfl) ?_
          repeat (first | go_big_quiet_step ((go_at_call 33; exact Calls.later_of (bypath_any y x _))) | quiet_step ((go_at_call 33; exact Calls.later_of (bypath_any y x _))))
          refine wpQuiet_nil ?_
          intro W4 hw'
          have hbq := later_below hw'
          clear hw'
          have HD4 := hide (HD.out.below hbq)
          have HB4 := hide (HB.out.trans (hbq.mono (Nat.le_trans hg (Nat.le_of_lt hgw))))
          clear f1 f2 f3 g1 g2 g3 hbq hne
          go_wp2
          go_roundw
          case rel => exact ⟨q + 1, j, by omega, by omega, hj, by go_num, rfl, ⟨fun t ht1 ht2 => cond_step HSA.out HSB.out u2 HX.out HY.out HC.out t (by omega), HL.out.2⟩, HD4, HB4⟩
          case measure => simp [intOf]; omega
      · have e : j = i := by omega
        subst e
        have hfnd : ∃ A1 X Y B2, A = A1 ++ X ∧ B = Y ++ B2 ∧ A1.length = j - a ∧ Y.length = mid - a - (j - a) ∧ (∀ x ∈ X, ∀ y ∈ Y, ltN y x = true) ∧ ∀ x ∈ A1, ∀ z ∈ B2, ltN z x = false := by
          obtain ⟨t0, t1, e0, e1, k4, k5, k1, k2, k3⟩ := HT.out
          exact sym_found (t0 := a - a) (t1 := m - a) (s := j - a) HSA.out HSB.out (by omega) (by omega) (by omega) (by omega) (by omega) HL.out.1 HL.out.2 (k4.elim (fun k => .inl (by omega)) (fun k => .inr (by omega))) (k5.elim (fun k => .inl (by omega)) (fun k => .inr (by omega)))
        obtain ⟨A1, X, Y, B2, eA, eB, la, ly, hxy, hab⟩ := hfnd
        have hja : a ≤ j := by omega
        have hjm : j ≤ mid ∧ j ≤ m := by obtain ⟨t0, t1, e0, e1, k4, k5, k1, k2, k3⟩ := HT.out; have := HAL.out; omega
        obtain ⟨en, hen⟩ : ∃ en : Nat, (N0 : Int) - (j : Int) = (en : Int) := ⟨N0 - j, by have := HN.out; omega⟩
        have HEQ : Hid (A = A1 ++ X ∧ B = Y ++ B2 ∧ A1.length = j - a ∧ Y.length = mid - j ∧ X.length = m - j ∧ B2.length = b - en ∧ en = m + (mid - j)) := by
          have q1 := HAL.out; have q2 := HBL.out; have q3 := HN.out
          rw [eA] at q1
          rw [eB] at q2
          simp only [List.length_append] at q1 q2
          exact ⟨eA, eB, la, by omega, by omega, by omega, by omega⟩
        have HXY := hide hxy
        have HAB := hide hab
        have HD2 : Hid (RowD base g cap n wr (P ++ (A1 ++ (X ++ (Y ++ (B2 ++ Q)))))) := by
          have := HD.out
          rw [eA, eB] at this
          show RowD _ _ _ _ _ _
          simpa using this
        have hen2 : en = m + (mid - j) := HEQ.out.2.2.2.2.2.2
        have hene : m ≤ en ∧ mid ≤ en ∧ en ≤ b ∧ en - mid = m - j := by
          have q2 := HBL.out
          have := HEQ.out
          have l3 : Y.length + B2.length = B.length := by rw [this.2.1]; simp
          omega
        have HEN2 := hide hen2
        clear eA eB la ly hxy hab HL HT HD HGA HGB hen2
        by_cases cX : j < m
        · by_cases cY : j < mid
          · have e1 : (j : Int) < (m : Int) := by omega
            have e2 : (m : Int) < (en : Int) := by have := HEN2.out; omega
            have e3 : (j : Int) < (mid : Int) := by omega
            have e4 : (mid : Int) < (en : Int) := by omega
            go_wp2_with fail
            refine (rotate_any base g cap n j m en wr (P ++ A1) X Y (B2 ++ Q) (by have := HD2.out; simpa using this) hn (by have := HEQ.out; have := HA.out; simp; omega) (by have := HEQ.out; omega) (by have := HEQ.out; omega) (by have := HEQ.out; omega) (by have := HEQ.out; omega) _).mono ?_
            rintro e w2 ⟨rfl, hr2, hb2⟩
            have HD3 : Hid (RowD base g cap n w2 (P ++ (A1 ++ (Y ++ (X ++ (B2 ++ Q)))))) := by
              show RowD _ _ _ _ _ _
              simpa using hr2
            have HB3 := hide (HB.out.trans hb2)
            clear hr2 hb2 HD2 HB
            by_cases cA : a < j
            · have e5 : (a : Int) < (j : Int) := by omega
              go_wp2_with fail
              refine (HIH.out P A1 Y (X ++ (B2 ++ Q)) w2 a j mid HD3.out HA.out (by have := HEQ.out; omega) (by have := HEQ.out; omega) (by intro e; have := HEQ.out.2.2.1; rw [e] at this; simp at this; omega) (by intro e; have := HEQ.out.2.2.2.1; rw [e] at this; simp at this; omega) (by have := HSA.out; rw [HEQ.out.1] at this; exact (srtd_app.1 this).1) (by have := HSB.out; rw [HEQ.out.2.1] at this; exact (srtd_app.1 this).1) (by have := HEQ.out; omega)).mono ?_
              rintro e w5 ⟨rfl, hL, hb5⟩
              obtain ⟨L, hr5, hsL, haL⟩ := hL
              have HL5 : Hid (RowD base g cap n w5 (P ++ (L ++ (X ++ (B2 ++ Q)))) ∧ Srtd L ∧ Alike (A1 ++ Y) L ∧ L.length = mid - a) := ⟨hr5, hsL, haL, by
                have l1 := hr5.len
                have l2 := HD3.out.len
                have := HEQ.out
                simp only [List.length_append] at l1 l2
                omega⟩
              have HB5 := hide (HB3.out.trans hb5)
              clear hr5 hsL haL hb5 HD3 HB3
              by_cases cB : en < b
              · have e6 : (en : Int) < (b : Int) := by omega
                go_wp2_with fail
                refine (HIH.out (P ++ L) X B2 Q w5 mid en b (by have := HL5.out.1; simpa using this) (by have := HL5.out.2.2.2; have := HA.out; simp; omega) (by have := HEQ.out; omega) (by have := HEQ.out; omega) (by intro e; have := HEQ.out.2.2.2.2.1; rw [e] at this; simp at this; omega) (by intro e; have := HEQ.out.2.2.2.2.2.1; rw [e] at this; simp at this; omega) (by have := HSA.out; rw [HEQ.out.1] at this; exact (srtd_app.1 this).2.1) (by have := HSB.out; rw [HEQ.out.2.1] at this; exact (srtd_app.1 this).2.1) (by have := HEQ.out; omega)).mono ?_
                rintro e w6 ⟨rfl, hR, hb6⟩
                obtain ⟨R, hr6, hsR, haR⟩ := hR
                have HR6 : Hid (RowD base g cap n w6 (P ++ (L ++ (R ++ Q))) ∧ Srtd R ∧ Alike (X ++ B2) R) := ⟨by simpa using hr6, hsR, haR⟩
                have HB6 := hide (HB5.out.trans hb6)
                clear hr6 hsR haR hb6
                go_wp2
                go_end0
                obtain ⟨z1, z2⟩ := sym_join (by have := HSA.out; rw [HEQ.out.1] at this; exact this) (by have := HSB.out; rw [HEQ.out.2.1] at this; exact this) HXY.out HAB.out HL5.out.2.1 HR6.out.2.1 HL5.out.2.2.1 HR6.out.2.2
                exact ⟨rfl, ⟨L ++ R, by have := HR6.out.1; simpa using this, z1, by rw [HEQ.out.1, HEQ.out.2.1]; exact z2⟩, HB6.out⟩
              · have e6 : (b : Int) ≤ (en : Int) := by omega
                go_wp2
                go_end0
                have eB2 : B2 = [] := List.eq_nil_of_length_eq_zero (by have := HEQ.out; omega)
                obtain ⟨z1, z2⟩ := sym_join (R := X) (by have := HSA.out; rw [HEQ.out.1] at this; exact this) (by have := HSB.out; rw [HEQ.out.2.1] at this; exact this) HXY.out HAB.out HL5.out.2.1 (by have := HSA.out; rw [HEQ.out.1] at this; exact (srtd_app.1 this).2.1) HL5.out.2.2.1 (by rw [eB2]; simp [Alike.refl])
                exact ⟨rfl, ⟨L ++ X, by have := HL5.out.1; rw [eB2] at this; simpa using this, z1, by rw [HEQ.out.1, HEQ.out.2.1]; exact z2⟩, HB5.out⟩
            · have e5 : (j : Int) ≤ (a : Int) := by omega
              have HL5 : Hid (∃ L, RowD base g cap n w2 (P ++ (L ++ (X ++ (B2 ++ Q)))) ∧ Srtd L ∧ Alike (A1 ++ Y) L ∧ L.length = mid - a) := by
                have eA : A1 = [] := List.eq_nil_of_length_eq_zero (by have := HEQ.out; omega)
                refine ⟨Y, by have := HD3.out; rw [eA] at this; simpa using this, by have := HSB.out; rw [HEQ.out.2.1] at this; exact (srtd_app.1 this).1, by rw [eA]; exact Alike.refl _, by have := HEQ.out; omega⟩
              obtain ⟨L, HL5⟩ := HL5.out
              have HL5 := hide HL5
              have HB5 := HB3
              clear HD3 HB3
              by_cases cB : en < b
              · have e6 : (en : Int) < (b : Int) := by omega
                go_wp2_with fail
                refine (HIH.out (P ++ L) X B2 Q w2 mid en b (by have := HL5.out.1; simpa using this) (by have := HL5.out.2.2.2; have := HA.out; simp; omega) (by have := HEQ.out; omega) (by have := HEQ.out; omega) (by intro e; have := HEQ.out.2.2.2.2.1; rw [e] at this; simp at this; omega) (by intro e; have := HEQ.out.2.2.2.2.2.1; rw [e] at this; simp at this; omega) (by have := HSA.out; rw [HEQ.out.1] at this; exact (srtd_app.1 this).2.1) (by have := HSB.out; rw [HEQ.out.2.1] at this; exact (srtd_app.1 this).2.1) (by have := HEQ.out; omega)).mono ?_
                rintro e w6 ⟨rfl, hR, hb6⟩
                obtain ⟨R, hr6, hsR, haR⟩ := hR
                have HR6 : Hid (RowD base g cap n w6 (P ++ (L ++ (R ++ Q))) ∧ Srtd R ∧ Alike (X ++ B2) R) := ⟨by simpa using hr6, hsR, haR⟩
                have HB6 := hide (HB5.out.trans hb6)
                clear hr6 hsR haR hb6
                go_wp2
                go_end0
                obtain ⟨z1, z2⟩ := sym_join (by have := HSA.out; rw [HEQ.out.1] at this; exact this) (by have := HSB.out; rw [HEQ.out.2.1] at this; exact this) HXY.out HAB.out HL5.out.2.1 HR6.out.2.1 HL5.out.2.2.1 HR6.out.2.2
                exact ⟨rfl, ⟨L ++ R, by have := HR6.out.1; simpa using this, z1, by rw [HEQ.out.1, HEQ.out.2.1]; exact z2⟩, HB6.out⟩
              · have e6 : (b : Int) ≤ (en : Int) := by omega
                go_wp2
                go_end0
                have eB2 : B2 = [] := List.eq_nil_of_length_eq_zero (by have := HEQ.out; omega)
                obtain ⟨z1, z2⟩ := sym_join (R := X) (by have := HSA.out; rw [HEQ.out.1] at this; exact this) (by have := HSB.out; rw [HEQ.out.2.1] at this; exact this) HXY.out HAB.out HL5.out.2.1 (by have := HSA.out; rw [HEQ.out.1] at this; exact (srtd_app.1 this).2.1) HL5.out.2.2.1 (by rw [eB2]; simp [Alike.refl])
                exact ⟨rfl, ⟨L ++ X, by have := HL5.out.1; rw [eB2] at this; simpa using this, z1, by rw [HEQ.out.1, HEQ.out.2.1]; exact z2⟩, HB5.out⟩
          · have e1 : (j : Int) < (m : Int) := by omega
            have e2 : (en : Int) ≤ (m : Int) := by have := HEN2.out; omega
            have e3 : (mid : Int) ≤ (j : Int) := by omega
            have e4 : (mid : Int) < (en : Int) := by omega
            have HD3 : Hid (RowD base g cap n wr (P ++ (A1 ++ (Y ++ (X ++ (B2 ++ Q)))))) := by
              have eY : Y = [] := List.eq_nil_of_length_eq_zero (by have := HEQ.out; omega)
              have := HD2.out
              rw [eY] at this ⊢
              show RowD _ _ _ _ _ _
              simpa using this
            have HB3 := HB
            clear HD2 HB
            have HL5 : Hid (∃ L, RowD base g cap n wr (P ++ (L ++ (X ++ (B2 ++ Q)))) ∧ Srtd L ∧ Alike (A1 ++ Y) L ∧ L.length = mid - a) := by
              have eY : Y = [] := List.eq_nil_of_length_eq_zero (by have := HEQ.out; omega)
              refine ⟨A1, by have := HD3.out; rw [eY] at this; simpa using this, by have := HSA.out; rw [HEQ.out.1] at this; exact (srtd_app.1 this).1, by rw [eY]; simp [Alike.refl], by have := HEQ.out; omega⟩
            obtain ⟨L, HL5⟩ := HL5.out
            have HL5 := hide HL5
            have HB5 := HB3
            clear HD3 HB3
            have e5 : decide ((a : Int) < (j : Int)) = true := by simp; omega
            by_cases cB : en < b
            · have e6 : (en : Int) < (b : Int) := by omega
              go_wp2_with fail
              all_goals (exfalso; have := HEQ.out; have := HBL.out; have := HAL.out; omega)
            · have e6 : (b : Int) ≤ (en : Int) := by omega
              go_wp2
              all_goals (exfalso; have := HEQ.out; have := HBL.out; have := HAL.out; omega)
        · have e1 : (m : Int) ≤ (j : Int) := by omega
          by_cases cY : j < mid
          · have e3 : (j : Int) < (mid : Int) := by omega
            have e4 : (en : Int) ≤ (mid : Int) := by have := HEN2.out; omega
            have HD3 : Hid (RowD base g cap n wr (P ++ (A1 ++ (Y ++ (X ++ (B2 ++ Q)))))) := by
              have eX : X = [] := List.eq_nil_of_length_eq_zero (by have := HEQ.out; omega)
              have := HD2.out
              rw [eX] at this ⊢
              show RowD _ _ _ _ _ _
              simpa using this
            have HB3 := HB
            clear HD2 HB
            by_cases cA : a < j
            · have e5 : (a : Int) < (j : Int) := by omega
              go_wp2_with fail
              refine (HIH.out P A1 Y (X ++ (B2 ++ Q)) wr a j mid HD3.out HA.out (by have := HEQ.out; omega) (by have := HEQ.out; omega) (by intro e; have := HEQ.out.2.2.1; rw [e] at this; simp at this; omega) (by intro e; have := HEQ.out.2.2.2.1; rw [e] at this; simp at this; omega) (by have := HSA.out; rw [HEQ.out.1] at this; exact (srtd_app.1 this).1) (by have := HSB.out; rw [HEQ.out.2.1] at this; exact (srtd_app.1 this).1) (by have := HEQ.out; omega)).mono ?_
              rintro e w5 ⟨rfl, hL, hb5⟩
              obtain ⟨L, hr5, hsL, haL⟩ := hL
              have HL5 : Hid (RowD base g cap n w5 (P ++ (L ++ (X ++ (B2 ++ Q)))) ∧ Srtd L ∧ Alike (A1 ++ Y) L ∧ L.length = mid - a) := ⟨hr5, hsL, haL, by
                have l1 := hr5.len
                have l2 := HD3.out.len
                have := HEQ.out
                simp only [List.length_append] at l1 l2
                omega⟩
              have HB5 := hide (HB3.out.trans hb5)
              clear hr5 hsL haL hb5 HD3 HB3
              go_wp2
              go_end0
              have eX : X = [] := List.eq_nil_of_length_eq_zero (by have := HEQ.out; omega)
              obtain ⟨z1, z2⟩ := sym_join (R := B2) (by have := HSA.out; rw [HEQ.out.1] at this; exact this) (by have := HSB.out; rw [HEQ.out.2.1] at this; exact this) HXY.out HAB.out HL5.out.2.1 (by have := HSB.out; rw [HEQ.out.2.1] at this; exact (srtd_app.1 this).2.1) HL5.out.2.2.1 (by rw [eX]; simp [Alike.refl])
              exact ⟨rfl, ⟨L ++ B2, by have := HL5.out.1; rw [eX] at this; simpa using this, z1, by rw [HEQ.out.1, HEQ.out.2.1]; exact z2⟩, HB5.out⟩
            · have e5 : (j : Int) ≤ (a : Int) := by omega
              have HL5 : Hid (∃ L, RowD base g cap n wr (P ++ (L ++ (X ++ (B2 ++ Q)))) ∧ Srtd L ∧ Alike (A1 ++ Y) L ∧ L.length = mid - a) := by
                have eA : A1 = [] := List.eq_nil_of_length_eq_zero (by have := HEQ.out; omega)
                refine ⟨Y, by have := HD3.out; rw [eA] at this; simpa using this, by have := HSB.out; rw [HEQ.out.2.1] at this; exact (srtd_app.1 this).1, by rw [eA]; exact Alike.refl _, by have := HEQ.out; omega⟩
              obtain ⟨L, HL5⟩ := HL5.out
              have HL5 := hide HL5
              have HB5 := HB3
              clear HD3 HB3
              go_wp2
              all_goals (exfalso; have := HEQ.out; have := HBL.out; have := HAL.out; omega)
          · have e3 : (mid : Int) ≤ (j : Int) := by omega
            have e4 : (en : Int) ≤ (mid : Int) := by have := HEN2.out; omega
            have HD3 : Hid (RowD base g cap n wr (P ++ (A1 ++ (Y ++ (X ++ (B2 ++ Q)))))) := by
              have eX : X = [] := List.eq_nil_of_length_eq_zero (by have := HEQ.out; omega)
              have := HD2.out
              rw [eX] at this ⊢
              show RowD _ _ _ _ _ _
              simpa using this
            have HB3 := HB
            clear HD2 HB
            have HL5 : Hid (∃ L, RowD base g cap n wr (P ++ (L ++ (X ++ (B2 ++ Q)))) ∧ Srtd L ∧ Alike (A1 ++ Y) L ∧ L.length = mid - a) := by
              have eY : Y = [] := List.eq_nil_of_length_eq_zero (by have := HEQ.out; omega)
              refine ⟨A1, by have := HD3.out; rw [eY] at this; simpa using this, by have := HSA.out; rw [HEQ.out.1] at this; exact (srtd_app.1 this).1, by rw [eY]; simp [Alike.refl], by have := HEQ.out; omega⟩
            obtain ⟨L, HL5⟩ := HL5.out
            have HL5 := hide HL5
            have HB5 := HB3
            clear HD3 HB3
            have e5 : decide ((a : Int) < (j : Int)) = true := by simp; omega
            go_wp2
            go_end0
            have eX : X = [] := List.eq_nil_of_length_eq_zero (by have := HEQ.out; omega)
            obtain ⟨z1, z2⟩ := sym_join (R := B2) (by have := HSA.out; rw [HEQ.out.1] at this; exact this) (by have := HSB.out; rw [HEQ.out.2.1] at this; exact this) HXY.out HAB.out HL5.out.2.1 (by have := HSB.out; rw [HEQ.out.2.1] at this; exact (srtd_app.1 this).2.1) HL5.out.2.2.1 (by rw [eX]; simp [Alike.refl])
            exact ⟨rfl, ⟨L ++ B2, by have := HL5.out.1; rw [eX] at this; simpa using this, z1, by rw [HEQ.out.1, HEQ.out.2.1]; exact z2⟩, HB5.out⟩
end Go.Proofs.YteablfekfijnhaaDoor
