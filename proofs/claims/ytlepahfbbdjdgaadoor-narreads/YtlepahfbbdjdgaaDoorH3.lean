/- The walk of NarBack. -/
import Derived.Test.YtlepahfbbdjdgaaDoorH2
namespace Go.Proofs.YtlepahfbbdjdgaaDoor
open Go.RowKit

theorem readP_cases (l : List UInt8) : ((readP l).2 = 0 ∧ mayN (readP l).1 = true ∧ ((readP l).1.length ≤ 400 ∧ ∀ n ∈ (readP l).1, n.1.size ≤ l.length ∧ n.2.2.size ≤ l.length) ∧ layL (readP l).1 = l) ∨ ((readP l).1 = [] ∧ (readP l).2 = 5) := by
  obtain ⟨T, hT⟩ : ∃ T, T = (readS l).2.1 := ⟨_, rfl⟩
  by_cases h : readB l = true
  · have e : readP l = (T, 0) := by unfold readP; rw [if_pos h, hT]
    obtain ⟨a, b, c, d⟩ := readB_sound h
    have k := readS_len l
    rw [← hT] at a d k
    rw [e]
    exact .inl ⟨rfl, a, k, d.symm⟩
  · have e : readP l = ([], 5) := by unfold readP; rw [if_neg h]
    rw [e]
    exact .inr ⟨rfl, rfl⟩
theorem short_read {l : List UInt8} {t : List Nd} (hl : l.length ≤ 6000) (h : t.length ≤ 400 ∧ ∀ n ∈ t, n.1.size ≤ l.length ∧ n.2.2.size ≤ l.length) : ShortN t :=
  ⟨by omega, fun n hn => by have := h.2 n hn; omega⟩
theorem readP_lay {t : List Nd} (hm : mayN t = true) (hs : ShortN t) : readP (layL t) = (t, 0) := by
  obtain ⟨a, b⟩ := may_fit hm hs
  obtain ⟨h1, h2⟩ := readB_lay hm a b
  unfold readP
  rw [if_pos h1, h2]
theorem readP_sound {l : List UInt8} (h : readB l = true) : ∃ T, (∀ n ∈ T, FitN n) ∧ T.length ≤ 400 ∧ l = layL T := by
  obtain ⟨_, b, c, d⟩ := readB_sound h
  exact ⟨_, b, c, d⟩
theorem readP_none {l : List UInt8} (h : ¬ readB l = true) : readP l = ([], 5) := by unfold readP; rw [if_neg h]
theorem readP_cut {t : List Nd} (hm : mayN t = true) (hs : ShortN t) {r : Nat} (hr : r < (layL t).length) : readP ((layL t).take r) = ([], 5) := by
  apply readP_none
  intro h
  obtain ⟨T, a, b, c⟩ := readP_sound h
  obtain ⟨a', b'⟩ := may_fit hm hs
  have e : layL t ++ [] = layL T ++ (layL t).drop r := by rw [← c, List.append_nil, List.take_append_drop]
  have h2 := (lay_free a' b' a b e).2
  have h3 := congrArg List.length h2
  rw [List.length_drop] at h3
  simp at h3
  omega
theorem readP_more {t : List Nd} (hm : mayN t = true) (hs : ShortN t) (y : UInt8) : readP (layL t ++ [y]) = ([], 5) := by
  apply readP_none
  intro h
  obtain ⟨T, a, b, c⟩ := readP_sound h
  obtain ⟨a', b'⟩ := may_fit hm hs
  have e : layL t ++ [y] = layL T ++ [] := by rw [c, List.append_nil]
  have h2 := (lay_free a' b' a b e).2
  cases h2

set_option maxRecDepth 100000 in
set_option maxHeartbeats 4000000 in
theorem back_walk (ao : Option Addr) (n c : Nat) (t : List Nd) (ab : Option Addr) (nb cb : Nat) (l : List UInt8) (cut : Int) (w : World) (hsh : w.ShapedOpen Tryd.prog) (ha : ArgN w ao n c t) (hn : n ≤ maxLen) (hb : ArgB w ab nb cb l) :
    Calls Tryd.prog 5 #[.slice ao n c, .slice ab nb cb, .int .i64 cut] w fun e w' => e = .returned (.bool true) ∧ Below w.heap.size w w' := by
  have ok := Ok.start hsh
  have HN := hide ha.nods
  have HLB := hide hb.len
  have HAB := hide hb
  have hl : t.length ≤ maxLen := by rw [ha.len]; exact hn
  obtain ⟨y, hy⟩ : ∃ y, greatN 60 t = y := ⟨_, rfl⟩
  have HY := hide hy
  clear ha hb hy hsh
  go_enter Tryd.func5, Tryd.ntmps5
  go_wp2_with fail
  refine (greatN_ok _ 60 t y w HN.out hl (by decide) (by decide) HY.out).mono ?_
  rintro e w1 ⟨rfl, rfl⟩
  cases y with
  | true =>
    go_wp2_with fail
    refine (awake5_ok w1 w1 ok).mono ?_
    rintro e w2 ⟨rfl, ok2, hb2⟩
    go_wp2
    go_ret
    exact ⟨rfl, hb2⟩
  | false =>
    by_cases h6 : 6000 < nb
    · have h6' : (6000 : Int) < (nb : Int) := by omega
      go_wp2_with fail
      refine (awake5_ok w1 w1 ok).mono ?_
      rintro e w2 ⟨rfl, ok2, hb2⟩
      go_wp2
      go_ret
      exact ⟨rfl, hb2⟩
    · have h6' : (nb : Int) ≤ 6000 := by omega
      have hnb6 : nb ≤ 6000 := by omega
      clear h6
      have HS := hide (small_short (by decide) HY.out)
      obtain ⟨x, hx⟩ : ∃ x, mayN t = x := ⟨_, rfl⟩
      have HX := hide hx
      clear hx
      cases x with
      | false =>
        go_wp2_with fail
        refine (lay_bad _ t w1 w1 ok HN.out HS.out HX.out).mono ?_
        rintro e W ⟨rfl, okW, hb2⟩
        have HBW := hide hb2
        have HAW := hide (HAB.out.below hb2)
        clear hb2
        obtain ⟨T, E, hP⟩ : ∃ T E, readP l = (T, E) := ⟨_, _, (Prod.eta _).symm⟩
        obtain ⟨kT, hkT⟩ : ∃ k, T.length = k := ⟨_, rfl⟩
        have HP := hide hP
        have HKT := hide hkT
        clear hP hkT
        go_wp2_with fail
        refine (read_ok _ nb _ l T E kT w1 W okW HAW.out (by omega) HP.out HKT.out).mono ?_
        rintro e wT ⟨bT, cT, rfl, hoT, okT, hbT⟩
        have HOT := hide hoT
        have HBT := hide (below_two HBW.out hbT)
        have HAT := hide (HAW.out.below hbT)
        clear hoT hbT
        rcases readP_cases l with ⟨he, hm, hs, hl⟩ | ⟨he, hE⟩
        · obtain rfl : E = 0 := by rw [HP.out] at he; exact he
          have hT : (readP l).1 = T := by rw [HP.out]
          rw [hT] at hm hs hl
          have HSH := hide (short_read (by have := HLB.out; omega) hs)
          have HMY := hide hm
          have HLL := hide hl
          clear he hm hs hl hT
          go_wp2_with fail
          refine (lay_good _ T l nb w1 wT okT HOT.out.nods HSH.out HMY.out HLL.out HLB.out).mono ?_
          rintro e wU ⟨bU, cU, rfl, hoU, okU, hbU⟩
          have HOU := hide hoU
          have HBU := hide (below_two HBT.out hbU)
          have HAU := hide (HAT.out.below hbU)
          clear hoU hbU
          go_wp2_with fail
          refine (sameB_ok _ _ nb _ nb _ l l true w1 wU okU HOU.out.argAt.2 HAU.out (by omega) (by simp)).mono ?_
          rintro e wV ⟨rfl, okV, hbV⟩
          have HBV := hide (below_two HBU.out hbV)
          clear hbV
          go_wp2_with fail
          refine (awake5_ok w1 wV okV).mono ?_
          rintro e wX ⟨rfl, okX, hbX⟩
          have HBX := hide (below_two HBV.out hbX)
          clear hbX
          go_wp2
          go_ret
          exact ⟨rfl, HBX.out⟩
        · obtain ⟨rfl, rfl⟩ : T = [] ∧ E = 5 := by rw [HP.out] at he hE; exact ⟨he, hE⟩
          obtain rfl : kT = 0 := HKT.out.symm
          clear he hE
          go_wp2_with fail
          refine (awake5_ok w1 wT okT).mono ?_
          rintro e wX ⟨rfl, okX, hbX⟩
          have HBX := hide (below_two HBT.out hbX)
          clear hbX
          go_wp2
          go_ret
          exact ⟨rfl, HBX.out⟩
      | true =>
        obtain ⟨z, hz⟩ : ∃ z, layL t = z := ⟨_, rfl⟩
        obtain ⟨m, hm⟩ : ∃ m, z.length = m := ⟨_, rfl⟩
        have hm0 : 0 < m := by rw [← hm, ← hz, layL_len]; omega
        have hmm : m ≤ 100000 := by rw [← hm, ← hz, layL_len]; have := small_len (k := t.length) HY.out; rw [List.take_length] at this; omega
        have hmz : ((m : Int) == 0) = false := by rw [beq_eq_false_iff_ne]; omega
        obtain ⟨kt, hkt⟩ : ∃ k, t.length = k := ⟨_, rfl⟩
        have HKT0 := hide hkt
        have HZ := hide hz
        have HM := hide hm
        have HR0 : Hid (readP z = (t, 0)) := by rw [← hz]; exact hide (readP_lay HX.out HS.out)
        clear hz hm hkt
        go_wp2_with fail
        refine (lay_good _ t z m w1 w1 ok HN.out HS.out HX.out HZ.out HM.out).mono ?_
        rintro e w2 ⟨bz, cz, rfl, ho2, ok2, hb2⟩
        obtain ⟨gz, oz, rfl, _⟩ := ho2.argAt.2.plain hm0
        have HZ2 := hide ho2.argAt.2
        have HB2 := hide hb2
        have HN2 := hide (HN.out.below hb2)
        have HA2 := hide (HAB.out.below hb2)
        clear ho2 hb2
        go_wp2_with fail
        refine (read_ok _ m _ z t 0 kt w1 w2 ok2 HZ2.out (by omega) HR0.out HKT0.out).mono ?_
        rintro e w3 ⟨b3, c3, rfl, ho3, ok3, hb3⟩
        have HT3 := hide ho3.nods
        have HB3 := hide (below_two HB2.out hb3)
        have HN3 := hide (HN2.out.below hb3)
        have HA3 := hide (HA2.out.below hb3)
        have HZ3 := hide (HZ2.out.below hb3)
        clear ho3 hb3
        go_wp2_with fail
        refine (lowB_ok cut m w3 hm0 (by omega)).mono ?_
        rintro e w4 ⟨r, hr, rfl, rfl⟩
        have HRC : Hid (readP (z.take r) = ([], 5)) := by rw [← HZ.out]; exact hide (readP_cut HX.out HS.out (by rw [HZ.out, HM.out]; exact hr))
        have hri : (r : Int) ≤ (m : Int) := by omega
        have hrc : (r : Int) ≤ (cz : Int) := by have := HZ3.out.cap; omega
        go_wp2_with fail
        refine (read_ok _ r _ (z.take r) [] 5 0 w1 w4 ok3 (HZ3.out.take (by omega)) (by omega) HRC.out rfl).mono ?_
        rintro e w5 ⟨b5, c5, rfl, _, ok5, hb5⟩
        have HT5 := hide (HT3.out.below hb5)
        have HB5 := hide (below_two HB3.out hb5)
        have HN5 := hide (HN3.out.below hb5)
        have HA5 := hide (HA3.out.below hb5)
        have HZ5 := hide (HZ3.out.below hb5)
        clear hb5
        obtain ⟨q, hq⟩ : ∃ q : UInt8, cut % 256 = (q.toNat : Int) := ⟨UInt8.ofNat (cut % 256).toNat, by rw [UInt8.toNat_ofNat']; omega⟩
        obtain ⟨zq, hzq⟩ : ∃ zq, z ++ [q] = zq := ⟨_, rfl⟩
        have HZQ := hide hzq
        have HQ := hide hq
        have HRQ : Hid (readP zq = ([], 5)) := by rw [← hzq, ← HZ.out]; exact hide (readP_more HX.out HS.out q)
        clear hzq hq
        go_wp2_with (at_builtin; refine wpList_append_bytes rfl _ _ rfl w5.heap.size _ [] rfl (OwnB.nil _ _) _ _ _ z rfl HZ5.out 0 rfl z rfl ?c1 (Nat.le_refl _) ?_)
        case c1 => omega
        intro b6 c6 w6 ho6 hl6
        have HO6 := hide ho6
        have HB6 := hide (hl6.below (OwnB.nil w5.heap.size w5) (Nat.le_refl _))
        have hs6 := hl6.size
        clear ho6 hl6
        go_wp2_with (at_builtin; refine wpList_append_b1 rfl _ _ rfl w5.heap.size _ z rfl HO6.out _ rfl q ?d1 m HM.out zq HZQ.out ?d2 hs6 ?_)
        case d1 => exact HQ.out
        case d2 => omega
        intro b7 c7 w7 ho7 hl7
        have HO7 := hide ho7
        have hb7 := HB6.out.trans (hl7.below HO6.out hs6)
        have HT7 := hide (HT5.out.below hb7)
        have HB7 := hide (below_two HB5.out hb7)
        have HN7 := hide (HN5.out.below hb7)
        have HA7 := hide (HA5.out.below hb7)
        have ok7 := ok5.next hb7
        clear ho7 hl7 hb7
        go_wp2_with fail
        refine (read_ok _ (m + 1) _ zq [] 5 0 w1 w7 ok7 HO7.out.argAt.2 (by omega) HRQ.out rfl).mono ?_
        rintro e w8 ⟨b8, c8, rfl, _, ok8, hb8⟩
        have HT8 := hide (HT7.out.below hb8)
        have HB8 := hide (below_two HB7.out hb8)
        have HN8 := hide (HN7.out.below hb8)
        have HA8 := hide (HA7.out.below hb8)
        clear hb8
        go_wp2_with fail
        refine (sameN_any _ _ t t w8 HT8.out HN8.out (by have := HS.out.1; omega)).mono ?_
        rintro e W ⟨rfl, hb9⟩
        rw [show decide (t = t) = true from by simp]
        have HBW := hide (below_two HB8.out hb9)
        have HAW := hide (HA8.out.below hb9)
        have okW := ok8.next hb9
        clear hb9
        obtain ⟨T, E, hP⟩ : ∃ T E, readP l = (T, E) := ⟨_, _, (Prod.eta _).symm⟩
        obtain ⟨kT, hkT⟩ : ∃ k, T.length = k := ⟨_, rfl⟩
        have HP := hide hP
        have HKT := hide hkT
        clear hP hkT
        go_wp2_with fail
        refine (read_ok _ nb _ l T E kT w1 W okW HAW.out (by omega) HP.out HKT.out).mono ?_
        rintro e wT ⟨bT, cT, rfl, hoT, okT, hbT⟩
        have HOT := hide hoT
        have HBT := hide (below_two HBW.out hbT)
        have HAT := hide (HAW.out.below hbT)
        clear hoT hbT
        rcases readP_cases l with ⟨he, hm, hs, hl⟩ | ⟨he, hE⟩
        · obtain rfl : E = 0 := by rw [HP.out] at he; exact he
          have hT : (readP l).1 = T := by rw [HP.out]
          rw [hT] at hm hs hl
          have HSH := hide (short_read (by have := HLB.out; omega) hs)
          have HMY := hide hm
          have HLL := hide hl
          clear he hm hs hl hT
          go_wp2_with fail
          refine (lay_good _ T l nb w1 wT okT HOT.out.nods HSH.out HMY.out HLL.out HLB.out).mono ?_
          rintro e wU ⟨bU, cU, rfl, hoU, okU, hbU⟩
          have HOU := hide hoU
          have HBU := hide (below_two HBT.out hbU)
          have HAU := hide (HAT.out.below hbU)
          clear hoU hbU
          go_wp2_with fail
          refine (sameB_ok _ _ nb _ nb _ l l true w1 wU okU HOU.out.argAt.2 HAU.out (by omega) (by simp)).mono ?_
          rintro e wV ⟨rfl, okV, hbV⟩
          have HBV := hide (below_two HBU.out hbV)
          clear hbV
          go_wp2_with fail
          refine (awake5_ok w1 wV okV).mono ?_
          rintro e wX ⟨rfl, okX, hbX⟩
          have HBX := hide (below_two HBV.out hbX)
          clear hbX
          go_wp2
          go_ret
          exact ⟨rfl, HBX.out⟩
        · obtain ⟨rfl, rfl⟩ : T = [] ∧ E = 5 := by rw [HP.out] at he hE; exact ⟨he, hE⟩
          obtain rfl : kT = 0 := HKT.out.symm
          clear he hE
          go_wp2_with fail
          refine (awake5_ok w1 wT okT).mono ?_
          rintro e wX ⟨rfl, okX, hbX⟩
          have HBX := hide (below_two HBT.out hbX)
          clear hbX
          go_wp2
          go_ret
          exact ⟨rfl, HBX.out⟩
end Go.Proofs.YtlepahfbbdjdgaaDoor
