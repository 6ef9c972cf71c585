/- The walk of TarLays. -/
import Derived.Test.YtpdbpeooebbpnaaGreatDoorUC
import Derived.Test.YtpdbpeooebbpnaaGreatDoorT4
import Derived.Test.YtpdbpeooebbpnaaGreatDoorJ3
namespace Go.Proofs.YtpdbpeooebbpnaaGreatDoor
open Go.RowKit

theorem short_of {t : List Nd} {m : Int} (hm : m ≤ 1000) (h : greatN m t = false) : ShortT t := by
  obtain ⟨h1, h2⟩ := greatN_not h
  exact ⟨by omega, fun n hn => by have := h2 n hn; omega⟩
set_option maxRecDepth 100000 in
set_option maxHeartbeats 8000000 in
theorem tlays_walk (ao : Option Addr) (n c : Nat) (t : List Nd) (k v : ByteArray) (w : World) (hsh : w.ShapedOpen Tryz.prog) (hp : Pow w) (ha : ArgN w ao n c t) (hn : n ≤ maxLen) (_ : k.size ≤ maxLen) (_ : v.size ≤ maxLen) :
    Calls Tryz.prog 3 #[.slice ao n c, .string k, .string v] w fun e w' => e = .returned (.bool true) ∧ Below w.heap.size w w' := by
  have ok := Ok.start hsh
  have HP := hide hp
  have HA := hide ha
  have HND := hide ha.nods
  have hn' : t.length ≤ maxLen := by rw [ha.len]; exact hn
  have HLN := hide ha.len
  obtain ⟨y, hy⟩ : ∃ y, greatN 30 t = y := ⟨_, rfl⟩
  have HY := hide hy
  clear ha hy hsh hp
  go_enter Tryz.func3, Tryz.ntmps3
  by_cases c1 : k.size > 200
  · have d1 : (k.size : Int) > 200 := by omega
    go_wp2_with fail
    refine (greatN_ok _ 30 t y w HND.out hn' (by decide) (by decide) HY.out).mono ?_
    rintro e w00 ⟨rfl, e00⟩
    have e01 := e00.symm
    subst e01
    clear e00
    cases y with
    | true =>
      go_wp2_with fail
      refine (awake13_ok w w HP.out ok).mono ?_
      rintro e w2 ⟨rfl, ok2, hb2⟩
      go_wp2
      go_ret
      exact ⟨rfl, hb2⟩
    | false =>
      go_wp2_with fail
      refine (awake13_ok w w HP.out ok).mono ?_
      rintro e w2 ⟨rfl, ok2, hb2⟩
      go_wp2
      go_ret
      exact ⟨rfl, hb2⟩
  have d1 : ¬ ((k.size : Int) > 200) := by omega
  by_cases c2 : v.size > 200
  · have d2 : (v.size : Int) > 200 := by omega
    go_wp2_with fail
    refine (greatN_ok _ 30 t y w HND.out hn' (by decide) (by decide) HY.out).mono ?_
    rintro e w00 ⟨rfl, e00⟩
    have e01 := e00.symm
    subst e01
    clear e00
    cases y with
    | true =>
      go_wp2_with fail
      refine (awake13_ok w w HP.out ok).mono ?_
      rintro e w2 ⟨rfl, ok2, hb2⟩
      go_wp2
      go_ret
      exact ⟨rfl, hb2⟩
    | false =>
      go_wp2_with fail
      refine (awake13_ok w w HP.out ok).mono ?_
      rintro e w2 ⟨rfl, ok2, hb2⟩
      go_wp2
      go_ret
      exact ⟨rfl, hb2⟩
  have d2 : ¬ ((v.size : Int) > 200) := by omega
  go_wp2_with fail
  refine (greatN_ok _ 30 t y w HND.out hn' (by decide) (by decide) HY.out).mono ?_
  rintro e w00 ⟨rfl, e00⟩
  have e01 := e00.symm
  subst e01
  clear e00
  cases y with
  | true =>
    go_wp2_with fail
    refine (awake13_ok w w HP.out ok).mono ?_
    rintro e w2 ⟨rfl, ok2, hb2⟩
    go_wp2
    go_ret
    exact ⟨rfl, hb2⟩
  | false =>
    have HS := hide (short_of (by decide) HY.out)
    have hl30 : t.length ≤ 30 := by have := (greatN_not HY.out).1; omega
    have hn30 : n ≤ 30 := by rw [← HLN.out]; exact hl30
    obtain ⟨zr, hzr⟩ : ∃ z, Hog.recL k.data.toList v.data.toList = z := ⟨_, rfl⟩
    have HZR := hide hzr
    obtain ⟨x, hx⟩ : ∃ x, mayN t = x := ⟨_, rfl⟩
    have HX := hide hx
    clear hx hzr
    go_wp2_with fail
    refine (lendN_any ao n c t w HA.out (by omega)).mono ?_
    rintro e w1 ⟨rfl, hl1, hb1⟩
    have HL1 := hide hl1
    have HN1 : Hid (Nods w1 (.slice (some ⟨w.heap.size, 0, none⟩) n (n + 3)) t) := hide (hl1.arg HLN.out.symm).nods
    have hg1 : w.heap.size < w1.heap.size := hl1.lt
    have HB1 := hide hb1
    have ok1 := ok.next hb1
    clear hl1 hb1
    cases x with
    | false =>
      go_wp2_with fail
      refine (tlay_bad _ t w w1 ok1 HN1.out HS.out HX.out).mono ?_
      rintro e w2 ⟨rfl, ok2, hb2⟩
      have HO2 := hide (OwnB.nil w1.heap.size w2)
      have HB2 := hide hb2
      clear hb2
      go_wp2_with fail
      refine (rtlay_bad _ t w w2 ok2 (HND.out.below (below_two HB1.out HB2.out)) HS.out (by omega) HX.out).mono ?_
      rintro e w3 ⟨rfl, ok3, hb3⟩
      have ho3 := OwnB.nil w2.heap.size w3
      have HO3 := hide ho3
      have HA3 := hide (HO2.out.below hb3)
      have HC3 := hide (below_two HB2.out hb3)
      have TAB := hide (two_basesB HO2.out HO3.out (Nat.le_refl _))
      clear ho3 hb3 HO2 HB2
      go_wp2_with fail
      refine (sameB_ok _ _ 0 _ 0 _ [] [] true w w3 ok3 HA3.out.argAt.2 HO3.out.argAt.2 (by omega) (by simp)).mono ?_
      rintro e w4 ⟨rfl, ok4, hb4⟩
      have HC4 := hide (below_two HC3.out hb4)
      have HA4 := hide (HA3.out.below hb4)
      have HO4 := hide (HO3.out.below hb4)
      clear hb4 HA3 HO3 HC3
      go_wp2_with fail
      refine (numE_ok 7 w4).mono ?_
      rintro e w4' ⟨rfl, h4⟩
      have h5 := h4.symm
      subst h5
      clear h4
      go_wp2_with fail
      refine (recordR_ok k v _ _ zr w w4 HP.out ok4 rfl rfl (by omega) HZR.out).mono ?_
      rintro e w5 ⟨rfl, ok5, hb5⟩
      have HC5 := hide (below_two HC4.out hb5)
      have HA5 := hide (HA4.out.below hb5)
      have HO5 := hide (HO4.out.below hb5)
      clear hb5 HA4 HO4 HC4
      go_wp2_with fail
      refine (rrec_ok k v _ _ zr w5 rfl rfl (by omega) HZR.out).mono ?_
      rintro e w5' ⟨rfl, h4⟩
      have h5 := h4.symm
      subst h5
      clear h4
      have HL5 := hide (HL1.out.below HC5.out hg1)
      have HT5 := hide (HA.out.below (below_two HB1.out HC5.out))
      go_wp2_with fail
      refine (keptN_any ao w.heap.size n c t w5 HL5.out HT5.out (by omega)).mono ?_
      rintro e w6 ⟨rfl, hb6⟩
      have HC6 := hide (below_two HC5.out hb6)
      have HA6 := hide (HA5.out.below hb6)
      have HO6 := hide (HO5.out.below hb6)
      have hs6 : w1.heap.size ≤ w6.heap.size := HC6.out.size
      clear hb6 HA5 HO5 HC5 HL5 HT5
      go_wp2_with fail
      refine (overB_ok _ [] w1.heap.size w6 HA6.out hs6 (by simp)).mono ?_
      rintro e w7 ⟨rfl, hg7⟩
      have HO7 := hide (TAB.out.keptB hg7 HO6.out)
      have HC7 := hide (HC6.out.trans (HA6.out.grownBelow hg7 hs6))
      have ok7 : Ok w w7 := ok1.step (HC7.out.mono HB1.out.size)
      have HN7 := hide (HND.out.below (below_two HB1.out HC7.out))
      clear hg7 HA6 HO6 HC6
      go_wp2_with fail
      refine (tlay_bad _ t w w7 ok7 HN7.out HS.out HX.out).mono ?_
      rintro e w8 ⟨rfl, ok8, hb8⟩
      have HA8 := hide (OwnB.nil w7.heap.size w8)
      have HO8 := hide (HO7.out.below hb8)
      have HC8 := hide (below_two (below_two HB1.out HC7.out) hb8)
      clear hb8 HO7 HC7
      go_wp2_with fail
      refine (sameB_ok _ _ 0 _ 0 _ [] [] true w w8 ok8 HA8.out.argAt.2 HO8.out.argAt.2 (by omega) (by simp)).mono ?_
      rintro e w9 ⟨rfl, ok9, hb9⟩
      have HC9 := hide (below_two HC8.out hb9)
      clear hb9
      go_wp2_with fail
      refine (awake13_ok w w9 HP.out ok9).mono ?_
      rintro e w10 ⟨rfl, ok10, hb10⟩
      have HC10 := hide (below_two HC9.out hb10)
      clear hb10
      go_wp2
      go_ret
      exact ⟨rfl, HC10.out⟩
    | true =>
      obtain ⟨z, hz⟩ : ∃ z, Hog.tarL t = z := ⟨_, rfl⟩
      obtain ⟨m, hm⟩ : ∃ m, z.length = m := ⟨_, rfl⟩
      have hml : m ≤ 1300000 := by rw [← hm, ← hz]; exact tarL_le HX.out
      have HZ := hide hz
      have HM := hide hm
      clear hz hm
      go_wp2_with fail
      refine (tlay_good _ t z m w w1 HP.out ok1 HN1.out HS.out HX.out HZ.out HM.out).mono ?_
      rintro e w2 ⟨b2, c2, rfl, ho2, ok2, hb2⟩
      have HO2 := hide ho2
      have HB2 := hide hb2
      clear ho2 hb2
      go_wp2_with fail
      refine (rtlay_good _ t z m w w2 ok2 (HND.out.below (below_two HB1.out HB2.out)) HS.out HX.out HZ.out HM.out).mono ?_
      rintro e w3 ⟨b3, c3, rfl, ho3, ok3, hb3⟩
      have HO3 := hide ho3
      have HA3 := hide (HO2.out.below hb3)
      have HC3 := hide (below_two HB2.out hb3)
      have TAB := hide (two_basesB HO2.out HO3.out (Nat.le_refl _))
      clear ho3 hb3 HO2 HB2
      go_wp2_with fail
      refine (sameB_ok _ _ m _ m _ z z true w w3 ok3 HA3.out.argAt.2 HO3.out.argAt.2 (by omega) (by simp)).mono ?_
      rintro e w4 ⟨rfl, ok4, hb4⟩
      have HC4 := hide (below_two HC3.out hb4)
      have HA4 := hide (HA3.out.below hb4)
      have HO4 := hide (HO3.out.below hb4)
      clear hb4 HA3 HO3 HC3
      go_wp2_with fail
      refine (numE_ok 0 w4).mono ?_
      rintro e w4' ⟨rfl, h4⟩
      have h5 := h4.symm
      subst h5
      clear h4
      go_wp2_with fail
      refine (recordR_ok k v _ _ zr w w4 HP.out ok4 rfl rfl (by omega) HZR.out).mono ?_
      rintro e w5 ⟨rfl, ok5, hb5⟩
      have HC5 := hide (below_two HC4.out hb5)
      have HA5 := hide (HA4.out.below hb5)
      have HO5 := hide (HO4.out.below hb5)
      clear hb5 HA4 HO4 HC4
      go_wp2_with fail
      refine (rrec_ok k v _ _ zr w5 rfl rfl (by omega) HZR.out).mono ?_
      rintro e w5' ⟨rfl, h4⟩
      have h5 := h4.symm
      subst h5
      clear h4
      have HL5 := hide (HL1.out.below HC5.out hg1)
      have HT5 := hide (HA.out.below (below_two HB1.out HC5.out))
      go_wp2_with fail
      refine (keptN_any ao w.heap.size n c t w5 HL5.out HT5.out (by omega)).mono ?_
      rintro e w6 ⟨rfl, hb6⟩
      have HC6 := hide (below_two HC5.out hb6)
      have HA6 := hide (HA5.out.below hb6)
      have HO6 := hide (HO5.out.below hb6)
      have hs6 : w1.heap.size ≤ w6.heap.size := HC6.out.size
      clear hb6 HA5 HO5 HC5 HL5 HT5
      go_wp2_with fail
      refine (overB_ok _ z w1.heap.size w6 HA6.out hs6 (by rw [HM.out]; omega)).mono ?_
      rintro e w7 ⟨rfl, hg7⟩
      have HO7 := hide (TAB.out.keptB hg7 HO6.out)
      have HC7 := hide (HC6.out.trans (HA6.out.grownBelow hg7 hs6))
      have ok7 : Ok w w7 := ok1.step (HC7.out.mono HB1.out.size)
      have HN7 := hide (HND.out.below (below_two HB1.out HC7.out))
      clear hg7 HA6 HO6 HC6
      go_wp2_with fail
      refine (tlay_good _ t z m w w7 HP.out ok7 HN7.out HS.out HX.out HZ.out HM.out).mono ?_
      rintro e w8 ⟨b8, c8, rfl, ho8, ok8, hb8⟩
      have HA8 := hide ho8
      clear ho8
      have HO8 := hide (HO7.out.below hb8)
      have HC8 := hide (below_two (below_two HB1.out HC7.out) hb8)
      clear hb8 HO7 HC7
      go_wp2_with fail
      refine (sameB_ok _ _ m _ m _ z z true w w8 ok8 HA8.out.argAt.2 HO8.out.argAt.2 (by omega) (by simp)).mono ?_
      rintro e w9 ⟨rfl, ok9, hb9⟩
      have HC9 := hide (below_two HC8.out hb9)
      clear hb9
      go_wp2_with fail
      refine (awake13_ok w w9 HP.out ok9).mono ?_
      rintro e w10 ⟨rfl, ok10, hb10⟩
      have HC10 := hide (below_two HC9.out hb10)
      clear hb10
      go_wp2
      go_ret
      exact ⟨rfl, HC10.out⟩
end Go.Proofs.YtpdbpeooebbpnaaGreatDoor
