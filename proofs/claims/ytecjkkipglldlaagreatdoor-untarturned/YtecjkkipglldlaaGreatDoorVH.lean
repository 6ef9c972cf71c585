/- The walk of UntarBack. -/
import Derived.Test.YtecjkkipglldlaaGreatDoorVG
namespace Go.Proofs.YtecjkkipglldlaaGreatDoor
open Go.RowKit

theorem short_of {t : List Nd} {m : Int} (hm : m ≤ 1000) (h : greatN m t = false) : ShortT t := by
  obtain ⟨h1, h2⟩ := greatN_not h
  exact ⟨by omega, fun n hn => by have := h2 n hn; omega⟩
theorem short_tree {t : List Nd} (h : mayN t = true) : ShortT t := by
  refine ⟨by have := Hog.tree_len h; omega, fun n hn => ?_⟩
  have hg := Hog.tree_node h n hn
  have h1 := hg.path
  have h2 := hg.data
  rw [← Hog.size_len] at h1 h2
  omega
theorem tarL_small {t : List Nd} (hv : mayN t = true) (hl : t.length ≤ 30) : (Hog.tarL t).length < 900000 := by
  have h := Hog.flat_le (B := 3072) Hog.nodeT t (fun n hn => Hog.nodeT_le (Hog.tree_node hv n hn))
  have h2 : t.length * 3072 ≤ 30 * 3072 := Nat.mul_le_mul_right _ hl
  unfold Hog.tarL Hog.treeT
  rw [List.length_append, Hog.zeros_len]
  omega

set_option maxRecDepth 100000 in
set_option maxHeartbeats 8000000 in
theorem back_walk (ao : Option Addr) (n c : Nat) (t : List Nd) (ab : Option Addr) (nb cb : Nat) (l : List UInt8) (w : World) (hsh : w.ShapedOpen Tryz.prog) (hp : Lib14 w) (ha : ArgN w ao n c t) (hn : n ≤ maxLen) (hb : ArgB w ab nb cb l) :
    Calls Tryz.prog 4 #[.slice ao n c, .slice ab nb cb] w fun e w' => e = .returned (.bool true) ∧ Below w.heap.size w w' := by
  have hok := Ok.start hsh
  have HOK := hide hok
  have HP := hide hp
  have HND := hide ha.nods
  have HL := hide ha.len
  have HAB := hide hb
  have hn' : t.length ≤ maxLen := by rw [ha.len]; exact hn
  obtain ⟨y, hy⟩ : ∃ y, greatN 30 t = y := ⟨_, rfl⟩
  have HY := hide hy
  clear ha hy hsh hp hb hok
  go_enter Tryz.func4, Tryz.ntmps4
  go_wp2_with fail
  refine (greatN_ok _ 30 t y w HND.out hn' (by decide) (by decide) HY.out).mono ?_
  rintro e w1 ⟨rfl, h1⟩
  have h2 := h1.symm
  subst h2
  clear h1
  have ok := HOK.out
  cases y with
  | true =>
    go_wp2_with fail
    refine (awake14_ok w w HP.out ok).mono ?_
    rintro e w2 ⟨rfl, ok2, hb2⟩
    go_wp2
    go_ret
    exact ⟨rfl, hb2⟩
  | false =>
    by_cases h4 : 40000 < nb
    · have h4' : (40000 : Int) < (nb : Int) := by omega
      go_wp2_with fail
      refine (awake14_ok w w HP.out ok).mono ?_
      rintro e w2 ⟨rfl, ok2, hb2⟩
      go_wp2
      go_ret
      exact ⟨rfl, hb2⟩
    have h4' : (nb : Int) ≤ 40000 := by omega
    have HS := hide (short_of (by decide) HY.out)
    obtain ⟨T, E, hT⟩ := tar_or l
    obtain ⟨q, hq⟩ : ∃ q, T.length = q := ⟨_, rfl⟩
    have HT := hide hT
    have HQ := hide hq
    clear hT hq
    obtain ⟨x, hx⟩ : ∃ x, mayN t = x := ⟨_, rfl⟩
    have HX := hide hx
    clear hx
    cases x with
    | false =>
      go_wp2_with fail
      refine (tlay_bad _ t w w ok HND.out HS.out HX.out).mono ?_
      rintro e w2 ⟨rfl, ok2, hb2⟩
      have HB2 := hide hb2
      clear hb2
      go_wp2_with fail
      refine (uread_ok ab nb cb l T E q w w2 HP.out (HOK.out.next HB2.out) (HAB.out.below HB2.out) (by omega) HT.out HQ.out).mono ?_
      rintro e wr ⟨br, cr, rfl, hor, okr, hbr⟩
      have HNR := hide hor
      have HBR := hide (below_two HB2.out hbr)
      have HOKR := hide okr
      clear hor hbr okr
      rcases id HT.out with ⟨rfl, hmay, htar⟩ | ⟨rfl, rfl, _⟩
      · have HM := hide hmay
        have HTL := hide htar
        have HST := hide (short_tree hmay)
        have hq4 : q ≤ 400 := by rw [← HQ.out]; exact Hog.tree_len hmay
        clear hmay htar
        go_wp2_with fail
        refine (tlay_good _ T l nb w wr HP.out.1 HOKR.out HNR.out.nods HST.out HM.out HTL.out HAB.out.len).mono ?_
        rintro e wy ⟨by', cy, rfl, hoy, oky, hby⟩
        have HOY := hide hoy
        have HNY := hide (HNR.out.below hby)
        have HBY := hide (below_two HBR.out hby)
        clear hoy hby HNR
        go_wp2_with fail
        refine (sameB_ok _ _ nb _ nb _ l l true w wy oky HOY.out.argAt.2 (HAB.out.below HBY.out) (by omega) (by simp)).mono ?_
        rintro e wx ⟨rfl, okx, hbx⟩
        have HNX := hide (HNY.out.below hbx)
        have HBX := hide (below_two HBY.out hbx)
        clear hbx HNY HOY
        go_wp2_with fail
        refine (mayT_ok _ T true w wx okx HST.out.path HNX.out.nods (by have := HST.out.1; omega) HM.out).mono ?_
        rintro e wv ⟨rfl, okv, hbv⟩
        have HBV := hide (below_two HBX.out hbv)
        clear hbv
        go_wp2_with fail
        refine (awake14_ok w wv HP.out okv).mono ?_
        rintro e wz ⟨rfl, okz, hbz⟩
        have HBZ := hide (below_two HBV.out hbz)
        clear hbz
        go_wp2
        go_ret
        exact ⟨rfl, HBZ.out⟩
      · obtain rfl : q = 0 := HQ.out.symm
        go_wp2_with fail
        refine (awake14_ok w wr HP.out HOKR.out).mono ?_
        rintro e wz ⟨rfl, okz, hbz⟩
        have HBZ := hide (below_two HBR.out hbz)
        clear hbz
        go_wp2
        go_ret
        exact ⟨rfl, HBZ.out⟩
    | true =>
      obtain ⟨z, hz⟩ : ∃ z, Hog.tarL t = z := ⟨_, rfl⟩
      obtain ⟨m, hm⟩ : ∃ m, z.length = m := ⟨_, rfl⟩
      have hml : m < 900000 := by rw [← hm, ← hz]; exact tarL_small HX.out (by have := (greatN_not HY.out).1; omega)
      have HZ := hide hz
      have HM := hide hm
      have HZT : Hid (Hog.TarIs z t 0) := hide (.inl ⟨rfl, HX.out, hz⟩)
      clear hz hm
      go_wp2_with fail
      refine (tlay_good _ t z m w w HP.out.1 ok HND.out HS.out HX.out HZ.out HM.out).mono ?_
      rintro e w2 ⟨b2, c2, rfl, ho2, ok2, hb2⟩
      have HO2 := hide ho2
      have HB2 := hide hb2
      clear ho2 hb2 HM
      go_wp2_with fail
      refine (uread_ok _ m _ z t 0 n w w2 HP.out ok2 HO2.out.argAt.2 (by omega) HZT.out HL.out).mono ?_
      rintro e w3 ⟨b3, c3, rfl, ho3, ok3, hb3⟩
      have HN3 := hide ho3
      have HB3 := hide (below_two HB2.out hb3)
      clear ho3 hb3 HO2
      go_wp2_with fail
      refine (sameN_any _ _ t t w3 HN3.out.nods (HND.out.below HB3.out) (by have := HS.out.1; omega)).mono ?_
      rintro e w4 ⟨rfl, hb4⟩
      rw [show decide (t = t) = true from by simp]
      have HB4 := hide (below_two HB3.out hb4)
      clear hb4
      go_wp2_with fail
      refine (uread_ok ab nb cb l T E q w w4 HP.out (HOK.out.next HB4.out) (HAB.out.below HB4.out) (by omega) HT.out HQ.out).mono ?_
      rintro e wr ⟨br, cr, rfl, hor, okr, hbr⟩
      have HNR := hide hor
      have HBR := hide (below_two HB4.out hbr)
      have HOKR := hide okr
      clear hor hbr okr
      rcases id HT.out with ⟨rfl, hmay, htar⟩ | ⟨rfl, rfl, _⟩
      · have HM := hide hmay
        have HTL := hide htar
        have HST := hide (short_tree hmay)
        have hq4 : q ≤ 400 := by rw [← HQ.out]; exact Hog.tree_len hmay
        clear hmay htar
        go_wp2_with fail
        refine (tlay_good _ T l nb w wr HP.out.1 HOKR.out HNR.out.nods HST.out HM.out HTL.out HAB.out.len).mono ?_
        rintro e wy ⟨by', cy, rfl, hoy, oky, hby⟩
        have HOY := hide hoy
        have HNY := hide (HNR.out.below hby)
        have HBY := hide (below_two HBR.out hby)
        clear hoy hby HNR
        go_wp2_with fail
        refine (sameB_ok _ _ nb _ nb _ l l true w wy oky HOY.out.argAt.2 (HAB.out.below HBY.out) (by omega) (by simp)).mono ?_
        rintro e wx ⟨rfl, okx, hbx⟩
        have HNX := hide (HNY.out.below hbx)
        have HBX := hide (below_two HBY.out hbx)
        clear hbx HNY HOY
        go_wp2_with fail
        refine (mayT_ok _ T true w wx okx HST.out.path HNX.out.nods (by have := HST.out.1; omega) HM.out).mono ?_
        rintro e wv ⟨rfl, okv, hbv⟩
        have HBV := hide (below_two HBX.out hbv)
        clear hbv
        go_wp2_with fail
        refine (awake14_ok w wv HP.out okv).mono ?_
        rintro e wz ⟨rfl, okz, hbz⟩
        have HBZ := hide (below_two HBV.out hbz)
        clear hbz
        go_wp2
        go_ret
        exact ⟨rfl, HBZ.out⟩
      · obtain rfl : q = 0 := HQ.out.symm
        go_wp2_with fail
        refine (awake14_ok w wr HP.out HOKR.out).mono ?_
        rintro e wz ⟨rfl, okz, hbz⟩
        have HBZ := hide (below_two HBR.out hbz)
        clear hbz
        go_wp2
        go_ret
        exact ⟨rfl, HBZ.out⟩
end Go.Proofs.YtecjkkipglldlaaGreatDoor
