/- The walk of chapter 13's awake. -/
import Derived.Test.YtpdbpeooebbpnaaGreatDoorTH
namespace Go.Proofs.YtpdbpeooebbpnaaGreatDoor
open Go.RowKit

def aw13 : List Nd := [(⟨#[]⟩, 1, ⟨#[]⟩)]
theorem aw13_may : mayN aw13 = true := by decide +kernel
theorem aw13_short : ShortT aw13 := by
  refine ⟨by decide, fun n hn => ?_⟩
  simp [aw13] at hn
  subst hn
  decide
theorem aw13_node : Hog.NodeG ((⟨#[]⟩, 1, ⟨#[]⟩) : Nd) := Hog.tree_node aw13_may _ (by simp [aw13])
theorem aw13_recs : Hog.recsE (Hog.entE (⟨#[]⟩, 1, ⟨#[]⟩)) = [] := rfl
theorem aw13_tar : Hog.tarL aw13 = Hog.entL (Hog.entE (⟨#[]⟩, 1, ⟨#[]⟩)) ++ Hog.zeros 1024 := by
  unfold Hog.tarL Hog.treeT aw13
  rw [List.flatMap_cons, List.flatMap_nil, List.append_nil, Hog.nodeT_one aw13_recs]
theorem aw13_len : (Hog.tarL aw13).length = 1536 := by
  rw [aw13_tar, List.length_append, Hog.zeros_len, Hog.entL_len (Hog.entE_fits aw13_node)]
  rfl
theorem aw13_first : (Hog.tarL aw13)[0]? = some 46 := by
  have h := (Hog.entE_fits aw13_node).may
  rw [aw13_tar]
  unfold Hog.entL Hog.headE
  rw [Hog.head_raw h]
  unfold Hog.rawH
  rfl
theorem aw13_count : Hog.countT aw13 = 1 := by
  unfold Hog.countT aw13 Hog.entsN
  rw [List.map_cons, List.map_nil, if_pos aw13_recs]
  rfl
def rc13 : List UInt8 := [49, 49, 32, 112, 97, 116, 104, 61, 97, 98, 10]
theorem rc13_rec : Hog.recL [112, 97, 116, 104] [97, 98] = rc13 := by
  have h10 : Lib.nDigits 10 = 2 := Lib.nDigits_unique 1 10 (by decide) (by decide)
  have h11 : Lib.nDigits 11 = 2 := Lib.nDigits_unique 1 11 (by decide) (by decide)
  have hl : (Hog.restL [112, 97, 116, 104] [97, 98]).length = 9 := by rw [Hog.restL_len]; rfl
  have h2 : Hog.digR 9 = 2 := Hog.IsDig.one (Hog.digR_is (by omega)) ⟨by omega, by omega, h11, fun j h1 h2 => by
    obtain rfl : j = 1 := by omega
    rw [h10]; omega⟩
  unfold Hog.recL Hog.recN
  rw [hl, h2, show 9 + 2 = 11 by rfl, Hog.decL_more (by omega), Hog.decL_one (by omega)]
  rfl

set_option maxRecDepth 100000 in
set_option maxHeartbeats 1000000 in
theorem awake13_ok (w0 w : World) (hp : Pow w0) (h : Ok w0 w) :
    Calls Tryz.prog 5 #[] w fun e w' => e = .returned (.bool true) ∧ Ok w0 w' ∧ Below w.heap.size w w' := by
  obtain ⟨wa, hwa⟩ : ∃ wa, wa = w.alloc (.cells #[.string ⟨#[]⟩, .int .i64 1, .string ⟨#[]⟩] 39) := ⟨_, rfl⟩
  have hba : Below w.heap.size w wa := by rw [hwa]; exact below_alloc _ _
  have HRA : Hid (Nods wa (.slice (some ⟨w.heap.size, 0, none⟩) 1 1) aw13) := by rw [hwa]; exact hide ((Run.one w (⟨#[]⟩, 1, ⟨#[]⟩)).nods (c := 1) (by simp))
  have oka := h.next hba
  have HBA := hide hba
  have HWA := hide hwa
  obtain ⟨lz, hlz⟩ : ∃ lz, Hog.tarL aw13 = lz := ⟨_, rfl⟩
  have HZ := hide hlz
  have HZL : Hid (lz.length = 1536) := by rw [← hlz]; exact hide aw13_len
  have HZF : Hid (lz[0]? = some 46) := by rw [← hlz]; exact hide aw13_first
  have HP := hide hp
  have ht : ((Hog.mk rc13).toList == [49, 49, 32, 112, 97, 116, 104, 61, 97, 98, 10]) = true := by rw [Hog.mk_toList]; rfl
  clear hba hwa hlz h hp
  go_enter Tryz.func5, Tryz.ntmps5
  go_wp2_with fail
  rw [← HWA.out]
  refine (tlay_good _ aw13 lz 1536 w0 wa HP.out oka HRA.out aw13_short aw13_may HZ.out HZL.out).mono ?_
  rintro e w1 ⟨b1, c1, rfl, ho1, ok1, hb1⟩
  have HO1 := hide ho1
  have HB1 := hide (below_two HBA.out hb1)
  clear ho1 hb1
  go_wp2_with fail
  refine (recordR_ok ⟨#[112, 97, 116, 104]⟩ ⟨#[97, 98]⟩ [112, 97, 116, 104] [97, 98] rc13 w0 w1 HP.out ok1 rfl rfl (by decide) rc13_rec).mono ?_
  rintro e w2 ⟨rfl, ok2, hb2⟩
  have HB2 := hide (below_two HB1.out hb2)
  have HO2 := hide (HO1.out.below hb2)
  obtain ⟨bb, oo, rfl, hbb⟩ := HO2.out.argAt.2.plain (by omega)
  have g0 : w2.cell? ⟨bb, oo, none⟩ = some (.int .u8 46) := HO2.out.argAt.2.at HZF.out
  clear hb2
  obtain ⟨wb, hwb⟩ : ∃ wb, wb = w2.alloc (.cells #[.string ⟨#[]⟩, .int .i64 1, .string ⟨#[]⟩] 39) := ⟨_, rfl⟩
  have hbb2 : Below w2.heap.size w2 wb := by rw [hwb]; exact below_alloc _ _
  have HRB : Hid (Nods wb (.slice (some ⟨w2.heap.size, 0, none⟩) 1 1) aw13) := by rw [hwb]; exact hide ((Run.one w2 (⟨#[]⟩, 1, ⟨#[]⟩)).nods (c := 1) (by simp))
  have HOKB := hide (ok2.next hbb2)
  have HBB := hide (below_two HB2.out hbb2)
  have HWB := hide hwb
  clear hwb hbb2
  go_wp2_with fail
  rw [← HWB.out]
  refine (entries_good _ aw13 1 w0 wb HP.out HOKB.out HRB.out aw13_short aw13_may aw13_count).mono ?_
  rintro e w3 ⟨rfl, ok3, hb3⟩
  have HB3 := hide (below_two HBB.out hb3)
  clear hb3
  go_wp2
  go_ret
  exact ⟨rfl, ok3, HB3.out⟩
end Go.Proofs.YtpdbpeooebbpnaaGreatDoor
