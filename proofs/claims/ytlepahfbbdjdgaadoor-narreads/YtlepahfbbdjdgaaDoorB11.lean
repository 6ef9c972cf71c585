/- awake: layer 5. -/
import Derived.Test.YtlepahfbbdjdgaaDoorB8
import Derived.Test.YtlepahfbbdjdgaaDoorB10
namespace Go.Proofs.YtlepahfbbdjdgaaDoor
open Go.RowKit

def aw5 : List Nd := [(⟨#[]⟩, 1, ⟨#[]⟩)]
theorem aw5_may : mayN aw5 = true := by decide +kernel
theorem aw5_short : ShortN aw5 := by
  refine ⟨by decide, fun n hn => ?_⟩
  simp [aw5] at hn
  subst hn
  decide
theorem aw5_fit : ∀ n ∈ aw5, FitN n := by
  intro n hn
  simp [aw5] at hn
  subst hn
  unfold FitN I64
  decide
theorem aw5_len : (layL aw5).length = 48 := by decide +kernel
theorem aw5_read : readP (layL aw5) = (aw5, 0) := by
  obtain ⟨h1, h2⟩ := readB_lay aw5_may aw5_fit (by decide)
  unfold readP
  rw [if_pos h1, h2]
def ab5 : List UInt8 := [0, 0, 0, 0, 0, 0, 0, 2, 97, 98, 0, 0, 0, 0, 0, 0]
theorem ab5_text : [] ++ textL (ByteArray.mk #[97, 98]).data.toList = ab5 := by decide +kernel
theorem ab5_made (w : World) : ArgB (w.alloc (.cells #[.int .u8 0, .int .u8 0, .int .u8 0, .int .u8 0, .int .u8 0, .int .u8 0, .int .u8 0, .int .u8 2, .int .u8 97, .int .u8 98, .int .u8 0, .int .u8 0, .int .u8 0, .int .u8 0, .int .u8 0, .int .u8 0] 5)) (some ⟨w.heap.size, 0, none⟩) 16 16 ab5 :=
  (OwnB.made w ab5 w.heap.size (Nat.le_refl _) (by decide)).argAt.2

set_option maxRecDepth 100000 in
set_option maxHeartbeats 1000000 in
theorem awake5_ok (w0 w : World) (h : Ok w0 w) :
    Calls Tryd.prog 9 #[] w fun e w' => e = .returned (.bool true) ∧ Ok w0 w' ∧ Below w.heap.size w w' := by
  obtain ⟨wa, hwa⟩ : ∃ wa, wa = w.alloc (.cells #[.string ⟨#[]⟩, .int .i64 1, .string ⟨#[]⟩] 48) := ⟨_, rfl⟩
  have hba : Below w.heap.size w wa := by rw [hwa]; exact below_alloc _ _
  have HRA : Hid (Nods wa (.slice (some ⟨w.heap.size, 0, none⟩) 1 1) aw5) := by rw [hwa]; exact hide ((Run.one w (⟨#[]⟩, 1, ⟨#[]⟩)).nods (c := 1) (by simp))
  have oka := h.next hba
  have HBA := hide hba
  have HWA := hide hwa
  obtain ⟨lz, hlz⟩ : ∃ lz, lz = layL aw5 := ⟨_, rfl⟩
  have HZ : Hid (layL aw5 = lz) := hlz.symm
  have HZL : Hid (lz.length = 48) := by rw [hlz]; exact hide aw5_len
  have HZR : Hid (readP lz = (aw5, 0)) := by rw [hlz]; exact hide aw5_read
  clear hba hwa hlz h
  go_enter Tryd.func9, Tryd.ntmps9
  go_wp2_with fail
  rw [← HWA.out]
  refine (lay_good _ aw5 lz 48 w0 wa oka HRA.out aw5_short aw5_may HZ.out HZL.out).mono ?_
  rintro e w1 ⟨b1, c1, rfl, ho1, ok1, hb1⟩
  have HO1 := hide ho1
  have HB1 := hide (below_two HBA.out hb1)
  clear ho1 hb1
  go_wp2_with fail
  refine (read_ok _ 48 _ lz aw5 0 1 w0 w1 ok1 HO1.out.argAt.2 (by omega) HZR.out rfl).mono ?_
  rintro e w2 ⟨b2, c2, rfl, ho2, ok2, hb2⟩
  have HO2 := hide ho2
  have HB2 := hide (below_two HB1.out hb2)
  clear ho2 hb2
  go_wp2_with fail
  refine (textB_ok none 0 0 [] _ ab5 16 w2 (ArgB.nil w2) (by omega) (by decide) ab5_text rfl).mono ?_
  rintro e w3 ⟨b3, c3, rfl, ho3, hb3⟩
  have HO3 := hide ho3
  have HB3 := hide (below_two HB2.out hb3)
  have HN3 := hide (HO2.out.below hb3)
  have ok3 := ok2.next hb3
  clear ho3 hb3
  have HA3 := hide (ab5_made w3)
  have HO3' := hide (HO3.out.alloc (.cells #[.int .u8 0, .int .u8 0, .int .u8 0, .int .u8 0, .int .u8 0, .int .u8 0, .int .u8 0, .int .u8 2, .int .u8 97, .int .u8 98, .int .u8 0, .int .u8 0, .int .u8 0, .int .u8 0, .int .u8 0, .int .u8 0] 5))
  go_wp2_with fail
  refine (sameB_ok _ _ 16 _ 16 _ ab5 ab5 true w0 _ (ok3.alloc _) HO3'.out.argAt.2 HA3.out (by omega) (by simp)).mono ?_
  rintro e w4 ⟨rfl, ok4, hb4⟩
  have hb4' := below_two (below_alloc w3 (.cells #[.int .u8 0, .int .u8 0, .int .u8 0, .int .u8 0, .int .u8 0, .int .u8 0, .int .u8 0, .int .u8 2, .int .u8 97, .int .u8 98, .int .u8 0, .int .u8 0, .int .u8 0, .int .u8 0, .int .u8 0, .int .u8 0] 5)) hb4
  have HN4 := hide (HN3.out.below hb4')
  have HB4 := hide (below_two HB3.out hb4')
  clear hb4 hb4'
  obtain ⟨wc, hwc⟩ : ∃ wc, wc = w4.alloc (.cells #[.string ⟨#[]⟩, .int .i64 1, .string ⟨#[]⟩] 48) := ⟨_, rfl⟩
  have HRC : Hid (Nods wc (.slice (some ⟨w4.heap.size, 0, none⟩) 1 1) aw5) := by rw [hwc]; exact hide ((Run.one w4 (⟨#[]⟩, 1, ⟨#[]⟩)).nods (c := 1) (by simp))
  have HBC : Hid (Below w4.heap.size w4 wc) := by rw [hwc]; exact hide (below_alloc _ _)
  have okc := ok4.next HBC.out
  have HNC := hide (HN4.out.below HBC.out).nods
  have HWC := hide hwc
  clear hwc
  go_wp2_with fail
  rw [← HWC.out]
  refine (sameN_any _ _ aw5 aw5 wc HNC.out HRC.out (by decide)).mono ?_
  rintro e w5 ⟨rfl, hb5⟩
  have HB5 := hide (below_two (below_two HB4.out HBC.out) hb5)
  have ok5 := okc.next hb5
  clear hb5
  rw [show decide (aw5 = aw5) = true from by simp]
  go_wp2
  go_ret
  exact ⟨rfl, ok5, HB5.out⟩
end Go.Proofs.YtlepahfbbdjdgaaDoor
