/- The walk of the statements' own awake, chapter 11. -/
import Derived.Test.YtmlkknbndglgaaaGreatDoorMM
import Derived.Test.YtmlkknbndglgaaaGreatDoorMN
namespace Go.Proofs.YtmlkknbndglgaaaGreatDoor
open Go.RowKit

def aName : ByteArray := ⟨#[48, 48, 48, 48, 48, 48, 48, 48, 45, 97]⟩
/-- The statements' own registration. -/
def aReg : Hog.RegP := ⟨⟨#[47, 103, 110, 117]⟩, 1, [(aName, [aName])], []⟩
theorem aReg_may : mayR aReg = true := by decide +kernel
theorem aReg_lay : Hog.layM aReg = [112, 114, 101, 102, 105, 120, 32, 47, 103, 110, 117, 10, 112, 111, 108, 105, 99, 121, 32, 49, 10, 105, 116, 101, 109, 32, 48, 48, 48, 48, 48, 48, 48, 48, 45, 97, 10, 114, 101, 102, 32, 48, 48, 48, 48, 48, 48, 48, 48, 45, 97, 10] := by decide +kernel
theorem aReg_fair : FairP aReg := by
  refine ⟨by decide, by decide, fun i hi => ?_, by decide, fun x hx => by simp [aReg] at hx⟩
  simp [aReg] at hi
  subst hi
  exact ⟨by decide, by decide, fun x hx => by simp at hx; subst hx; decide⟩
theorem none_may : mayR Hog.noneM = false := by decide +kernel
theorem none_fair : FairP Hog.noneM := ⟨by decide, by decide, fun i hi => by simp [Hog.noneM] at hi, by decide, fun x hx => by simp [Hog.noneM] at hx⟩

set_option maxRecDepth 100000 in
set_option maxHeartbeats 4000000 in
theorem awake11_ok (w0 w : World) (hok : Ok w0 w) (hE : Errs w0) :
    Calls Tryz.prog 8 #[] w fun e w' => e = .returned (.bool true) ∧ Ok w0 w' ∧ Below w.heap.size w w' := by
  have HOK := hide hok
  have HE := hide hE
  clear hok hE
  go_enter Tryz.func8, Tryz.ntmps8
  obtain ⟨T, hT⟩ : ∃ T : ByteArray, T = ⟨#[112, 114, 101, 102, 105, 120, 32, 47, 103, 110, 117, 10, 112, 111, 108, 105, 99, 121, 32, 49, 10, 105, 116, 101, 109, 32, 48, 48, 48, 48, 48, 48, 48, 48, 45, 97, 10, 114, 101, 102, 32, 48, 48, 48, 48, 48, 48, 48, 48, 45, 97, 10]⟩ := ⟨_, rfl⟩
  have hlv : layV aReg = T := by unfold layV; rw [if_pos aReg_may, aReg_lay, hT]; exact rfl
  have hle : layE aReg = 0 := by unfold layE; rw [if_pos aReg_may]
  have hts : T.size < 900000 := by rw [hT]; decide
  have htl : Hog.layM aReg = T.data.toList := by rw [aReg_lay, hT]
  have htt : (T.toList == [112, 114, 101, 102, 105, 120, 32, 47, 103, 110, 117, 10, 112, 111, 108, 105, 99, 121, 32, 49, 10, 105, 116, 101, 109, 32, 48, 48, 48, 48, 48, 48, 48, 48, 45, 97, 10, 114, 101, 102, 32, 48, 48, 48, 48, 48, 48, 48, 48, 45, 97, 10]) = true := by rw [Lib.toList_data, ← htl, aReg_lay, beq_iff_eq]
  clear hT
  obtain ⟨W1, hW1⟩ : ∃ V, w.alloc (.cells #[.string ⟨#[48, 48, 48, 48, 48, 48, 48, 48, 45, 97]⟩] 9) = V := ⟨_, rfl⟩
  obtain ⟨W2, hW2⟩ : ∃ V, W1.alloc (.cells #[.string ⟨#[48, 48, 48, 48, 48, 48, 48, 48, 45, 97]⟩, .slice (some ⟨w.heap.size, 0, none⟩) 1 1, .slice none 0 0] 47) = V := ⟨_, rfl⟩
  obtain ⟨g, hg⟩ : ∃ g, w.heap.size + 1 = g := ⟨_, rfl⟩
  obtain ⟨W3, hW3⟩ : ∃ V, W2.alloc (.cells #[.string ⟨#[47, 103, 110, 117]⟩, .slice (some ⟨g, 0, none⟩) 1 1, .slice none 0 0, .int .i64 1] 25) = V := ⟨_, rfl⟩
  have z1 : W1.heap.size = g := by rw [← hW1, World.size_alloc, hg]
  have z2 : W2.heap.size = g + 1 := by rw [← hW2, World.size_alloc, z1]
  have z3 : W3.heap.size = g + 1 + 1 := by rw [← hW3, World.size_alloc, z2]
  have y0 : Below w.heap.size w W1 := by rw [← hW1]; exact below_box _ _
  have y1 : Below W1.heap.size W1 W2 := by rw [← hW2]; exact below_box _ _
  have y2 : Below W2.heap.size W2 W3 := by rw [← hW3]; exact below_box _ _
  have x1 : Txt W1 (.slice (some ⟨w.heap.size, 0, none⟩) 1 1) [aName] := by rw [← hW1]; exact txt_one w aName
  have x2 : Its W2 (.slice (some ⟨g, 0, none⟩) 1 1) (unI aReg.items) := by
    rw [← hW2, ← z1]
    exact Its.one (i := (aName, [aName], [])) x1 (Nods.nil _ _ _)
  have HB0 := hide (below_two y0 (below_two y1 y2))
  have HITS := hide (x2.below y2)
  have HBX : Hid (BoxP W3 (g + 1) 25 ⟨#[47, 103, 110, 117]⟩ (.slice (some ⟨g, 0, none⟩) 1 1) (.slice none 0 0) 1) := by rw [← hW3, ← z2]; exact BoxP.made _ _ _ _ _ _
  have HOK3 : Hid (Ok w0 W3) := HOK.out.next HB0.out
  have HL := hide (lay_ok aReg (unI aReg.items) _ (.slice none 0 0) T 0 w0 W3 HOK3.out aReg_fair HITS.out (unI_rs _) (Txt.none _ _ _) hlv hle)
  have HG := hide hg
  have HZ3 := hide z3
  have HW : Hid (((w.alloc (.cells #[.string ⟨#[48, 48, 48, 48, 48, 48, 48, 48, 45, 97]⟩] 9)).alloc (.cells #[.string ⟨#[48, 48, 48, 48, 48, 48, 48, 48, 45, 97]⟩, .slice (some ⟨w.heap.size, 0, none⟩) 1 1, .slice none 0 0] 47)).alloc (.cells #[.string ⟨#[47, 103, 110, 117]⟩, .slice (some ⟨g, 0, none⟩) 1 1, .slice none 0 0, .int .i64 1] 25) = W3) := by rw [hW1, hW2, hW3]; exact rfl
  have HTL := hide htl
  have HTT := hide htt
  clear hW1 hW2 hW3 z1 z2 z3 y0 y1 y2 x1 x2 hlv hle htl htt
  go_wp2_with fail
  have hwe := HW.out
  rw [hwe]
  clear hwe
  refine (show Calls _ _ _ _ _ from HL.out).mono ?_
  rintro e w1 ⟨rfl, ok1, hb1⟩
  have HOK1 := hide ok1
  have HBX1 := hide (HBX.out.below hb1)
  have HITS1 := hide (HITS.out.below hb1)
  have HB1 := hide (below_two HB0.out hb1)
  clear ok1 hb1 HL
  go_wp2_with fail
  refine (read_ok T w0 w1 HOK1.out HE.out hts).mono ?_
  rintro e w2 ⟨q, z, ps, u, v, D, rfl, htd, hrw, hD, ok2, hb2⟩
  obtain ⟨rfl, rfl⟩ := told_lay aReg_may (HTL.out ▸ htd)
  have hi2 : Its w2 u (unI aReg.items) := hrw.unI
  have hp2 : Txt w2 v aReg.prof := hrw.txt
  obtain ⟨ua, uc, rfl⟩ := hi2.form
  obtain ⟨va, vc, rfl⟩ := hp2.form
  have HI2 := hide hi2
  have HP2 := hide hp2
  have HBX2 := hide (HBX1.out.below hb2)
  have HITS2 := hide (HITS1.out.below hb2)
  have HB2 := hide (below_two HB1.out hb2)
  have HOK2 := hide ok2
  have hz2 : g + 1 < w2.heap.size := HBX2.out.facts.2.2
  obtain ⟨W4, hW4⟩ : ∃ V, w2.alloc (.cells #[.string aReg.pre, .slice ua (unI aReg.items).length uc, .slice va aReg.prof.length vc, .int .i64 aReg.pol] 25) = V := ⟨_, rfl⟩
  have hb4 : Below w2.heap.size w2 W4 := by rw [← hW4]; exact below_box _ _
  obtain ⟨⟨c0, c1, c2, c3⟩, _, hlt⟩ := HBX2.out.facts
  have HSP := hide (sameP_ok aReg aReg (some ⟨g, 0, none⟩) 1 1 none 0 0 ua (unI aReg.items).length uc va aReg.prof.length vc true W4 (Its.below HITS2.out hb4) (Txt.none _ _ _) (Its.below HI2.out hb4) (Txt.below HP2.out hb4) aReg_fair (sameR_self _))
  have HB4 := hide hb4
  have HW4 := hide hW4
  have htt2 := HTT.out
  clear hrw ok2 hb2 hi2 hp2 hW4 hb4
  go_wp2_with fail
  have hw4 := HW4.out
  rw [hw4]
  clear hw4
  refine (show Calls _ _ _ _ _ from HSP.out).mono ?_
  rintro e w5 ⟨rfl, hb5⟩
  have hb6 := below_two HB4.out hb5
  have HB6 := hide (below_two HB2.out hb6)
  have HOK5 := hide (HOK2.out.next hb6)
  clear hb5 hb6
  go_wp2_with fail
  refine (show Calls _ _ _ _ _ from mayP_ok Hog.noneM [] (.slice none 0 0) (.slice none 0 0) false w0 w5 HOK5.out none_fair (.inl ⟨rfl, none, 0, rfl⟩) rfl (Txt.none _ _ _) none_may).mono ?_
  rintro e w7 ⟨rfl, ok7, hb7⟩
  go_wp2
  go_ret
  exact ⟨rfl, ok7, below_two HB6.out hb7⟩
end Go.Proofs.YtmlkknbndglgaaaGreatDoor
