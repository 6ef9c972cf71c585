/- The walk of RegTells. -/
import Derived.Test.YtmlkknbndglgaaaGreatDoorMU
import Derived.Test.YtmlkknbndglgaaaGreatDoorMP
import Derived.Test.YtmlkknbndglgaaaGreatDoorMQ
import Derived.Deep.RegionHeld
namespace Go.Proofs.YtmlkknbndglgaaaGreatDoor
open Go.RowKit

set_option maxRecDepth 100000 in
set_option maxHeartbeats 8000000 in
theorem tells_walk (pre : ByteArray) (ia : Option Addr) (m ic : Nat) (qs : List Pr) (pa : Option Addr) (n pc : Nat) (xs : List ByteArray) (pol : Int) (w : World) (hsh : w.ShapedOpen Tryz.prog) (hE : Errs w) (hA : ArgS w ia m ic qs) (hm : m ≤ maxLen) (hL : Lens (itsOf qs)) (hP : Arg w pa n pc xs) (hn : n ≤ maxLen) :
    Calls Tryz.prog 3 #[.agg #[.string pre, .slice ia m ic, .slice pa n pc, .int .i64 pol]] w fun e w' => e = .returned (.bool true) ∧ Below w.heap.size w w' := by
  obtain ⟨W, hW⟩ : ∃ V, w.alloc (.cells #[.string pre, .slice ia m ic, .slice pa n pc, .int .i64 pol] 25) = V := ⟨_, rfl⟩
  have y0 : Below w.heap.size w W := by rw [← hW]; exact below_box _ _
  have HB0 := hide y0
  have HBX : Hid (BoxP W w.heap.size 25 pre (.slice ia m ic) (.slice pa n pc) pol) := by rw [← hW]; exact BoxP.made _ _ _ _ _ _
  have HA := hide hA
  have HA1 := hide (hA.below y0)
  have HI1 := hide (hA.below y0).sls.its
  have HP1 := hide (hP.below y0).txt
  have HOK : Hid (Ok w W) := ⟨hsh, y0⟩
  have HE := hide hE
  have HL := hide hL
  have HMN : Hid ((itsOf qs).length = m) := by rw [its_len]; exact hA.len
  have HNN : Hid (xs.length = n) := hP.len
  have hmx : (itsOf qs).length ≤ maxLen := by rw [HMN.out]; exact hm
  have hnx : xs.length ≤ maxLen := by rw [HNN.out]; exact hn
  obtain ⟨gr, hgr⟩ : ∃ r, greatP pre (itsOf qs) xs = r := ⟨_, rfl⟩
  have HGR := hide hgr
  have HC := hide (greatP_ok pre (itsOf qs) xs ia m ic pa n pc pol gr W HI1.out HP1.out hmx hL hnx hgr)
  have HW := hide hW
  obtain ⟨⟨c0, c1, c2, c3⟩, _, hlt⟩ := HBX.out.facts
  clear hW y0 hA hE hL hgr hsh hP hm hn hmx hnx
  go_enter Tryz.func3, Tryz.ntmps3
  go_wp2_with fail
  have hwe := HW.out
  rw [hwe]
  clear hwe
  refine (show Calls _ _ _ _ _ from HC.out).mono ?_
  rintro e w1 ⟨rfl, hb1⟩
  have HBX1 := hide (HBX.out.below hb1)
  have HA2 := hide (HA1.out.below hb1)
  have HI2 := hide (Its.below HI1.out hb1)
  have HP2 := hide (Txt.below HP1.out hb1)
  have HB1 := hide (below_two HB0.out hb1)
  have HOK1 := hide (HOK.out.next hb1)
  clear hb1 HC HW HA1 HI1 HP1 c0 c1 c2 c3 hlt
  obtain ⟨⟨c0, c1, c2, c3⟩, _, hlt⟩ := HBX1.out.facts
  cases gr with
  | true =>
    go_wp2_with fail
    refine (awake11_ok w w1 HOK1.out HE.out).mono ?_
    rintro e w2 ⟨rfl, ok2, hb2⟩
    have HB2 := hide (below_two HB1.out hb2)
    clear hb2
    go_wp2
    go_ret
    exact ⟨rfl, HB2.out⟩
  | false =>
    obtain ⟨hfr, hq1, hq2, hq3, hq4⟩ := fairP_of (pol := pol) HGR.out
    obtain ⟨T, hT⟩ : ∃ T, layV ⟨pre, pol, rsI (itsOf qs), xs⟩ = T := ⟨_, rfl⟩
    obtain ⟨z, hz⟩ : ∃ z, layE ⟨pre, pol, rsI (itsOf qs), xs⟩ = z := ⟨_, rfl⟩
    have HF := hide hfr
    have HCL := hide (lay_ok ⟨pre, pol, rsI (itsOf qs), xs⟩ (itsOf qs) (.slice ia m ic) (.slice pa n pc) T z w w1 HOK1.out hfr HI2.out rfl HP2.out hT hz)
    have HT := hide hT
    have HZ := hide hz
    have hm10 : m ≤ 10 := by have := HMN.out; omega
    clear hfr hT hz hq2 hq1 hq3
    go_wp2_with fail
    refine (show Calls _ _ _ _ _ from HCL.out).mono ?_
    rintro e w2 ⟨rfl, ok2, hb2⟩
    have HBX2 := hide (HBX1.out.below hb2)
    have HA3 := hide (HA2.out.below hb2)
    have HI3 := hide (Its.below HI2.out hb2)
    have HP3 := hide (Txt.below HP2.out hb2)
    have HB2 := hide (below_two HB1.out hb2)
    have HOK2 := hide ok2
    clear hb2 ok2 HCL HA2 HI2 HP2 c0 c1 c2 c3 hlt HBX1 HB1 HOK1
    obtain ⟨⟨c0, c1, c2, c3⟩, _, hlt⟩ := HBX2.out.facts
    go_wp2_with fail
    refine (rlay_ok ⟨pre, pol, rsI (itsOf qs), xs⟩ (itsOf qs) (.slice ia m ic) (.slice pa n pc) T z w2 HF.out HI3.out rfl HP3.out HT.out HZ.out).mono ?_
    rintro e w3 ⟨rfl, hb3⟩
    have HBX3 := hide (HBX2.out.below hb3)
    have HA4 := hide (HA3.out.below hb3)
    have HI4 := hide (Its.below HI3.out hb3)
    have HP4 := hide (Txt.below HP3.out hb3)
    have HB3 := hide (below_two HB2.out hb3)
    have HOK3 := hide (HOK2.out.next hb3)
    clear hb3 HA3 HI3 HP3 c0 c1 c2 c3 hlt HBX2 HB2 HOK2
    obtain ⟨⟨c0, c1, c2, c3⟩, _, hlt⟩ := HBX3.out.facts
    go_wp2_with fail
    refine (show Calls _ _ _ _ _ from bare_ok pre ia m ic qs pa n pc pol w3 HA4.out (by omega)).mono ?_
    rintro e w4 ⟨a5, c5, rfl, hi5, hb4⟩
    have HBX4 := hide (HBX3.out.below hb4)
    have HI5 := hide (Its.below HI4.out hb4)
    have HP5 := hide (Txt.below HP4.out hb4)
    have HIU := hide hi5
    have HB4 := hide (below_two HB3.out hb4)
    have HOK4 := hide (HOK3.out.next hb4)
    clear hb4 hi5 HA4 HI4 HP4 c0 c1 c2 c3 hlt HBX3 HB3 HOK3
    have HCU := hide (lay_ok ⟨pre, pol, rsI (itsOf qs), xs⟩ (unI (rsI (itsOf qs))) (.slice a5 m c5) (.slice pa n pc) T z w w4 HOK4.out HF.out HIU.out (unI_rs _) HP5.out HT.out HZ.out)
    go_wp2_with fail
    refine (show Calls _ _ _ _ _ from HCU.out).mono ?_
    rintro e V ⟨rfl, ok5, hb5⟩
    have HBX := hide (HBX4.out.below hb5)
    have HI := hide (Its.below HI5.out hb5)
    have HP := hide (Txt.below HP5.out hb5)
    have HB := hide (below_two HB4.out hb5)
    have HOK := hide ok5
    obtain ⟨r, hr⟩ : ∃ r, mayR ⟨pre, pol, rsI (itsOf qs), xs⟩ = r := ⟨_, rfl⟩
    have HR := hide hr
    clear hb5 ok5 HBX4 HI5 HP5 HIU HB4 HOK4 HCU hr
    obtain ⟨⟨c0, c1, c2, c3⟩, _, hlt⟩ := HBX.out.facts
    go_wp2
    have hS0 : Below V.heap.size V V.drew := (Below.refl _ V).drew
    refine wp_region_held (S := fun w' => Below V.heap.size V w') (by kernel_rfl) ?_
    change wpAnyH _ _ _ _ _ _ _ _ (World.drew _)
    refine wpAnyH_take (i := 0) (v := (.string T)) rfl (by kernel_rfl) (by kernel_rfl) (by kernel_rfl) (fun _ _ _ h => h) (Or.inl ⟨by kernel_rfl, ?_⟩) hS0 ?_
    · intro w' hw'
      go_simp
    refine wpAnyH_take (i := 1) (v := (.string T)) rfl (by kernel_rfl) (by kernel_rfl) (by kernel_rfl) (fun _ _ _ h => h) (Or.inl ⟨by kernel_rfl, ?_⟩) hS0 ?_
    · intro w' hw'
      go_simp
    refine wpAnyH_take (i := 2) (v := (.bool true)) rfl (by kernel_rfl) (by kernel_rfl) (by kernel_rfl) (fun _ _ _ h => h) (Or.inl ⟨by kernel_rfl, ?_⟩) hS0 ?_
    · intro w' hw'
      go_simp
    refine wpAnyH_take (i := 3) (v := (.bool true)) rfl (by kernel_rfl) (by kernel_rfl) (by kernel_rfl) (fun _ _ _ h => h) (Or.inl ⟨by kernel_rfl, ?_⟩) hS0 ?_
    · intro w' hw'
      go_simp
    refine wpAnyH_take (i := 4) (v := (.int .i64 z)) rfl (by kernel_rfl) (by kernel_rfl) (by kernel_rfl) (fun _ _ _ h => h) (Or.inl ⟨by kernel_rfl, ?_⟩) hS0 ?_
    · intro w' hw'
      go_simp
    refine wpAnyH_take (i := 6) (v := (.int .i64 z)) rfl (by kernel_rfl) (by kernel_rfl) (by kernel_rfl) (fun _ _ _ h => h) (Or.inl ⟨by kernel_rfl, ?_⟩) hS0 ?_
    · intro w' hw'
      go_simp
    refine wpAnyH_ready (rs := [5]) (by kernel_rfl) (by simp) (AllReadyH.cons rfl (fun K hK => ?_) AllReadyH.nil)
    go_simp
    refine (show Calls _ _ _ _ _ from num_ok z V.drew).mono ?_
    rintro e _ ⟨rfl, rfl⟩
    go_simp
    refine hK.out _ _ hS0 (fun _ => ?_)
    clear hK K
    refine wpAnyH_take (i := 7) (v := (.bool true)) rfl (by kernel_rfl) (by kernel_rfl) (by kernel_rfl) (fun _ _ _ h => h) (Or.inl ⟨by kernel_rfl, ?_⟩) hS0 ?_
    · intro w' hw'
      go_simp
    refine wpAnyH_take (i := 8) (v := (.bool true)) rfl (by kernel_rfl) (by kernel_rfl) (by kernel_rfl) (fun _ _ _ h => h) (Or.inl ⟨by kernel_rfl, ?_⟩) hS0 ?_
    · intro w' hw'
      go_simp
    refine wpAnyH_take (i := 9) (v := (.bool true)) rfl (by kernel_rfl) (by kernel_rfl) (by kernel_rfl) (fun _ _ _ h => h) (Or.inl ⟨by kernel_rfl, ?_⟩) hS0 ?_
    · intro w' hw'
      go_simp
    refine wpAnyH_take (i := 10) (v := (.string T)) rfl (by kernel_rfl) (by kernel_rfl) (by kernel_rfl) (fun _ _ _ h => h) (Or.inl ⟨by kernel_rfl, ?_⟩) hS0 ?_
    · intro w' hw'
      go_simp
    refine wpAnyH_take (i := 11) (v := (.string T)) rfl (by kernel_rfl) (by kernel_rfl) (by kernel_rfl) (fun _ _ _ h => h) (Or.inl ⟨by kernel_rfl, ?_⟩) hS0 ?_
    · intro w' hw'
      go_simp
    refine wpAnyH_take (i := 12) (v := (.bool true)) rfl (by kernel_rfl) (by kernel_rfl) (by kernel_rfl) (fun _ _ _ h => h) (Or.inl ⟨by kernel_rfl, ?_⟩) hS0 ?_
    · intro w' hw'
      go_simp
    refine wpAnyH_take (i := 13) (v := (.bool true)) rfl (by kernel_rfl) (by kernel_rfl) (by kernel_rfl) (fun _ _ _ h => h) (Or.inl ⟨by kernel_rfl, ?_⟩) hS0 ?_
    · intro w' hw'
      go_simp
    refine wpAnyH_take (i := 14) (v := (.bool true)) rfl (by kernel_rfl) (by kernel_rfl) (by kernel_rfl) (fun _ _ _ h => h) (Or.inl ⟨by kernel_rfl, ?_⟩) hS0 ?_
    · intro w' hw'
      go_simp
    refine wpAnyH_take (i := 15) (v := (.int .i64 z)) rfl (by kernel_rfl) (by kernel_rfl) (by kernel_rfl) (fun _ _ _ h => h) (Or.inl ⟨by kernel_rfl, ?_⟩) hS0 ?_
    · intro w' hw'
      go_simp
    refine wpAnyH_take (i := 17) (v := (.int .i64 z)) rfl (by kernel_rfl) (by kernel_rfl) (by kernel_rfl) (fun _ _ _ h => h) (Or.inl ⟨by kernel_rfl, ?_⟩) hS0 ?_
    · intro w' hw'
      go_simp
    refine wpAnyH_ready (rs := [16]) (by kernel_rfl) (by simp) (AllReadyH.cons rfl (fun K hK => ?_) AllReadyH.nil)
    go_simp
    refine (show Calls _ _ _ _ _ from num_ok z _).mono ?_
    rintro e _ ⟨rfl, rfl⟩
    go_simp
    refine hK.out _ _ hS0 (fun _ => ?_)
    clear hK K
    refine wpAnyH_take (i := 18) (v := (.bool true)) rfl (by kernel_rfl) (by kernel_rfl) (by kernel_rfl) (fun _ _ _ h => h) (Or.inl ⟨by kernel_rfl, ?_⟩) hS0 ?_
    · intro w' hw'
      go_simp
    refine wpAnyH_take (i := 19) (v := (.bool true)) rfl (by kernel_rfl) (by kernel_rfl) (by kernel_rfl) (fun _ _ _ h => h) (Or.inl ⟨by kernel_rfl, ?_⟩) hS0 ?_
    · intro w' hw'
      go_simp
    refine wpAnyH_take (i := 20) (v := (.bool true)) rfl (by kernel_rfl) (by kernel_rfl) (by kernel_rfl) (fun _ _ _ h => h) (Or.inl ⟨by kernel_rfl, ?_⟩) hS0 ?_
    · intro w' hw'
      go_simp
    refine wpAnyH_take (i := 21) (v := (.agg #[.string pre, .slice ia m ic, .slice pa n pc, .int .i64 pol])) rfl (by kernel_rfl) (by kernel_rfl) (by kernel_rfl) (fun _ _ _ h => h) (Or.inl ⟨by kernel_rfl, ?_⟩) hS0 ?_
    · intro w' hw'
      have y0 := (hw'.cell (p := ⟨w.heap.size, 0, none⟩) hlt).trans c0
      have y1 := (hw'.cell (p := ⟨w.heap.size, 1, none⟩) hlt).trans c1
      have y2 := (hw'.cell (p := ⟨w.heap.size, 2, none⟩) hlt).trans c2
      have y3 := (hw'.cell (p := ⟨w.heap.size, 3, none⟩) hlt).trans c3
      go_simp
    refine wpAnyH_take (i := 23) (v := (.agg #[.string pre, .slice ia m ic, .slice pa n pc, .int .i64 pol])) rfl (by kernel_rfl) (by kernel_rfl) (by kernel_rfl) (fun _ _ _ h => h) (Or.inl ⟨by kernel_rfl, ?_⟩) hS0 ?_
    · intro w' hw'
      have y0 := (hw'.cell (p := ⟨w.heap.size, 0, none⟩) hlt).trans c0
      have y1 := (hw'.cell (p := ⟨w.heap.size, 1, none⟩) hlt).trans c1
      have y2 := (hw'.cell (p := ⟨w.heap.size, 2, none⟩) hlt).trans c2
      have y3 := (hw'.cell (p := ⟨w.heap.size, 3, none⟩) hlt).trans c3
      go_simp
    refine wpAnyH_ready (rs := [22]) (by kernel_rfl) (by simp) (AllReadyH.cons rfl (fun K hK => ?_) AllReadyH.nil)
    go_simp
    refine (show Calls _ _ _ _ _ from mayP_ok ⟨pre, pol, rsI (itsOf qs), xs⟩ (itsOf qs) (.slice ia m ic) (.slice pa n pc) r w _ (HOK.out.next hS0) HF.out (Its.below HI.out hS0) rfl (Txt.below HP.out hS0) HR.out).mono ?_
    rintro e V2 ⟨rfl, ok6, hb6⟩
    have hS1 : Below V.heap.size V V2 := below_two hS0 hb6
    go_simp
    refine hK.out _ _ hS1 (fun _ => ?_)
    clear hK K
    refine wpAnyH_ready (rs := [24]) (by kernel_rfl) (by simp) (AllReadyH.cons rfl (fun K hK => ?_) AllReadyH.nil)
    go_simp
    refine (show Calls _ _ _ _ _ from rmayP_ok ⟨pre, pol, rsI (itsOf qs), xs⟩ (itsOf qs) (.slice ia m ic) (.slice pa n pc) r V2 HF.out (Its.below HI.out hS1) rfl (Txt.below HP.out hS1) HR.out).mono ?_
    rintro e V3 ⟨rfl, hb7⟩
    have hS2 : Below V.heap.size V V3 := below_two hS1 hb7
    go_simp
    refine hK.out _ _ hS2 (fun _ => ?_)
    clear hK K
    refine wpAnyH_take (i := 25) (v := (.bool true)) rfl (by kernel_rfl) (by kernel_rfl) (by kernel_rfl) (fun _ _ _ h => h) (Or.inl ⟨by kernel_rfl, ?_⟩) hS2 ?_
    · intro w' hw'
      go_simp
    refine wpAnyH_take (i := 26) (v := (.bool true)) rfl (by kernel_rfl) (by kernel_rfl) (by kernel_rfl) (fun _ _ _ h => h) (Or.inl ⟨by kernel_rfl, ?_⟩) hS2 ?_
    · intro w' hw'
      go_simp
    refine wpAnyH_take (i := 27) (v := (.bool true)) rfl (by kernel_rfl) (by kernel_rfl) (by kernel_rfl) (fun _ _ _ h => h) (Or.inl ⟨by kernel_rfl, ?_⟩) hS2 ?_
    · intro w' hw'
      go_simp
    refine wpAnyH_ready (rs := [28]) (by kernel_rfl) (by simp) (AllReadyH.cons rfl (fun K hK => ?_) AllReadyH.nil)
    go_simp
    refine (show Calls _ _ _ _ _ from awake11_ok w V3 (HOK.out.next hS2) HE.out).mono ?_
    rintro e V4 ⟨rfl, ok8, hb8⟩
    have hS3 : Below V.heap.size V V4 := below_two hS2 hb8
    go_simp
    refine hK.out _ _ hS3 (fun _ => ?_)
    clear hK K
    refine wpAnyH_take (i := 29) (v := (.bool true)) rfl (by kernel_rfl) (by kernel_rfl) (by kernel_rfl) (fun _ _ _ h => h) (Or.inl ⟨by kernel_rfl, ?_⟩) hS3 ?_
    · intro w' hw'
      go_simp
    refine wpAnyH_ready (rs := [30]) (by kernel_rfl) (by simp) (AllReadyH.cons rfl (fun K hK => ?_) AllReadyH.nil)
    go_simp
    refine hK.out _ _ hS3 (fun _ => ?_)
    clear hK K
    refine wpAnyH_done (by kernel_rfl) ?_ _
    have HBE := hide (below_two HB.out hS3)
    clear hS0 hS1 hS2 hS3 hb6 hb7 hb8
    go_wp2
    go_ret
    exact ⟨rfl, HBE.out⟩
end Go.Proofs.YtmlkknbndglgaaaGreatDoor
