/- The walk of RegBack. -/
import Derived.Test.YtmlkknbndglgaaaGreatDoorMQ
import Derived.Test.YtmlkknbndglgaaaGreatDoorMP
import Derived.Deep.RegionHeld
namespace Go.Proofs.YtmlkknbndglgaaaGreatDoor
open Go.RowKit

theorem fair_of_may {q : Hog.RegP} (h : mayR q = true) : FairP q := by
  obtain ⟨h1, h2, h3, h4, h5⟩ := lay_no h
  exact ⟨by omega, by omega, fun i hi => ⟨by have := (h2 i hi).1; omega, by have := (h2 i hi).2.1; omega, fun x hx => by have := (h2 i hi).2.2 x hx; omega⟩, by omega, fun x hx => by have := h4 x hx; omega⟩

set_option maxRecDepth 100000 in
set_option maxHeartbeats 8000000 in
theorem back_walk (pre : ByteArray) (ia : Option Addr) (m ic : Nat) (qs : List Pr) (pa : Option Addr) (n pc : Nat) (xs : List ByteArray) (pol : Int) (s : ByteArray) (x : Int) (w : World) (hsh : w.ShapedOpen Tryz.prog) (hE : Errs w) (hA : ArgS w ia m ic qs) (hm : m ≤ maxLen) (hL : Lens (itsOf qs)) (hP : Arg w pa n pc xs) (hn : n ≤ maxLen) (hsz : s.size ≤ maxLen) :
    Calls Tryz.prog 5 #[.agg #[.string pre, .slice ia m ic, .slice pa n pc, .int .i64 pol], .string s, .int .i64 x] w fun e w' => e = .returned (.bool true) ∧ Below w.heap.size w w' := by
  obtain ⟨W, hW⟩ : ∃ V, w.alloc (.cells #[.string pre, .slice ia m ic, .slice pa n pc, .int .i64 pol] 25) = V := ⟨_, rfl⟩
  have y0 : Below w.heap.size w W := by rw [← hW]; exact below_box _ _
  have HB0 := hide y0
  have HBX : Hid (BoxP W w.heap.size 25 pre (.slice ia m ic) (.slice pa n pc) pol) := by rw [← hW]; exact BoxP.made _ _ _ _ _ _
  have HA := hide hA
  have HA1 := hide (hA.below y0)
  have HI1 := hide (hA.below y0).sls.its
  have HP1 := hide (hP.below y0).txt
  have HOK : Hid (Ok w W) := ⟨hsh, y0⟩
  have HE := hide hE
  have HL := hide hL
  have HMN : Hid ((itsOf qs).length = m) := by rw [its_len]; exact hA.len
  have HNN : Hid (xs.length = n) := hP.len
  have hmx : (itsOf qs).length ≤ maxLen := by rw [HMN.out]; exact hm
  have hnx : xs.length ≤ maxLen := by rw [HNN.out]; exact hn
  have hszi : (s.size : Int) ≤ 9223372036854775807 := by unfold maxLen at hsz; omega
  obtain ⟨gr, hgr⟩ : ∃ r, greatP pre (itsOf qs) xs = r := ⟨_, rfl⟩
  have HGR := hide hgr
  have HC := hide (greatP_ok pre (itsOf qs) xs ia m ic pa n pc pol gr W HI1.out HP1.out hmx hL hnx hgr)
  have HW := hide hW
  obtain ⟨⟨c0, c1, c2, c3⟩, _, hlt⟩ := HBX.out.facts
  clear hW y0 hA hE hL hgr hsh hP hm hn hmx hnx hsz
  go_enter Tryz.func5, Tryz.ntmps5
  go_wp2_with fail
  have hwe := HW.out
  rw [hwe]
  clear hwe
  refine (show Calls _ _ _ _ _ from HC.out).mono ?_
  rintro e w1 ⟨rfl, hb1⟩
  have HBX1 := hide (HBX.out.below hb1)
  have HA2 := hide (HA1.out.below hb1)
  have HI2 := hide (Its.below HI1.out hb1)
  have HP2 := hide (Txt.below HP1.out hb1)
  have HB1 := hide (below_two HB0.out hb1)
  have HOK1 := hide (HOK.out.next hb1)
  clear hb1 HC HW HA1 HI1 HP1 c0 c1 c2 c3 hlt
  obtain ⟨⟨c0, c1, c2, c3⟩, _, hlt⟩ := HBX1.out.facts
  cases gr with
  | true =>
    go_wp2_with fail
    refine (awake11_ok w w1 HOK1.out HE.out).mono ?_
    rintro e w2 ⟨rfl, ok2, hb2⟩
    have HB2 := hide (below_two HB1.out hb2)
    clear hb2
    go_wp2
    go_ret
    exact ⟨rfl, HB2.out⟩
  | false =>
    by_cases hs4 : s.size ≤ 4000
    case neg =>
      have hs5 : (4000 : Int) < (s.size : Int) := by omega
      go_wp2_with fail
      refine (awake11_ok w w1 HOK1.out HE.out).mono ?_
      rintro e w2 ⟨rfl, ok2, hb2⟩
      have HB2 := hide (below_two HB1.out hb2)
      clear hb2
      go_wp2
      go_ret
      exact ⟨rfl, HB2.out⟩
    case pos =>
      have hs5 : (s.size : Int) ≤ 4000 := by omega
      have hs9 : s.size < 900000 := by omega
      obtain ⟨hfr, hq1, hq2, hq3, hq4⟩ := fairP_of (pol := pol) HGR.out
      obtain ⟨T, hT⟩ : ∃ T, layV ⟨pre, pol, rsI (itsOf qs), xs⟩ = T := ⟨_, rfl⟩
      obtain ⟨z, hz⟩ : ∃ z, layE ⟨pre, pol, rsI (itsOf qs), xs⟩ = z := ⟨_, rfl⟩
      have HF := hide hfr
      have HCL := hide (lay_ok ⟨pre, pol, rsI (itsOf qs), xs⟩ (itsOf qs) (.slice ia m ic) (.slice pa n pc) T z w w1 HOK1.out hfr HI2.out rfl HP2.out hT hz)
      have HT := hide hT
      have HZ := hide hz
      have hm10 : m ≤ 10 := by have := HMN.out; omega
      clear hfr hT hz hq2 hq1 hq3 hs4
      go_wp2_with fail
      refine (show Calls _ _ _ _ _ from HCL.out).mono ?_
      rintro e w2 ⟨rfl, ok2, hb2⟩
      have HBX2 := hide (HBX1.out.below hb2)
      have HA3 := hide (HA2.out.below hb2)
      have HI3 := hide (Its.below HI2.out hb2)
      have HP3 := hide (Txt.below HP2.out hb2)
      have HB2 := hide (below_two HB1.out hb2)
      have HOK2 := hide ok2
      clear hb2 ok2 HCL HA2 HI2 HP2 c0 c1 c2 c3 hlt
      obtain ⟨⟨c0, c1, c2, c3⟩, _, hlt⟩ := HBX2.out.facts
      by_cases hmay : mayR ⟨pre, pol, rsI (itsOf qs), xs⟩ = true
      case neg =>
        have hz2 : z = 2 := by have := HZ.out; unfold layE at this; rw [if_neg hmay] at this; exact this.symm
        have hT2 : T = ⟨#[]⟩ := by have := HT.out; unfold layV at this; rw [if_neg hmay] at this; exact this.symm
        subst hz2
        subst hT2
        clear hmay HT
        go_wp2_with fail
        refine (read_ok s w w2 HOK2.out HE.out hs9).mono ?_
        rintro e wa ⟨r9, z9, ps9, u9, v9, D9, rfl, htd9, hrw9, hD9, ok9, hb9⟩
        have hi9 : Its wa u9 (unI r9.items) := hrw9.unI
        have hp9 : Txt wa v9 r9.prof := hrw9.txt
        obtain ⟨i9, j9, rfl⟩ := hi9.form
        obtain ⟨k9, l9, rfl⟩ := hp9.form
        obtain ⟨m9, hm9e⟩ : ∃ k, (unI r9.items).length = k := ⟨_, rfl⟩
        obtain ⟨n9, hn9e⟩ : ∃ k, r9.prof.length = k := ⟨_, rfl⟩
        rw [hm9e] at hi9
        rw [hn9e] at hp9
        simp only [hm9e, hn9e]
        obtain ⟨V9, hV9⟩ : ∃ V, wa.alloc (.cells #[.string r9.pre, .slice i9 m9 j9, .slice k9 n9 l9, .int .i64 r9.pol] 25) = V := ⟨_, rfl⟩
        have y9 : Below wa.heap.size wa V9 := by rw [← hV9]; exact below_box _ _
        have HB9 := hide (below_two HB2.out (below_two hb9 y9))
        have HOK9 := hide (ok9.next y9)
        have HI9 := hide (Its.below hi9 y9)
        have HP9 := hide (Txt.below hp9 y9)
        have HM9 := hide hm9e
        have HN9 := hide hn9e
        have HV9 := hide hV9
        rcases htd9 with ⟨rfl, hm9, hl9⟩ | ⟨rfl, rfl, _⟩
        · have hx1 : layV r9 = s := by unfold layV; rw [if_pos hm9, hl9]; exact rfl
          have hx2 : layE r9 = 0 := by unfold layE; rw [if_pos hm9]
          have HCL9 := hide (lay_ok r9 (unI r9.items) (.slice i9 m9 j9) (.slice k9 n9 l9) s 0 w V9 HOK9.out (fair_of_may hm9) HI9.out (unI_rs _) HP9.out hx1 hx2)
          have HBZ : Hid (BoxP V9 wa.heap.size 25 r9.pre (.slice i9 m9 j9) (.slice k9 n9 l9) r9.pol) := by rw [← hV9]; exact BoxP.made _ _ _ _ _ _
          have HM := hide hm9
          clear hx1 hx2 hrw9 hb9 ok9 hi9 hp9 y9 hV9 hm9e hn9e hD9 hm9 hl9
          go_wp2_with fail
          have hve := HV9.out
          rw [hve]
          clear hve
          refine (show Calls _ _ _ _ _ from HCL9.out).mono ?_
          rintro e wb ⟨rfl, okb, hbb⟩
          obtain ⟨⟨e0, e1, e2, e3⟩, _, hltb⟩ := (HBZ.out.below hbb).facts
          have HBb := hide (below_two HB9.out hbb)
          have HMY := hide (mayP_ok r9 (unI r9.items) (.slice i9 m9 j9) (.slice k9 n9 l9) true w wb okb (fair_of_may HM.out) (Its.below HI9.out hbb) (unI_rs _) (Txt.below HP9.out hbb) HM.out)
          clear hbb okb
          go_wp2_with fail
          refine (show Calls _ _ _ _ _ from HMY.out).mono ?_
          rintro e wc ⟨rfl, okc, hbc⟩
          have HBc := hide (below_two HBb.out hbc)
          clear hbc
          go_wp2_with fail
          refine (awake11_ok w wc okc HE.out).mono ?_
          rintro e wd ⟨rfl, okd, hbd⟩
          have HBd := hide (below_two HBc.out hbd)
          clear hbd
          go_wp2
          go_ret
          exact ⟨rfl, HBd.out⟩
        · clear hrw9 hb9 ok9 hi9 hp9 y9 hV9 hm9e hn9e hD9
          go_wp2_with fail
          have hve := HV9.out
          rw [hve]
          clear hve
          refine (awake11_ok w V9 HOK9.out HE.out).mono ?_
          rintro e wd ⟨rfl, okd, hbd⟩
          have HBd := hide (below_two HB9.out hbd)
          clear hbd
          go_wp2
          go_ret
          exact ⟨rfl, HBd.out⟩
      case pos =>
        have hz2 : z = 0 := by have := HZ.out; unfold layE at this; rw [if_pos hmay] at this; exact this.symm
        subst hz2
        have hTl : T.data.toList = Hog.layM ⟨pre, pol, rsI (itsOf qs), xs⟩ := by have := HT.out; unfold layV at this; rw [if_pos hmay] at this; rw [← this]; exact rfl
        have hts : T.size ≤ 4018 := by
          have := mayR_small hmay
          rw [← hTl] at this
          simpa using this
        have hts9 : T.size < 900000 := by omega
        have HMAY := hide hmay
        have HTL := hide hTl
        clear hmay hTl
        go_wp2_with fail
        refine (read_ok T w w2 HOK2.out HE.out hts9).mono ?_
        rintro e w3 ⟨q, z3, ps, u, v, D, rfl, htd, hrw, hD, ok3, hb3⟩
        rw [HTL.out] at htd
        obtain ⟨rfl, rfl⟩ := told_lay HMAY.out htd
        have hi3 : Its w3 u (unI (rsI (itsOf qs))) := hrw.unI
        have hp3 : Txt w3 v xs := hrw.txt
        obtain ⟨ua, uc, rfl⟩ := hi3.form
        obtain ⟨va, vc, rfl⟩ := hp3.form
        obtain ⟨um, hum⟩ : ∃ k, (unI (rsI (itsOf qs))).length = k := ⟨_, rfl⟩
        obtain ⟨vm, hvm⟩ : ∃ k, xs.length = k := ⟨_, rfl⟩
        rw [hum] at hi3
        rw [hvm] at hp3
        simp only [hum, hvm]
        obtain ⟨V3, hV3⟩ : ∃ V, w3.alloc (.cells #[.string pre, .slice ua um uc, .slice va vm vc, .int .i64 pol] 25) = V := ⟨_, rfl⟩
        obtain ⟨g3, hg3⟩ : ∃ g, w3.heap.size = g := ⟨_, rfl⟩
        have y3 : Below w3.heap.size w3 V3 := by rw [← hV3]; exact below_box _ _
        have HB3 := hide (below_two HB2.out (below_two hb3 y3))
        have HOK3 := hide (ok3.next y3)
        have HBY : Hid (BoxP V3 g3 25 pre (.slice ua um uc) (.slice va vm vc) pol) := by rw [← hV3, ← hg3]; exact BoxP.made _ _ _ _ _ _
        have HBX3 := hide ((HBX2.out.below hb3).below y3)
        have HA4 := hide ((HA3.out.below hb3).below y3)
        have HP4 := hide (Txt.below (Txt.below HP3.out hb3) y3)
        have HIU := hide (Its.below hi3 y3)
        have HPV := hide (Txt.below hp3 y3)
        have HV3 := hide hV3
        have HG3 := hide hg3
        have HUM := hide hum
        have HVM := hide hvm
        clear hrw hb3 ok3 hi3 hp3 y3 hV3 hg3 hum hvm htd hD c0 c1 c2 c3 hlt HA3 HI3 HP3
        go_wp2_with fail
        have hve := HV3.out
        have hge := HG3.out
        rw [hve, hge]
        clear hve hge
        obtain ⟨⟨c0, c1, c2, c3⟩, _, hlt⟩ := HBX3.out.facts
        obtain ⟨⟨d0, d1, d2, d3⟩, _, hlt3⟩ := HBY.out.facts
        have hS0 : Below V3.heap.size V3 V3.drew := (Below.refl _ V3).drew
        refine wp_region_held (S := fun w' => Below V3.heap.size V3 w') (by kernel_rfl) ?_
        change wpAnyH _ _ _ _ _ _ _ _ (World.drew _)
        refine wpAnyH_take (i := 0) (v := (.int .i64 0)) rfl (by kernel_rfl) (by kernel_rfl) (by kernel_rfl) (fun _ _ _ h => h) (Or.inl ⟨by kernel_rfl, ?_⟩) hS0 ?_
        · intro w' hw'
          go_simp
        refine wpAnyH_take (i := 1) (v := (.bool false)) rfl (by kernel_rfl) (by kernel_rfl) (by kernel_rfl) (fun _ _ _ h => h) (Or.inl ⟨by kernel_rfl, ?_⟩) hS0 ?_
        · intro w' hw'
          go_simp
        refine wpAnyH_take (i := 2) (v := (.bool false)) rfl (by kernel_rfl) (by kernel_rfl) (by kernel_rfl) (fun _ _ _ h => h) (Or.inl ⟨by kernel_rfl, ?_⟩) hS0 ?_
        · intro w' hw'
          go_simp
        refine wpAnyH_take (i := 3) (v := (.agg #[.string pre, .slice ua um uc, .slice va vm vc, .int .i64 pol])) rfl (by kernel_rfl) (by kernel_rfl) (by kernel_rfl) (fun _ _ _ h => h) (Or.inl ⟨by kernel_rfl, ?_⟩) hS0 ?_
        · intro w' hw'
          have y0 := (hw'.cell (p := ⟨g3, 0, none⟩) (by show g3 < V3.heap.size; omega)).trans d0
          have y1 := (hw'.cell (p := ⟨g3, 1, none⟩) (by show g3 < V3.heap.size; omega)).trans d1
          have y2 := (hw'.cell (p := ⟨g3, 2, none⟩) (by show g3 < V3.heap.size; omega)).trans d2
          have y3 := (hw'.cell (p := ⟨g3, 3, none⟩) (by show g3 < V3.heap.size; omega)).trans d3
          go_simp
        refine wpAnyH_take (i := 4) (v := (.agg #[.string pre, .slice ia m ic, .slice pa n pc, .int .i64 pol])) rfl (by kernel_rfl) (by kernel_rfl) (by kernel_rfl) (fun _ _ _ h => h) (Or.inl ⟨by kernel_rfl, ?_⟩) hS0 ?_
        · intro w' hw'
          have y0 := (hw'.cell (p := ⟨w.heap.size, 0, none⟩) (by show w.heap.size < V3.heap.size; omega)).trans c0
          have y1 := (hw'.cell (p := ⟨w.heap.size, 1, none⟩) (by show w.heap.size < V3.heap.size; omega)).trans c1
          have y2 := (hw'.cell (p := ⟨w.heap.size, 2, none⟩) (by show w.heap.size < V3.heap.size; omega)).trans c2
          have y3 := (hw'.cell (p := ⟨w.heap.size, 3, none⟩) (by show w.heap.size < V3.heap.size; omega)).trans c3
          go_simp
        clear c0 c1 c2 c3 d0 d1 d2 d3
        have HBB := hide (bare_ok pre ia m ic qs pa n pc pol V3.drew (HA4.out.below hS0) (by omega))
        refine wpAnyH_ready (rs := [5]) (by kernel_rfl) (by simp) (AllReadyH.cons rfl (fun K hK => ?_) AllReadyH.nil)
        go_simp
        refine (show Calls _ _ _ _ _ from HBB.out).mono ?_
        rintro e w5 ⟨a5, c5, rfl, hi5, hb5⟩
        have hS5 : Below V3.heap.size V3 w5 := below_two hS0 hb5
        go_simp
        refine hK.out _ _ hS5 (fun _ => ?_)
        clear hK K
        have HI5 := hide hi5
        have HSP := hide (sameP_ok ⟨pre, pol, rsI (itsOf qs), xs⟩ ⟨pre, pol, rsI (itsOf qs), xs⟩ ua um uc va vm vc a5 m c5 pa n pc true w5 (Its.below HIU.out hS5) (Txt.below HPV.out hS5) hi5 (Txt.below HP4.out hS5) HF.out (sameR_self _))
        refine wpAnyH_ready (rs := [6]) (by kernel_rfl) (by simp) (AllReadyH.cons rfl (fun K hK => ?_) AllReadyH.nil)
        go_simp
        refine (show Calls _ _ _ _ _ from HSP.out).mono ?_
        rintro e w6 ⟨rfl, hb6⟩
        have hS6 : Below V3.heap.size V3 w6 := below_two hS5 hb6
        go_simp
        refine hK.out _ _ hS6 (fun _ => ?_)
        clear hK K
        refine wpAnyH_take (i := 7) (v := (.bool false)) rfl (by kernel_rfl) (by kernel_rfl) (by kernel_rfl) (fun _ _ _ h => h) (Or.inl ⟨by kernel_rfl, ?_⟩) hS6 ?_
        · intro w' hw'
          go_simp
        refine wpAnyH_take (i := 8) (v := (.bool false)) rfl (by kernel_rfl) (by kernel_rfl) (by kernel_rfl) (fun _ _ _ h => h) (Or.inl ⟨by kernel_rfl, ?_⟩) hS6 ?_
        · intro w' hw'
          go_simp
        refine wpAnyH_done (by kernel_rfl) ?_ _
        have HB6 := hide (below_two HB3.out hS6)
        have HOK6 := hide (HOK3.out.next hS6)
        have HBX6 := hide (HBX3.out.below hS6)
        have HBY6 := hide (HBY.out.below hS6)
        have HIU6 := hide (Its.below HIU.out hS6)
        have HPV6 := hide (Txt.below HPV.out hS6)
        clear hS0 hS5 hS6 hb5 hb6 hi5 hlt hlt3 HBB HSP HI5 HA4 HP4 HB3 HOK3 HBX3 HBY HIU HPV
        obtain ⟨tn, htn⟩ : ∃ k, T.size = k := ⟨_, rfl⟩
        go_wp2_with fail
        refine (low_any x (tn + 1) w6 (by omega) (by omega)).mono ?_
        rintro e _ ⟨r, rfl, hr, rfl⟩
        have hri : (r : Int) ≤ (tn : Int) := by omega
        obtain ⟨C, hC⟩ : ∃ C, T.extract 0 r = C := ⟨_, rfl⟩
        have HC := hide hC
        have hC9 : C.size < 900000 := by
          have e : C.size = (T.extract 0 r).size := by rw [hC]
          rw [ByteArray.size_extract] at e
          omega
        clear hC
        go_wp2_with fail
        have hce := HC.out
        rw [hce]
        clear hce
        refine (read_ok C w _ HOK6.out HE.out hC9).mono ?_
        rintro e w7 ⟨q7, z7, ps7, u7, v7, D7, rfl, htd7, hrw7, hD7, ok7, hb7⟩
        have hi7 : Its w7 u7 (unI q7.items) := hrw7.unI
        have hp7 : Txt w7 v7 q7.prof := hrw7.txt
        obtain ⟨ub, ud, rfl⟩ := hi7.form
        obtain ⟨vb, vd, rfl⟩ := hp7.form
        obtain ⟨ul, hul⟩ : ∃ k, (unI q7.items).length = k := ⟨_, rfl⟩
        obtain ⟨vl, hvl⟩ : ∃ k, q7.prof.length = k := ⟨_, rfl⟩
        rw [hul] at hi7
        rw [hvl] at hp7
        simp only [hul, hvl]
        obtain ⟨V7, hV7⟩ : ∃ V, w7.alloc (.cells #[.string q7.pre, .slice ub ul ud, .slice vb vl vd, .int .i64 q7.pol] 25) = V := ⟨_, rfl⟩
        have y7 : Below w7.heap.size w7 V7 := by rw [← hV7]; exact below_box _ _
        have HB7 := hide (below_two HB6.out (below_two hb7 y7))
        have HOK7 := hide (ok7.next y7)
        have HIU7 := hide (Its.below (Its.below HIU6.out hb7) y7)
        have HPV7 := hide (Txt.below (Txt.below HPV6.out hb7) y7)
        have HI7 := hide (Its.below hi7 y7)
        have HP7 := hide (Txt.below hp7 y7)
        have HV7 := hide hV7
        obtain ⟨⟨d0, d1, d2, d3⟩, _, hlt7⟩ := (HBY6.out.below hb7).facts
        have HUL := hide hul
        have HVL := hide hvl
        clear hrw7 hD7 ok7 hb7 y7 hV7 hi7 hp7 hul hvl HBX6 HBY6 HB6 HOK6 HIU6 HPV6
        by_cases hct : (C.toList == T.toList) = true
        · clear htd7
          go_wp2_with fail
          have hve := HV7.out
          rw [hve]
          clear hve
          refine (read_ok s w V7 HOK7.out HE.out hs9).mono ?_
          rintro e wa ⟨r9, z9, ps9, u9, v9, D9, rfl, htd9, hrw9, hD9, ok9, hb9⟩
          have hi9 : Its wa u9 (unI r9.items) := hrw9.unI
          have hp9 : Txt wa v9 r9.prof := hrw9.txt
          obtain ⟨i9, j9, rfl⟩ := hi9.form
          obtain ⟨k9, l9, rfl⟩ := hp9.form
          obtain ⟨m9, hm9e⟩ : ∃ k, (unI r9.items).length = k := ⟨_, rfl⟩
          obtain ⟨n9, hn9e⟩ : ∃ k, r9.prof.length = k := ⟨_, rfl⟩
          rw [hm9e] at hi9
          rw [hn9e] at hp9
          simp only [hm9e, hn9e]
          obtain ⟨V9, hV9⟩ : ∃ V, wa.alloc (.cells #[.string r9.pre, .slice i9 m9 j9, .slice k9 n9 l9, .int .i64 r9.pol] 25) = V := ⟨_, rfl⟩
          have y9 : Below wa.heap.size wa V9 := by rw [← hV9]; exact below_box _ _
          have HB9 := hide (below_two HB7.out (below_two hb9 y9))
          have HOK9 := hide (ok9.next y9)
          have HI9 := hide (Its.below hi9 y9)
          have HP9 := hide (Txt.below hp9 y9)
          have HM9 := hide hm9e
          have HN9 := hide hn9e
          have HV9 := hide hV9
          rcases htd9 with ⟨rfl, hm9, hl9⟩ | ⟨rfl, rfl, _⟩
          · have hx1 : layV r9 = s := by unfold layV; rw [if_pos hm9, hl9]; exact rfl
            have hx2 : layE r9 = 0 := by unfold layE; rw [if_pos hm9]
            have HCL9 := hide (lay_ok r9 (unI r9.items) (.slice i9 m9 j9) (.slice k9 n9 l9) s 0 w V9 HOK9.out (fair_of_may hm9) HI9.out (unI_rs _) HP9.out hx1 hx2)
            have HBZ : Hid (BoxP V9 wa.heap.size 25 r9.pre (.slice i9 m9 j9) (.slice k9 n9 l9) r9.pol) := by rw [← hV9]; exact BoxP.made _ _ _ _ _ _
            have HM := hide hm9
            clear hx1 hx2 hrw9 hb9 ok9 hi9 hp9 y9 hV9 hm9e hn9e hD9 hm9 hl9
            go_wp2_with fail
            have hve := HV9.out
            rw [hve]
            clear hve
            refine (show Calls _ _ _ _ _ from HCL9.out).mono ?_
            rintro e wb ⟨rfl, okb, hbb⟩
            obtain ⟨⟨e0, e1, e2, e3⟩, _, hltb⟩ := (HBZ.out.below hbb).facts
            have HBb := hide (below_two HB9.out hbb)
            have HMY := hide (mayP_ok r9 (unI r9.items) (.slice i9 m9 j9) (.slice k9 n9 l9) true w wb okb (fair_of_may HM.out) (Its.below HI9.out hbb) (unI_rs _) (Txt.below HP9.out hbb) HM.out)
            clear hbb okb
            go_wp2_with fail
            refine (show Calls _ _ _ _ _ from HMY.out).mono ?_
            rintro e wc ⟨rfl, okc, hbc⟩
            have HBc := hide (below_two HBb.out hbc)
            clear hbc
            go_wp2_with fail
            refine (awake11_ok w wc okc HE.out).mono ?_
            rintro e wd ⟨rfl, okd, hbd⟩
            have HBd := hide (below_two HBc.out hbd)
            clear hbd
            go_wp2
            go_ret
            exact ⟨rfl, HBd.out⟩
          · clear hrw9 hb9 ok9 hi9 hp9 y9 hV9 hm9e hn9e hD9
            go_wp2_with fail
            have hve := HV9.out
            rw [hve]
            clear hve
            refine (awake11_ok w V9 HOK9.out HE.out).mono ?_
            rintro e wd ⟨rfl, okd, hbd⟩
            have HBd := hide (below_two HB9.out hbd)
            clear hbd
            go_wp2
            go_ret
            exact ⟨rfl, HBd.out⟩
        · have hctf : (C.toList == T.toList) = false := Bool.eq_false_iff.2 hct
          rcases htd7 with ⟨rfl, hm7, hl7⟩ | ⟨rfl, rfl, _⟩
          · have HSF := hide (sameP_ok q7 ⟨pre, pol, rsI (itsOf qs), xs⟩ ub ul ud vb vl vd ua um uc va vm vc false V7 HI7.out HP7.out HIU7.out HPV7.out (fair_of_may hm7) (sameR_ne (fun e => by
              have h1 := HTL.out
              rw [← e, hl7] at h1
              rw [← Lib.toList_data, ← Lib.toList_data] at h1
              exact hct (by rw [h1]; exact beq_self_eq_true _))))
            clear hm7 hl7 hct
            go_wp2_with fail
            have hve := HV7.out
            rw [hve]
            clear hve
            refine (show Calls _ _ _ _ _ from HSF.out).mono ?_
            rintro e w8 ⟨rfl, hb8⟩
            have HB8 := hide (below_two HB7.out hb8)
            have HOK8 := hide (HOK7.out.next hb8)
            clear hb8
            go_wp2_with fail
            refine (read_ok s w w8 HOK8.out HE.out hs9).mono ?_
            rintro e wa ⟨r9, z9, ps9, u9, v9, D9, rfl, htd9, hrw9, hD9, ok9, hb9⟩
            have hi9 : Its wa u9 (unI r9.items) := hrw9.unI
            have hp9 : Txt wa v9 r9.prof := hrw9.txt
            obtain ⟨i9, j9, rfl⟩ := hi9.form
            obtain ⟨k9, l9, rfl⟩ := hp9.form
            obtain ⟨m9, hm9e⟩ : ∃ k, (unI r9.items).length = k := ⟨_, rfl⟩
            obtain ⟨n9, hn9e⟩ : ∃ k, r9.prof.length = k := ⟨_, rfl⟩
            rw [hm9e] at hi9
            rw [hn9e] at hp9
            simp only [hm9e, hn9e]
            obtain ⟨V9, hV9⟩ : ∃ V, wa.alloc (.cells #[.string r9.pre, .slice i9 m9 j9, .slice k9 n9 l9, .int .i64 r9.pol] 25) = V := ⟨_, rfl⟩
            have y9 : Below wa.heap.size wa V9 := by rw [← hV9]; exact below_box _ _
            have HB9 := hide (below_two HB8.out (below_two hb9 y9))
            have HOK9 := hide (ok9.next y9)
            have HI9 := hide (Its.below hi9 y9)
            have HP9 := hide (Txt.below hp9 y9)
            have HM9 := hide hm9e
            have HN9 := hide hn9e
            have HV9 := hide hV9
            rcases htd9 with ⟨rfl, hm9, hl9⟩ | ⟨rfl, rfl, _⟩
            · have hx1 : layV r9 = s := by unfold layV; rw [if_pos hm9, hl9]; exact rfl
              have hx2 : layE r9 = 0 := by unfold layE; rw [if_pos hm9]
              have HCL9 := hide (lay_ok r9 (unI r9.items) (.slice i9 m9 j9) (.slice k9 n9 l9) s 0 w V9 HOK9.out (fair_of_may hm9) HI9.out (unI_rs _) HP9.out hx1 hx2)
              have HBZ : Hid (BoxP V9 wa.heap.size 25 r9.pre (.slice i9 m9 j9) (.slice k9 n9 l9) r9.pol) := by rw [← hV9]; exact BoxP.made _ _ _ _ _ _
              have HM := hide hm9
              clear hx1 hx2 hrw9 hb9 ok9 hi9 hp9 y9 hV9 hm9e hn9e hD9 hm9 hl9
              go_wp2_with fail
              have hve := HV9.out
              rw [hve]
              clear hve
              refine (show Calls _ _ _ _ _ from HCL9.out).mono ?_
              rintro e wb ⟨rfl, okb, hbb⟩
              obtain ⟨⟨e0, e1, e2, e3⟩, _, hltb⟩ := (HBZ.out.below hbb).facts
              have HBb := hide (below_two HB9.out hbb)
              have HMY := hide (mayP_ok r9 (unI r9.items) (.slice i9 m9 j9) (.slice k9 n9 l9) true w wb okb (fair_of_may HM.out) (Its.below HI9.out hbb) (unI_rs _) (Txt.below HP9.out hbb) HM.out)
              clear hbb okb
              go_wp2_with fail
              refine (show Calls _ _ _ _ _ from HMY.out).mono ?_
              rintro e wc ⟨rfl, okc, hbc⟩
              have HBc := hide (below_two HBb.out hbc)
              clear hbc
              go_wp2_with fail
              refine (awake11_ok w wc okc HE.out).mono ?_
              rintro e wd ⟨rfl, okd, hbd⟩
              have HBd := hide (below_two HBc.out hbd)
              clear hbd
              go_wp2
              go_ret
              exact ⟨rfl, HBd.out⟩
            · clear hrw9 hb9 ok9 hi9 hp9 y9 hV9 hm9e hn9e hD9
              go_wp2_with fail
              have hve := HV9.out
              rw [hve]
              clear hve
              refine (awake11_ok w V9 HOK9.out HE.out).mono ?_
              rintro e wd ⟨rfl, okd, hbd⟩
              have HBd := hide (below_two HB9.out hbd)
              clear hbd
              go_wp2
              go_ret
              exact ⟨rfl, HBd.out⟩
          · clear hct
            go_wp2_with fail
            have hve := HV7.out
            rw [hve]
            clear hve
            refine (read_ok s w V7 HOK7.out HE.out hs9).mono ?_
            rintro e wa ⟨r9, z9, ps9, u9, v9, D9, rfl, htd9, hrw9, hD9, ok9, hb9⟩
            have hi9 : Its wa u9 (unI r9.items) := hrw9.unI
            have hp9 : Txt wa v9 r9.prof := hrw9.txt
            obtain ⟨i9, j9, rfl⟩ := hi9.form
            obtain ⟨k9, l9, rfl⟩ := hp9.form
            obtain ⟨m9, hm9e⟩ : ∃ k, (unI r9.items).length = k := ⟨_, rfl⟩
            obtain ⟨n9, hn9e⟩ : ∃ k, r9.prof.length = k := ⟨_, rfl⟩
            rw [hm9e] at hi9
            rw [hn9e] at hp9
            simp only [hm9e, hn9e]
            obtain ⟨V9, hV9⟩ : ∃ V, wa.alloc (.cells #[.string r9.pre, .slice i9 m9 j9, .slice k9 n9 l9, .int .i64 r9.pol] 25) = V := ⟨_, rfl⟩
            have y9 : Below wa.heap.size wa V9 := by rw [← hV9]; exact below_box _ _
            have HB9 := hide (below_two HB7.out (below_two hb9 y9))
            have HOK9 := hide (ok9.next y9)
            have HI9 := hide (Its.below hi9 y9)
            have HP9 := hide (Txt.below hp9 y9)
            have HM9 := hide hm9e
            have HN9 := hide hn9e
            have HV9 := hide hV9
            rcases htd9 with ⟨rfl, hm9, hl9⟩ | ⟨rfl, rfl, _⟩
            · have hx1 : layV r9 = s := by unfold layV; rw [if_pos hm9, hl9]; exact rfl
              have hx2 : layE r9 = 0 := by unfold layE; rw [if_pos hm9]
              have HCL9 := hide (lay_ok r9 (unI r9.items) (.slice i9 m9 j9) (.slice k9 n9 l9) s 0 w V9 HOK9.out (fair_of_may hm9) HI9.out (unI_rs _) HP9.out hx1 hx2)
              have HBZ : Hid (BoxP V9 wa.heap.size 25 r9.pre (.slice i9 m9 j9) (.slice k9 n9 l9) r9.pol) := by rw [← hV9]; exact BoxP.made _ _ _ _ _ _
              have HM := hide hm9
              clear hx1 hx2 hrw9 hb9 ok9 hi9 hp9 y9 hV9 hm9e hn9e hD9 hm9 hl9
              go_wp2_with fail
              have hve := HV9.out
              rw [hve]
              clear hve
              refine (show Calls _ _ _ _ _ from HCL9.out).mono ?_
              rintro e wb ⟨rfl, okb, hbb⟩
              obtain ⟨⟨e0, e1, e2, e3⟩, _, hltb⟩ := (HBZ.out.below hbb).facts
              have HBb := hide (below_two HB9.out hbb)
              have HMY := hide (mayP_ok r9 (unI r9.items) (.slice i9 m9 j9) (.slice k9 n9 l9) true w wb okb (fair_of_may HM.out) (Its.below HI9.out hbb) (unI_rs _) (Txt.below HP9.out hbb) HM.out)
              clear hbb okb
              go_wp2_with fail
              refine (show Calls _ _ _ _ _ from HMY.out).mono ?_
              rintro e wc ⟨rfl, okc, hbc⟩
              have HBc := hide (below_two HBb.out hbc)
              clear hbc
              go_wp2_with fail
              refine (awake11_ok w wc okc HE.out).mono ?_
              rintro e wd ⟨rfl, okd, hbd⟩
              have HBd := hide (below_two HBc.out hbd)
              clear hbd
              go_wp2
              go_ret
              exact ⟨rfl, HBd.out⟩
            · clear hrw9 hb9 ok9 hi9 hp9 y9 hV9 hm9e hn9e hD9
              go_wp2_with fail
              have hve := HV9.out
              rw [hve]
              clear hve
              refine (awake11_ok w V9 HOK9.out HE.out).mono ?_
              rintro e wd ⟨rfl, okd, hbd⟩
              have HBd := hide (below_two HB9.out hbd)
              clear hbd
              go_wp2
              go_ret
              exact ⟨rfl, HBd.out⟩
end Go.Proofs.YtmlkknbndglgaaaGreatDoor
