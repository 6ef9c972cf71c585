/- The walk of RegReads. -/
import Derived.Test.YtmlkknbndglgaaaGreatDoorMX
import Derived.Test.YtmlkknbndglgaaaGreatDoorMY
import Derived.Test.YtmlkknbndglgaaaGreatDoorMS
import Derived.Deep.RegionHeld
namespace Go.Proofs.YtmlkknbndglgaaaGreatDoor
open Go.RowKit

theorem told_fair {s : List UInt8} {q : Hog.RegP} {z : Int} (h : Told s q z) : FairP q := by
  rcases h with ⟨_, hm, _⟩ | ⟨_, rfl, _⟩
  · exact fair_of_may hm
  · exact none_fair

set_option maxRecDepth 100000 in
set_option maxHeartbeats 8000000 in
theorem reads_walk (s : ByteArray) (w : World) (hsh : w.ShapedOpen Tryz.prog) (hE : Errs w) (hsz : s.size ≤ maxLen) :
    Calls Tryz.prog 4 #[.string s] w fun e w' => e = .returned (.bool true) ∧ Below w.heap.size w w' := by
  have hszi : (s.size : Int) ≤ 9223372036854775807 := by unfold maxLen at hsz; omega
  have HOK : Hid (Ok w w) := Ok.start hsh
  have HE := hide hE
  clear hsh hE hsz
  go_enter Tryz.func4, Tryz.ntmps4
  by_cases hs4 : s.size ≤ 4000
  case neg =>
    have hs5 : (4000 : Int) < (s.size : Int) := by omega
    go_wp2_with fail
    refine (awake11_ok w w HOK.out HE.out).mono ?_
    rintro e w2 ⟨rfl, ok2, hb2⟩
    have HB2 := hide hb2
    clear hb2
    go_wp2
    go_ret
    exact ⟨rfl, HB2.out⟩
  case pos =>
    have hs5 : (s.size : Int) ≤ 4000 := by omega
    have hs9 : s.size < 900000 := by omega
    go_wp2_with fail
    refine (read_ok s w w HOK.out HE.out hs9).mono ?_
    rintro e w1 ⟨q, z, ps, u, v, D, rfl, htd, hrw, hD, ok1, hb1⟩
    obtain ⟨ua, uc, hu⟩ := hrw.own.form
    obtain ⟨va, vc, hv⟩ := hrw.prf.form
    obtain ⟨um, hum⟩ : ∃ k, ps.length = k := ⟨_, rfl⟩
    obtain ⟨vm, hvm⟩ : ∃ k, q.prof.length = k := ⟨_, rfl⟩
    rw [hum] at hu
    rw [hvm] at hv
    subst hu hv
    have hfp := told_fair htd
    have hum9 : um < 900000 := by have := rows_len hrw.names; have := hfp.len; omega
    obtain ⟨b3, hb3e⟩ : ∃ b, w1.heap.size = b := ⟨_, rfl⟩
    obtain ⟨V1, hV1⟩ : ∃ V, w1.alloc (.cells #[.string q.pre, .slice ua um uc, .slice va vm vc, .int .i64 q.pol] 25) = V := ⟨_, rfl⟩
    have y1 : Below w1.heap.size w1 V1 := by rw [← hV1]; exact below_box _ _
    have hV1s : V1.heap.size = b3 + 1 := by rw [← hV1, World.size_alloc, hb3e]
    have htop := hrw.top
    rw [hb3e] at htop
    have HTOP := hide htop
    have HFP := hide hfp
    have HTD := hide htd
    have HDD : Hid (w.heap.size ≤ D ∧ D ≤ b3) := ⟨hD, by rw [← hb3e]; exact hrw.low⟩
    have HRW := hide (hrw.below y1)
    have HB1 := hide (below_two hb1 y1)
    have HBX : Hid (BoxP V1 b3 25 q.pre (.slice ua um uc) (.slice va vm vc) q.pol) := by rw [← hV1, ← hb3e]; exact BoxP.made _ _ _ _ _ _
    have HV1 := hide hV1
    have HV1S := hide hV1s
    have HB3E := hide hb3e
    have HUM := hide hum
    have HVM := hide hvm
    clear hrw hD ok1 hb1 hfp y1 hV1 hV1s htop htd hum hvm
    go_wp2_with fail
    have hve := HV1.out
    try rw [hve]
    clear hve
    refine (rread_ok s V1 hs4).mono ?_
    rintro e w2 ⟨q2, z2, ps2, u2, v2, D2, rfl, htd2, hrw2, hD2, hb2⟩
    obtain ⟨rfl, rfl⟩ := told_one htd2 HTD.out
    obtain ⟨xa, xc, hu⟩ := hrw2.own.form
    obtain ⟨ya, yc, hv⟩ := hrw2.prf.form
    obtain ⟨xm, hxm⟩ : ∃ k, ps2.length = k := ⟨_, rfl⟩
    obtain ⟨ym, hym⟩ : ∃ k, q2.prof.length = k := ⟨_, rfl⟩
    rw [hxm] at hu
    rw [hym] at hv
    subst hu hv
    obtain ⟨b5, hb5e⟩ : ∃ b, w2.heap.size = b := ⟨_, rfl⟩
    obtain ⟨V2, hV2⟩ : ∃ V, w2.alloc (.cells #[.string q2.pre, .slice xa xm xc, .slice ya ym yc, .int .i64 q2.pol] 25) = V := ⟨_, rfl⟩
    have y2 : Below w2.heap.size w2 V2 := by rw [← hV2]; exact below_box _ _
    have HBX2 := hide ((HBX.out.below hb2).below y2)
    have HBY2 : Hid (BoxP V2 b5 25 q2.pre (.slice xa xm xc) (.slice ya ym yc) q2.pol) := by rw [← hV2, ← hb5e]; exact BoxP.made _ _ _ _ _ _
    have HR1 := hide ((HRW.out.below hb2).below y2)
    have HR2 := hide (hrw2.below y2)
    have HB2 := hide (below_two HB1.out (below_two hb2 y2))
    have HD2 : Hid (b3 + 1 ≤ D2) := by rw [← HV1S.out]; exact hD2
    have HB5 : Hid (b3 < b5) := by have := hb2.size; have := HV1S.out; show _ < _; omega
    have HV2 := hide hV2
    have HB5E := hide hb5e
    have HXM := hide hxm
    have HYM := hide hym
    have HS1 := hide (sameP_ok q2 q2 ua um uc va vm vc xa xm xc ya ym yc true V2 HR1.out.unI HR1.out.txt HR2.out.unI HR2.out.txt HFP.out (sameR_self _))
    obtain ⟨⟨c0, c1, c2, c3⟩, _, hl3⟩ := (HBX.out.below hb2).facts
    clear hrw2 hD2 hb2 y2 hV2 htd2 HBX HRW HB1 hxm hym HV1 hb5e
    go_wp2_with fail
    have hve := HV2.out
    have hbe := HB5E.out
    rw [hve, hbe]
    clear hve hbe c0 c1 c2 c3 hl3
    refine (show Calls _ _ _ _ _ from HS1.out).mono ?_
    rintro e w3 ⟨rfl, hb3⟩
    have HBX3 := hide (HBX2.out.below hb3)
    have HBY3 := hide (HBY2.out.below hb3)
    have HR13 := hide (HR1.out.below hb3)
    have HR23 := hide (HR2.out.below hb3)
    have HB3 := hide (below_two HB2.out hb3)
    clear hb3 HBX2 HBY2 HR1 HR2 HB2 HS1
    go_wp2_with fail
    refine (num_ok z2 w3).mono ?_
    rintro e w' ⟨rfl, hww⟩
    have hww2 := hww.symm
    subst hww2
    clear hww
    obtain ⟨⟨c0, c1, c2, c3⟩, _, hl3⟩ := HBX3.out.facts
    go_wp2_with fail
    refine (overP_ok D b3 w3 ps (.slice ua um uc) (.slice va vm vc) q2.items q2.prof HR13.out (by rw [HUM.out]; exact hum9) (fun i hi => (HFP.out.item i hi).refs) HTOP.out.1 HTOP.out.2.1).mono ?_
    rintro e w4 ⟨rfl, hb4, hov, hup⟩
    have hkb3 : w4.heap[b3]? = w3.heap[b3]? := hup b3 (Nat.le_refl _) HBX3.out.facts.2.2
    have hkb5 : w4.heap[b5]? = w3.heap[b5]? := hup b5 (by have := HB5.out; omega) HBY3.out.facts.2.2
    have HBX4 : Hid (BoxP w4 b3 25 q2.pre (.slice ua um uc) (.slice va vm vc) q2.pol) := by show BoxP _ _ _ _ _ _ _; unfold BoxP; rw [hkb3]; exact HBX3.out
    have HBY4 : Hid (BoxP w4 b5 25 q2.pre (.slice xa xm xc) (.slice ya ym yc) q2.pol) := by show BoxP _ _ _ _ _ _ _; unfold BoxP; rw [hkb5]; exact HBY3.out
    have HR24 := hide (HR23.out.still hb4.size (fun k h1 h2 => hup k (by have := HD2.out; omega) h2))
    have HB4 := hide (HB3.out.trans (hb4.mono HDD.out.1))
    have HPV := hide hov
    have HD4 : Hid (D ≤ w4.heap.size) := by have h1 := HR13.out.low; have h2 := hb4.size; show _ ≤ _; omega
    clear hb4 hov hup hkb3 hkb5 c0 c1 c2 c3 hl3 HBX3 HBY3 HR13 HR23 HB3
    obtain ⟨⟨c0, c1, c2, c3⟩, _, hl3⟩ := HBX4.out.facts
    go_wp2_with fail
    refine (overT_ok (.slice va vm vc) q2.prof D w4 HPV.out HD4.out HFP.out.plen).mono ?_
    rintro e w5 ⟨rfl, hg5⟩
    have HBX5 := hide (HBX4.out.kept hg5 (fun e => by have := HTOP.out.2.2 b3 e.symm; omega))
    have HBY5 := hide (HBY4.out.kept hg5 (fun e => by have := HTOP.out.2.2 b5 e.symm; have := HB5.out; omega))
    have HR25 := hide (HR24.out.kept hg5 (fun k e => by have := HTOP.out.2.2 k e; have := HD2.out; omega))
    have HB5W := hide (HB4.out.grown hg5 (by have := HD4.out; have := HDD.out.1; omega) (fun k e => by have := (HPV.out.lt k e).1; have := HDD.out.1; omega))
    clear hg5 c0 c1 c2 c3 hl3 HBX4 HBY4 HR24 HB4 HPV HD4
    go_wp2_with fail
    refine (read_ok s w w5 (HOK.out.step HB5W.out) HE.out hs9).mono ?_
    rintro e w6 ⟨q7, z7, ps7, u7, v7, D7, rfl, htd7, hrw7, hD7, ok7, hb7⟩
    obtain ⟨rfl, rfl⟩ := told_one htd7 HTD.out
    obtain ⟨ra, rc, hu⟩ := hrw7.own.form
    obtain ⟨ta, tc, hv⟩ := hrw7.prf.form
    obtain ⟨rm, hrm⟩ : ∃ k, ps7.length = k := ⟨_, rfl⟩
    obtain ⟨tm, htm⟩ : ∃ k, q7.prof.length = k := ⟨_, rfl⟩
    rw [hrm] at hu
    rw [htm] at hv
    subst hu hv
    have HBX6 := hide (HBX5.out.below hb7)
    have HBY6 := hide (HBY5.out.below hb7)
    have HR26 := hide (HR25.out.below hb7)
    have HB6 := hide (below_two HB5W.out hb7)
    have HR36 := hide hrw7
    have HD7 : Hid (b3 < D7) := by have := HBX5.out.facts.2.2; show _ < _; omega
    obtain ⟨⟨c0, c1, c2, c3⟩, ⟨f0, f1, f2, f3⟩, hl3⟩ := HBX6.out.facts
    obtain ⟨⟨d0, d1, d2, d3⟩, _, hl5⟩ := HBY6.out.facts
    have hne : b3 ≠ b5 := by have := HB5.out; omega
    have hne' : b5 ≠ b3 := fun e => hne e.symm
    obtain ⟨V6, hV6⟩ : ∃ V, setP w6 b3 q7.pre (.slice ra rm rc) (.slice ta tm tc) q7.pol = V := ⟨_, rfl⟩
    have hgw : w6.grownBy V6 (some b3) := by rw [← hV6]; exact setP_grown _ _ _ _ _ _
    have hHV6 : Hid ((((w6.setCell ⟨b3, 0, none⟩ (.string q7.pre)).setCell ⟨b3, 1, none⟩ (.slice ra rm rc)).setCell ⟨b3, 2, none⟩ (.slice ta tm tc)).setCell ⟨b3, 3, none⟩ (.int .i64 q7.pol) = V6) := hV6
    have HR27 := hide (HR26.out.kept hgw (fun k e => by have := Option.some.inj e; have := HD2.out; omega))
    have HR37 := hide (HR36.out.kept hgw (fun k e => by have := Option.some.inj e; have := HD7.out; omega))
    have HB7 := hide (HB6.out.grown hgw (by have := HB6.out.size; omega) (fun k e => by have := Option.some.inj e; have := HDD.out; omega))
    have HS2 := hide (sameP_ok q7 q7 ra rm rc ta tm tc xa xm xc ya ym yc true V6 HR37.out.unI HR37.out.txt HR27.out.unI HR27.out.txt HFP.out (sameR_self _))
    clear htd7 hrw7 hD7 ok7 hb7 hV6 hgw hrm htm HBX5 HBY5 HR25 HB5W
    go_wp2_with fail
    have hve := hHV6.out
    rw [hve]
    clear hve
    refine (show Calls _ _ _ _ _ from HS2.out).mono ?_
    rintro e w8 ⟨rfl, hb8⟩
    have HB8 := hide (below_two HB7.out hb8)
    clear hb8
    go_wp2_with fail
    refine (awake11_ok w w8 (HOK.out.step HB8.out) HE.out).mono ?_
    rintro e w9 ⟨rfl, ok9, hb9⟩
    have HB9 := hide (below_two HB8.out hb9)
    clear hb9
    go_wp2
    go_ret
    exact ⟨rfl, HB9.out⟩
end Go.Proofs.YtmlkknbndglgaaaGreatDoor
