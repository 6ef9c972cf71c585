/- The walk of OrderTells. -/
import Derived.Test.YticpljjbnfimkaaQT
import Derived.Test.YticpljjbnfimkaaQO
namespace Go.Proofs.Yticpljjbnfimkaa
open Go.RowKit

theorem rof_is (ao : Option Addr) (n c : Nat) (ps : List Pr) (a : Option (List ByteArray)) (w : World) (hO : OrdO (itsOf ps) a) (ha : ArgS w ao n c ps) (h9 : n < 900) (hr : ∀ i ∈ itsOf ps, i.2.1.length ≤ 900) :
    Calls Try.prog 10 #[.slice ao n c] w fun e w' => ROut w n a e w' ∧ Below w.heap.size w w' := by
  refine (rof_any ao n c ps w ha h9 hr).mono ?_
  rintro e w' ⟨a', h1, h2, h3⟩
  rw [h1.one hO] at h2
  exact ⟨h2, h3⟩
set_option maxRecDepth 100000 in
set_option maxHeartbeats 8000000 in
theorem tells_walk (ao : Option Addr) (n c : Nat) (ps : List Pr) (w : World) (ha : ArgS w ao n c ps) (hn : n ≤ maxLen) (hL : Lens (itsOf ps)) :
    Calls Try.prog 3 #[.slice ao n c] w fun e w' => e = .returned (.bool true) ∧ Below w.heap.size w w' := by
  have HA := hide ha
  have HL := hide hL
  have HN : Hid (ps.length = n) := ha.len
  have HNI : Hid ((itsOf ps).length = n) := by rw [its_len]; exact HN
  have HIT := hide ha.sls.its
  obtain ⟨g, hg⟩ : ∃ g, greatI (itsOf ps) = g := ⟨_, rfl⟩
  have HG := hide hg
  clear ha hL hg
  go_enter Try.func3, Try.ntmps3
  go_wp2_with fail
  refine (greatI_ok _ (itsOf ps) g w HIT.out (by rw [HNI.out]; exact hn) HL.out HG.out).mono ?_
  rintro e w1 ⟨rfl, rfl⟩
  cases g with
  | true =>
    go_wp2_with fail
    refine (awake10_ok w1).mono ?_
    rintro e w2 ⟨rfl, hb2⟩
    have HB2 := hide hb2
    clear hb2
    go_wp2_with fail
    go_ret
    exact ⟨rfl, HB2.out⟩
  | false =>
    obtain ⟨h10, hrf⟩ := bigI_refs HG.out
    rw [HNI.out] at h10
    have HRO : Hid (∀ i ∈ itsOf ps, i.2.1.length ≤ 900) := hide fun i hi => by have := (hrf i hi).1; omega
    clear hrf hn
    obtain ⟨a, hoa⟩ := ordO_ex (itsOf ps)
    have HOA := hide hoa
    clear hoa
    cases a with
    | none =>
      go_wp2_with fail
      refine (of_none _ (itsOf ps) w1 HOA.out HIT.out (by rw [HNI.out]; omega) HRO.out).mono ?_
      rintro e w2 ⟨rfl, hb2⟩
      have HB2 := hide hb2
      clear hb2
      go_wp2_with fail
      refine (rof_is ao n c ps none w2 HOA.out (HA.out.below HB2.out) (by omega) HRO.out).mono ?_
      rintro e w3 ⟨he, hb3⟩
      have he2 : e = .returned (.tuple #[.slice none 0 0, .bool false]) := he
      subst he2
      have HB3 := hide (below_two HB2.out hb3)
      clear hb3 he
      go_wp2_with fail
      refine (ranks_none _ (itsOf ps) w3 HOA.out (HA.out.below HB3.out).sls.its (by rw [HNI.out]; omega) HRO.out).mono ?_
      rintro e w4 ⟨rfl, hb4⟩
      have HB4 := hide (below_two HB3.out hb4)
      clear hb4
      go_wp2_with fail
      refine (same_any _ _ [] [] w4 (Txt.nil _) (Txt.nil _) (by decide)).mono ?_
      rintro e w5 ⟨rfl, hb5⟩
      have HB5 := hide (below_two HB4.out hb5)
      have hd : decide (([] : List ByteArray) = []) = true := decide_eq_true rfl
      rw [hd]
      clear hb5 hd
      go_wp2_with fail
      go_loopw [8] (fun iv wr => iv = .int .i64 0 ∧ wr = w5) (fun _ _ => 0)
      case atStart => exact ⟨rfl, rfl⟩
      case round =>
        obtain ⟨rfl, rfl⟩ := hrel
        go_wp2_with fail
        refine (overT_none wr).mono ?_
        rintro e w6 ⟨rfl, hg6⟩
        have HB6 := hide (below_two HB5.out ((Below.refl wr.heap.size wr).grown hg6 (Nat.le_refl _) (fun k e => by cases e)))
        clear hg6
        go_wp2_with fail
        refine (overZ_none w6).mono ?_
        rintro e w7 ⟨rfl, hg7⟩
        have HB7 := hide (below_two HB6.out ((Below.refl w6.heap.size w6).grown hg7 (Nat.le_refl _) (fun k e => by cases e)))
        clear hg7
        go_wp2_with fail
        refine (of_none _ (itsOf ps) w7 HOA.out (HA.out.below HB7.out).sls.its (by rw [HNI.out]; omega) HRO.out).mono ?_
        rintro e w8 ⟨rfl, hb8⟩
        have HB8 := hide (below_two HB7.out hb8)
        clear hb8
        go_wp2_with fail
        refine (same_any _ _ [] [] w8 (Txt.nil _) (Txt.nil _) (by decide)).mono ?_
        rintro e w9 ⟨rfl, hb9⟩
        have HB9 := hide (below_two HB8.out hb9)
        have hd : decide (([] : List ByteArray) = []) = true := decide_eq_true rfl
        rw [hd]
        clear hb9 hd
        go_wp2_with fail
        refine (awake10_ok _).mono ?_
        rintro e w10 ⟨rfl, hb10⟩
        have HB10 := hide (below_two HB9.out hb10)
        clear hb10
        go_wp2_with fail
        go_ret
        exact ⟨rfl, HB10.out⟩
    | some o =>
      go_wp2_with fail
      refine (of_some _ (itsOf ps) o n w1 HOA.out HNI.out HIT.out (by omega) HRO.out).mono ?_
      rintro e w2 ⟨oa, oc, rfl, ho2, hol, hb2⟩
      have HOL := hide hol
      have HO2 := hide ho2
      have HB2 := hide hb2
      clear hb2 ho2 hol
      go_wp2_with fail
      refine (rof_is ao n c ps (some o) w2 HOA.out (HA.out.below HB2.out) (by omega) HRO.out).mono ?_
      rintro e w3 ⟨he, hb3⟩
      obtain ⟨ba, bc, rfl, ho3, _⟩ := he
      have HB3 := hide (below_two HB2.out hb3)
      have HO3 := hide ho3
      have HO23 := hide (HO2.out.below hb3)
      have HS23 := hide hb3.size
      clear hb3 ho3
      go_wp2_with fail
      refine (ranks_some _ (itsOf ps) o n w3 HOA.out HNI.out (HA.out.below HB3.out).sls.its (by omega) HRO.out).mono ?_
      rintro e w4 ⟨ra, rc, R, rfl, hr4, hro, hb4⟩
      have HB4 := hide (below_two HB3.out hb4)
      have HRS := hide hb4.size
      have HS12 := hide HB2.out.size
      have HR4 := hide hr4
      have HRK := hide hro
      have HO34 := hide (HO3.out.below hb4)
      have HO24 := hide (HO23.out.below hb4)
      have HA2 : Hid (∀ k, (Value.slice oa n oc).ownBlock = some k → w1.heap.size ≤ k ∧ k < w2.heap.size) := hide fun k e => HO2.out.lt k e
      have HA3 : Hid (∀ k, (Value.slice ba n bc).ownBlock = some k → w2.heap.size ≤ k ∧ k < w3.heap.size) := hide fun k e => HO3.out.lt k e
      have HA4 : Hid (∀ k, (Value.slice ra n rc).ownBlock = some k → w3.heap.size ≤ k ∧ k < w4.heap.size) := hide fun k e => HR4.out.lt k e
      clear hb4 hr4 hro
      have hnn : ((n : Int) != (n : Int)) = false := by simp
      go_wp2_with fail
      refine (same_any _ _ o o w4 HO24.out.txt HO34.out.txt (by rw [HOL.out]; omega)).mono ?_
      rintro e w5 ⟨rfl, hb5⟩
      have hd : decide (o = o) = true := decide_eq_true rfl
      rw [hd]
      have HB5 := hide (below_two HB4.out hb5)
      have HR5 := hide (HR4.out.below hb5)
      have HO35 := hide (HO34.out.below hb5)
      have HO25 := hide (HO24.out.below hb5)
      have HS45 := hide hb5.size
      clear hb5 hd hnn HB3 HB4 HO23 HO24 HO34
      go_wp2_with fail
      go_loopw [8] (fun iv wr => ∃ k : Nat, k ≤ n ∧ iv = .int .i64 k ∧ Hid (Below w5.heap.size w5 wr)) (fun iv _ => n - (intOf iv).toNat)
      case atStart => exact ⟨0, Nat.zero_le _, rfl, hide (Below.refl _ _)⟩
      case round =>
        rename World => wx
        obtain ⟨k, hk, rfl, HB⟩ := hrel
        by_cases hlt : k < n
        · obtain ⟨p, hp⟩ : ∃ p, ps[k]? = some p := ⟨ps[k]'(by have := HN.out; omega), List.getElem?_eq_some_iff.2 ⟨_, rfl⟩⟩
          have hpi : (itsOf ps)[k]? = some p.2 := by unfold itsOf; rw [List.getElem?_map, hp]; rfl
          obtain ⟨b, o', rfl, q0'⟩ : ∃ b o', ao = some ⟨b, o', none⟩ ∧ w1.cell? ⟨b, o' + k * 3, none⟩ = some (.string p.2.1) := by
            rcases HA.out.sls with ⟨e, _⟩ | ⟨b, o', c', e, _, hr⟩
            · rw [e] at hp; simp at hp
            · simp only [Value.slice.injEq] at e
              exact ⟨b, o', e.1, (hr.2 k p hp).c0⟩
          have q0 := ((below_two HB5.out HB.out).cell (p := ⟨b, o' + k * 3, none⟩) (addr_plain q0').2).trans q0'
          obtain ⟨kk, hkk, hokk⟩ := HRK.out.2 k p.2 hpi
          obtain ⟨rg, rfl, q1⟩ := (HR5.out.below HB.out).at' hkk
          obtain ⟨bb, bo, rfl, q2⟩ : ∃ bb bo, ba = some ⟨bb, bo, none⟩ ∧ wx.cell? ⟨bb, bo + kk, none⟩ = some (.string p.2.1) := by
            rcases (HO35.out.below HB.out).txt with ⟨e, _⟩ | ⟨bb, bo, c', e, _, _, hc⟩
            · rw [e] at hokk; simp at hokk
            · simp only [Value.slice.injEq] at e
              exact ⟨bb, bo, e.1, hc kk p.2.1 hokk⟩
          have hkn : kk < n := by have := (List.getElem?_eq_some_iff.1 hokk).1; have := HOL.out; omega
          have hki : (k : Int) < (n : Int) := by omega
          have hk0 : (0 : Int) ≤ (kk : Int) := by omega
          have hkni : (kk : Int) < (n : Int) := by omega
          have hd1 : decide ((kk : Int) < 0) = false := by rw [decide_eq_false_iff_not]; omega
          have hd2 : decide ((n : Int) ≤ (kk : Int)) = false := by rw [decide_eq_false_iff_not]; omega
          have hq : (p.2.1.toList == p.2.1.toList) = true := beq_self_eq_true _
          generalize p.2.1 = nm at *
          clear hp hpi q0' hkk hokk
          go_wp2
          go_quiet (fail)
          go_wp2
          go_roundw
          case rel => exact ⟨k + 1, by omega, by go_num, hide (below_drewN HB.out _)⟩
          case measure => simp [intOf]; omega
        · have hki : (n : Int) ≤ (k : Int) := by omega
          have HOX := hide (HO25.out.below HB.out)
          have HBX := hide (HO35.out.below HB.out)
          have HRX := hide (HR5.out.below HB.out)
          have HBW := hide (below_two HB5.out HB.out)
          have HS5 := hide HB.out.size
          have HSW := hide HBW.out.size
          clear HO25 HO35 HR5
          go_wp2_with fail
          refine (overT_ok _ o w1.heap.size wx HOX.out HSW.out (by rw [HOL.out]; omega)).mono ?_
          rintro e w6 ⟨rfl, hg6⟩
          have HB6 := hide (HBW.out.grown hg6 HSW.out (fun j e => (HA2.out j e).1))
          have HB36 : Hid (Own w2.heap.size w6 (.slice ba n bc) o) := hide (World.ownsRow.kept HBX.out hg6 (by
            cases hh : (Value.slice ba n bc).ownBlock with
            | none => exact .inl rfl
            | some j => exact .inr fun e => by have h1 := HA3.out j hh; have h2 := HA2.out j e.symm; omega))
          have HR6 : Hid (OwnZ w3.heap.size w6 (.slice ra n rc) (numK R)) := hide (World.ownsRow.kept HRX.out hg6 (by
            cases hh : (Value.slice ra n rc).ownBlock with
            | none => exact .inl rfl
            | some j => exact .inr fun e => by have h1 := HA4.out j hh; have h2 := HA2.out j e.symm; have := HS23.out; omega))
          have HS6 := hide hg6.size
          clear hg6
          go_wp2_with fail
          refine (overZ_ok _ (numK R) w3.heap.size w6 HR6.out (by have h1 := HS6.out; have h2 := HS5.out; have h3 := HS45.out; have h4 := HRS.out; omega) (by rw [nums_len, HRK.out.1, HNI.out]; omega)).mono ?_
          rintro e w7 ⟨rfl, hg7⟩
          have HB7 := hide (HB6.out.grown hg7 (Nat.le_trans HSW.out HS6.out) (fun j e => by have h1 := HA4.out j e; have := HS23.out; have := HS12.out; omega))
          have HB37 : Hid (Txt w7 (.slice ba n bc) o) := hide (Own.txt (World.ownsRow.kept HB36.out hg7 (by
            cases hh : (Value.slice ba n bc).ownBlock with
            | none => exact .inl rfl
            | some j => exact .inr fun e => by have h1 := HA3.out j hh; have h2 := HA4.out j e.symm; omega)))
          clear hg7
          go_wp2_with fail
          refine (of_some _ (itsOf ps) o n w7 HOA.out HNI.out (HA.out.below HB7.out).sls.its (by omega) HRO.out).mono ?_
          rintro e w8 ⟨xa, xc, rfl, ho8, _, hb8⟩
          have HO8 := hide ho8.txt
          have HB8 := hide (below_two HB7.out hb8)
          have HB38 := hide (HB37.out.below hb8)
          clear hb8 ho8
          go_wp2_with fail
          refine (same_any _ _ o o w8 HO8.out HB38.out (by rw [HOL.out]; omega)).mono ?_
          rintro e w9 ⟨rfl, hb9⟩
          have HB9 := hide (below_two HB8.out hb9)
          have hd : decide (o = o) = true := decide_eq_true rfl
          rw [hd]
          clear hb9 hd
          go_wp2_with fail
          refine (awake10_ok _).mono ?_
          rintro e w10 ⟨rfl, hb10⟩
          have HB10 := hide (below_two HB9.out hb10)
          clear hb10
          go_wp2_with fail
          go_ret
          exact ⟨rfl, HB10.out⟩
end Go.Proofs.Yticpljjbnfimkaa
