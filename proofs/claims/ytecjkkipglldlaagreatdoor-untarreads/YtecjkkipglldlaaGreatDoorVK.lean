/- The walk of the document's own Read, chapter 14. -/
import Derived.Test.YtecjkkipglldlaaGreatDoorJ21
import Derived.Test.YtecjkkipglldlaaGreatDoorVF
import Derived.Test.YtecjkkipglldlaaGreatDoorVJ
import Derived.Test.YtecjkkipglldlaaGreatDoorHK
import Derived.Test.YtecjkkipglldlaaGreatDoorUC
import Derived.Deep.DeepCutAuto
namespace Go.Proofs.YtecjkkipglldlaaGreatDoor
open Go.RowKit

theorem str_test (z l : List UInt8) (b : Bool) (h : decide (z = l) = b) : ((Hog.mk z).toList == (Hog.mk l).toList) = b := by
  rw [Hog.mk_toList, Hog.mk_toList, ← h, Bool.eq_iff_iff, beq_iff_eq, decide_eq_true_eq]
theorem nil_test (x : List UInt8) (b : Bool) (h : decide (x = []) = b) : (Hog.mk x).toList.isEmpty = b := by
  rw [Hog.mk_toList, ← h]
  cases x <;> rfl
theorem fullT (m : Nat) : ((m : Int) + 511).tdiv 512 * 512 = (Hog.fullN m : Int) := by
  rw [Int.tdiv_eq_ediv_of_nonneg (by omega)]
  unfold Hog.fullN
  omega
theorem size_nodes {T1 : List Nd} {x : Nd} {M : Nat} (h : ∀ y ∈ T1, y.1.size ≤ M ∧ y.2.2.size ≤ M) (hx : x.1.size ≤ M ∧ x.2.2.size ≤ M) : ∀ y ∈ T1 ++ [x], y.1.size ≤ M ∧ y.2.2.size ≤ M := fun y hy => by
  rcases List.mem_append.1 hy with hy | hy
  · exact h y hy
  · rw [List.mem_singleton.1 hy]; exact hx

set_option maxRecDepth 100000 in
set_option maxHeartbeats 16000000 in
theorem rutread_ok (ao : Option Addr) (n c : Nat) (l : List UInt8) (T : List Nd) (E : Int) (q : Nat) (w0 w : World) (hok : Ok w0 w) (ha : ArgB w ao n c l) (hn : n ≤ 40000) (hT : Hog.TarIs l T E) (hq : T.length = q) :
    Calls Tryz.prog 9 #[.slice ao n c] w fun e w' => ∃ b c', e = .returned (.tuple #[.slice b q c', .int .i64 E]) ∧ OwnN w.heap.size w' (.slice b q c') T ∧ Ok w0 w' ∧ Below w.heap.size w w' := by
  have hcap := ha.cap
  have HLN := hide ha.len
  have HA := hide ha
  have HOK := hide hok
  have HT := hide hT
  have HQ := hide hq
  clear hok ha hT hq
  go_enter Tryz.func9, Tryz.ntmps9
  go_wp2
  go_loopw [4, 5, 6, 7] (fun t at' p q wr => ∃ (T1 : List Nd) (k a : Nat) (b : Option Addr) (c2 : Nat) (lp lq : List UInt8), t = .slice b k c2 ∧ at' = .int .i64 a ∧ p = .string (Hog.mk lp) ∧ q = .string (Hog.mk lq) ∧ k * 512 ≤ a ∧ a ≤ n + 511 ∧ lp.length ≤ n ∧ lq.length ≤ n ∧ Hid (T1.length = k) ∧ Hid (OwnN w.heap.size wr (.slice b k c2) T1) ∧ Hid (Hog.UpTo l T1 a lp lq) ∧ Hid (∀ y ∈ T1, y.1.size ≤ n + 1000 ∧ y.2.2.size ≤ n + 1000) ∧ Below w.heap.size w wr) (fun _ at' _ _ _ => n + 1024 - (intOf at').toNat)
  case atStart => exact ⟨[], 0, 0, none, 0, [], [], rfl, rfl, rfl, rfl, by omega, by omega, Nat.zero_le _, Nat.zero_le _, hide rfl, hide (OwnN.nil _ _), hide (Hog.upto_start l), hide (fun y hy => by cases hy), Below.refl _ _⟩
  case round =>
    obtain ⟨T1, k, a, b, c2, lp, lq, rfl, rfl, rfl, rfl, hka, han, hlp, hlq, HL, HO, HU, HSZ, hbl⟩ := hrel
    have HBL := hide hbl
    have hsr : w.heap.size ≤ wr.heap.size := hbl.size
    have HOKR := hide (HOK.out.next hbl)
    have hk4 : (k : Int) ≤ 400 := by omega
    clear hbl
    by_cases hs : n < a + 512
    · have hs' : ¬ ((n : Int) - (a : Int) ≥ 512) := by omega
      have HALL := hide (Hog.upto_short HU.out (by rw [HLN.out]; exact hs))
      clear hs
      have HSH : Hid (ShortT T1) := hide ⟨by rw [HL.out]; omega, fun y hy => by have := HSZ.out y hy; omega⟩
      obtain ⟨yy, hyy⟩ : ∃ y, mayN T1 = y := ⟨_, rfl⟩
      have HY := hide hyy
      obtain ⟨i1, i2, i3⟩ := Hog.TarIs.all HALL.out hyy
      have HI1 := hide i1
      have HI2 := hide i2
      have HI3 := hide i3
      clear hyy i1 i2 i3
      cases yy with
      | false =>
        obtain ⟨rfl, rfl⟩ := HT.out.one (HI2.out rfl)
        obtain rfl : q = 0 := HQ.out.symm
        go_wp2_with fail
        refine (rtlay_bad _ T1 w0 wr HOKR.out HO.out.nods HSH.out (by rw [HL.out]; omega) HY.out).mono ?_
        rintro e wz ⟨rfl, okz, hbz⟩
        have HBZ := hide (below_two HBL.out hbz)
        clear hbz
        go_wp2
        go_ret2
        exact ⟨none, 0, rfl, OwnN.nil _ _, okz, HBZ.out⟩
      | true =>
        obtain ⟨z, hz⟩ : ∃ z, Hog.tarL T1 = z := ⟨_, rfl⟩
        obtain ⟨mz, hmz⟩ : ∃ m, z.length = m := ⟨_, rfl⟩
        obtain ⟨rz, hrz⟩ : ∃ r, decide (z = l) = r := ⟨_, rfl⟩
        have HZ := hide hz
        have HM := hide hmz
        have HR := hide hrz
        have htest := str_test z l rz hrz
        clear hz hmz hrz
        go_wp2_with fail
        refine (rtlay_good _ T1 z mz w0 wr HOKR.out HO.out.nods HSH.out HY.out HZ.out HM.out).mono ?_
        rintro e wz ⟨bz, cz, rfl, hoz, okz, hbz⟩
        have HNZ := hide (HO.out.below hbz)
        have HBZ := hide (below_two HBL.out hbz)
        have hc1 := str_bytes hoz.argAt.2
        have hc2 := str_bytes (HA.out.below HBZ.out)
        clear hoz hbz
        cases rz with
        | false =>
          obtain ⟨rfl, rfl⟩ := HT.out.one (HI3.out (by rw [HZ.out]; exact of_decide_eq_false HR.out))
          obtain rfl : q = 0 := HQ.out.symm
          go_wp2
          go_ret2
          exact ⟨none, 0, rfl, OwnN.nil _ _, okz, HBZ.out⟩
        | true =>
          obtain ⟨e1, rfl⟩ := HT.out.one (HI1.out (by trivial) (by rw [HZ.out]; exact of_decide_eq_true HR.out))
          obtain rfl : k = q := by rw [← HL.out, ← HQ.out, e1]
          have HN3 := hide HNZ.out
          rw [← e1] at HN3
          clear e1
          go_wp2
          go_ret2
          exact ⟨_, _, rfl, HN3.out, okz, HBZ.out⟩
    · have hs' : (n : Int) - (a : Int) ≥ 512 := by omega
      have hsn : a + 512 ≤ n := by omega
      obtain ⟨bb, oo, rfl, hbb⟩ := HA.out.plain (by omega)
      obtain ⟨r, hr⟩ : ∃ r, Hog.readH ((l.drop a).take 512) = r := ⟨_, rfl⟩
      have HR := hide hr
      have HAR := hide ((HA.out.below HBL.out).part a 512 (by omega) (by omega))
      have hca : ¬ ((c : Int) = (a : Int)) := by omega
      have g1 : (a : Int) + 512 ≤ (c : Int) := by omega
      clear hs hr
      go_wp2_with fail
      refine (rread_ok _ 512 _ ((l.drop a).take 512) r w0 wr HOKR.out HAR.out HR.out).mono ?_
      rintro e w1 ⟨he, ok1, hb1⟩
      have HO1 := hide (HO.out.below hb1)
      have HB1 := hide (below_two HBL.out hb1)
      have hs1 : w.heap.size ≤ w1.heap.size := Nat.le_trans hsr hb1.size
      have HOK1 := hide ok1
      clear hb1 ok1 HAR HO HBL HOKR
      rcases r with _ | ⟨nm, kd, sz, lk⟩
      · simp only [outR] at he
        subst he
        have HALL := hide (Hog.upto_none HU.out HR.out)
        have HSH : Hid (ShortT T1) := hide ⟨by rw [HL.out]; omega, fun y hy => by have := HSZ.out y hy; omega⟩
        obtain ⟨yy, hyy⟩ : ∃ y, mayN T1 = y := ⟨_, rfl⟩
        have HY := hide hyy
        obtain ⟨i1, i2, i3⟩ := Hog.TarIs.all HALL.out hyy
        have HI1 := hide i1
        have HI2 := hide i2
        have HI3 := hide i3
        clear hyy i1 i2 i3
        cases yy with
        | false =>
          obtain ⟨rfl, rfl⟩ := HT.out.one (HI2.out rfl)
          obtain rfl : q = 0 := HQ.out.symm
          go_wp2_with fail
          refine (rtlay_bad _ T1 w0 w1 HOK1.out HO1.out.nods HSH.out (by rw [HL.out]; omega) HY.out).mono ?_
          rintro e wz ⟨rfl, okz, hbz⟩
          have HBZ := hide (below_two HB1.out hbz)
          clear hbz
          go_wp2
          go_ret2
          exact ⟨none, 0, rfl, OwnN.nil _ _, okz, HBZ.out⟩
        | true =>
          obtain ⟨z, hz⟩ : ∃ z, Hog.tarL T1 = z := ⟨_, rfl⟩
          obtain ⟨mz, hmz⟩ : ∃ m, z.length = m := ⟨_, rfl⟩
          obtain ⟨rz, hrz⟩ : ∃ r, decide (z = l) = r := ⟨_, rfl⟩
          have HZ := hide hz
          have HM := hide hmz
          have HR := hide hrz
          have htest := str_test z l rz hrz
          clear hz hmz hrz
          go_wp2_with fail
          refine (rtlay_good _ T1 z mz w0 w1 HOK1.out HO1.out.nods HSH.out HY.out HZ.out HM.out).mono ?_
          rintro e wz ⟨bz, cz, rfl, hoz, okz, hbz⟩
          have HNZ := hide (HO1.out.below hbz)
          have HBZ := hide (below_two HB1.out hbz)
          have hc1 := str_bytes hoz.argAt.2
          have hc2 := str_bytes (HA.out.below HBZ.out)
          clear hoz hbz
          cases rz with
          | false =>
            obtain ⟨rfl, rfl⟩ := HT.out.one (HI3.out (by rw [HZ.out]; exact of_decide_eq_false HR.out))
            obtain rfl : q = 0 := HQ.out.symm
            go_wp2
            go_ret2
            exact ⟨none, 0, rfl, OwnN.nil _ _, okz, HBZ.out⟩
          | true =>
            obtain ⟨e1, rfl⟩ := HT.out.one (HI1.out (by trivial) (by rw [HZ.out]; exact of_decide_eq_true HR.out))
            obtain rfl : k = q := by rw [← HL.out, ← HQ.out, e1]
            have HN3 := hide HNZ.out
            rw [← e1] at HN3
            clear e1
            go_wp2
            go_ret2
            exact ⟨_, _, rfl, HN3.out, okz, HBZ.out⟩
      · obtain ⟨m, rfl, hm⟩ := head_size HR.out
        have hnl : nm.length ≤ 100 ∧ lk.length ≤ 100 := ⟨(Hog.fillB_of (Hog.read_sound HR.out).1.name).1, (Hog.fillB_of (Hog.read_sound HR.out).1.link).1⟩
        simp only [outR] at he
        subst he
        by_cases ho : n < a + 512 + m
        · have ho' : (m : Int) > (n : Int) - (a : Int) - 512 := by omega
          have HALL := hide (Hog.upto_over HU.out HR.out (by rw [HLN.out]; exact ho))
          clear ho
          have HSH : Hid (ShortT T1) := hide ⟨by rw [HL.out]; omega, fun y hy => by have := HSZ.out y hy; omega⟩
          obtain ⟨yy, hyy⟩ : ∃ y, mayN T1 = y := ⟨_, rfl⟩
          have HY := hide hyy
          obtain ⟨i1, i2, i3⟩ := Hog.TarIs.all HALL.out hyy
          have HI1 := hide i1
          have HI2 := hide i2
          have HI3 := hide i3
          clear hyy i1 i2 i3
          cases yy with
          | false =>
            obtain ⟨rfl, rfl⟩ := HT.out.one (HI2.out rfl)
            obtain rfl : q = 0 := HQ.out.symm
            go_wp2_with fail
            refine (rtlay_bad _ T1 w0 w1 HOK1.out HO1.out.nods HSH.out (by rw [HL.out]; omega) HY.out).mono ?_
            rintro e wz ⟨rfl, okz, hbz⟩
            have HBZ := hide (below_two HB1.out hbz)
            clear hbz
            go_wp2
            go_ret2
            exact ⟨none, 0, rfl, OwnN.nil _ _, okz, HBZ.out⟩
          | true =>
            obtain ⟨z, hz⟩ : ∃ z, Hog.tarL T1 = z := ⟨_, rfl⟩
            obtain ⟨mz, hmz⟩ : ∃ m, z.length = m := ⟨_, rfl⟩
            obtain ⟨rz, hrz⟩ : ∃ r, decide (z = l) = r := ⟨_, rfl⟩
            have HZ := hide hz
            have HM := hide hmz
            have HR := hide hrz
            have htest := str_test z l rz hrz
            clear hz hmz hrz
            go_wp2_with fail
            refine (rtlay_good _ T1 z mz w0 w1 HOK1.out HO1.out.nods HSH.out HY.out HZ.out HM.out).mono ?_
            rintro e wz ⟨bz, cz, rfl, hoz, okz, hbz⟩
            have HNZ := hide (HO1.out.below hbz)
            have HBZ := hide (below_two HB1.out hbz)
            have hc1 := str_bytes hoz.argAt.2
            have hc2 := str_bytes (HA.out.below HBZ.out)
            clear hoz hbz
            cases rz with
            | false =>
              obtain ⟨rfl, rfl⟩ := HT.out.one (HI3.out (by rw [HZ.out]; exact of_decide_eq_false HR.out))
              obtain rfl : q = 0 := HQ.out.symm
              go_wp2
              go_ret2
              exact ⟨none, 0, rfl, OwnN.nil _ _, okz, HBZ.out⟩
            | true =>
              obtain ⟨e1, rfl⟩ := HT.out.one (HI1.out (by trivial) (by rw [HZ.out]; exact of_decide_eq_true HR.out))
              obtain rfl : k = q := by rw [← HL.out, ← HQ.out, e1]
              have HN3 := hide HNZ.out
              rw [← e1] at HN3
              clear e1
              go_wp2
              go_ret2
              exact ⟨_, _, rfl, HN3.out, okz, HBZ.out⟩
        · have ho' : ¬ ((m : Int) > (n : Int) - (a : Int) - 512) := by omega
          have hmn : a + 512 + m ≤ n := by omega
          clear ho
          obtain ⟨d, hd⟩ : ∃ d, (l.drop (a + 512)).take m = d := ⟨_, rfl⟩
          have hdn : d.length ≤ n := by rw [← hd, List.length_take]; omega
          have HD := hide hd
          clear hd
          have hfu := fullT m
          have hff : Hog.fullN m ≤ m + 511 := by unfold Hog.fullN; omega
          go_upto_region 6 with fail
          go_cut [13] (fun v wx => v = .string (Hog.mk d) ∧ wx = w1)
          case first =>
            have hA1 := (HA.out.below HB1.out).drop (r := a + 512) (by omega)
            have hA2 := hA1.take (r := m) (by omega)
            rw [HD.out] at hA2
            have hs3 := str_bytes hA2
            have g2 : (a : Int) + 512 ≤ (a : Int) + 512 + (m : Int) := by omega
            have g3 : (a : Int) + 512 + (m : Int) ≤ (c : Int) := by omega
            by_cases hc : c = a + 512
            · simp only [cutAt, Option.map_some, if_pos hc] at hs3
              rw [show c - (a + 512) = 0 by omega] at hs3
              clear hA1 hA2
              go_wp2
              go_meet
              exact ⟨rfl, rfl⟩
            · simp only [cutAt, Option.map_some, if_neg hc, addB_plain] at hs3
              have hc' : ¬ ((c : Int) = (a : Int) + 512) := by omega
              clear hA1 hA2
              go_wp2
              go_meet
              exact ⟨rfl, rfl⟩
          case rest =>
            obtain ⟨rfl, hwc⟩ := hcut
            obtain rfl := hwc
            by_cases h5 : kd = 5
            · have hk5 : (kd == 5) = true := by rw [beq_iff_eq]; exact h5
              have hdsz : (Hog.mk d).size ≤ n := by rw [Hog.mk_size]; exact hdn
              go_wp2_with fail
              refine (rrecords_ok (Hog.mk d) d wc (Hog.mk_data d)).mono ?_
              rintro e w2 ⟨⟨p', q', rfl, hp', hq', hsaid⟩, hw2⟩
              subst hw2
              have HU2 : Hid (Hog.UpTo l T1 (a + 512 + Hog.fullN m) p' q') := by
                refine hide (Hog.upto_pax (nm := nm) (lk := lk) HU.out ?_ (fun rs hrs => hsaid rs ?_))
                · rw [HR.out, h5]
                · rw [HD.out] at hrs; exact hrs
              clear hsaid h5
              go_wp2
              go_roundw
              case rel => exact ⟨T1, k, a + 512 + Hog.fullN m, b, c2, p', q', rfl, by go_num, rfl, rfl, by omega, by omega, by omega, by omega, HL, HO1, HU2, HSZ, HB1.out⟩
              case measure => simp [intOf]; omega
            · have hk5 : (kd == 5) = false := by rw [beq_eq_false_iff_ne]; exact h5
              obtain ⟨nm1, hnm1⟩ : ∃ x, (if lp = [] then nm else lp) = x := ⟨_, rfl⟩
              obtain ⟨lk1, hlk1⟩ : ∃ x, (if lq = [] then lk else lq) = x := ⟨_, rfl⟩
              obtain ⟨x, hx⟩ : ∃ x, Hog.nodeE nm1 kd lk1 d = x := ⟨_, rfl⟩
              obtain ⟨bp, hbp⟩ : ∃ b, decide (lp = []) = b := ⟨_, rfl⟩
              obtain ⟨bq, hbq⟩ : ∃ b, decide (lq = []) = b := ⟨_, rfl⟩
              have tp := nil_test lp bp hbp
              have tq := nil_test lq bq hbq
              go_upto_if 73 with fail
              go_cut [8] (fun v wx => v = .string (Hog.mk nm1) ∧ wx = wc)
              case first =>
                cases bp with
                | true =>
                  rw [if_pos (of_decide_eq_true hbp)] at hnm1
                  go_wp2
                  go_meet
                  exact ⟨by rw [hnm1], rfl⟩
                | false =>
                  rw [if_neg (of_decide_eq_false hbp)] at hnm1
                  go_wp2
                  go_meet
                  exact ⟨by rw [hnm1], rfl⟩
              case rest =>
                obtain ⟨rfl, hwc⟩ := hcut
                obtain rfl := hwc
                go_upto_if 76 with fail
                go_cut [11] (fun v wx => v = .string (Hog.mk lk1) ∧ wx = wc)
                case first =>
                  cases bq with
                  | true =>
                    rw [if_pos (of_decide_eq_true hbq)] at hlk1
                    go_wp2
                    go_meet
                    exact ⟨by rw [hlk1], rfl⟩
                  | false =>
                    rw [if_neg (of_decide_eq_false hbq)] at hlk1
                    go_wp2
                    go_meet
                    exact ⟨by rw [hlk1], rfl⟩
                case rest =>
                  obtain ⟨rfl, hwc⟩ := hcut
                  obtain rfl := hwc
                  obtain ⟨nm2, hnm2⟩ : ∃ y, (if nm1 = [46] then [] else nm1) = y := ⟨_, rfl⟩
                  obtain ⟨d2, hd2⟩ : ∃ y, (if kd = 4 then lk1 else d) = y := ⟨_, rfl⟩
                  obtain ⟨bd, hbd⟩ : ∃ b, decide (nm1 = [46]) = b := ⟨_, rfl⟩
                  obtain ⟨b4, hb4⟩ : ∃ b, (kd == 4) = b := ⟨_, rfl⟩
                  have td := dot_test nm1 bd hbd
                  have HXE : Hid ((Hog.mk nm2, kd, Hog.mk d2) = x) := by rw [← hx, ← hnm2, ← hd2]; exact hide rfl
                  have HU2 : Hid (Hog.UpTo l (T1 ++ [x]) (a + 512 + Hog.fullN m) [] []) := by
                    have h := Hog.upto_node HU.out HR.out h5
                    rw [hnm1, hlk1, HD.out, hx] at h
                    exact hide h
                  have hn1 : nm1.length ≤ n + 1000 := by rw [← hnm1]; split <;> omega
                  have hn2 : lk1.length ≤ n + 1000 := by rw [← hlk1]; split <;> omega
                  have hn3 : nm2.length ≤ n + 1000 := by
                    rw [← hnm2]
                    split
                    · simp
                    · exact hn1
                  have hn4 : d2.length ≤ n + 1000 := by
                    rw [← hd2]
                    split <;> omega
                  have HSZ2 : Hid (∀ y ∈ T1 ++ [x], y.1.size ≤ n + 1000 ∧ y.2.2.size ≤ n + 1000) := by
                    refine hide (size_nodes HSZ.out ?_)
                    rw [← HXE.out]
                    exact ⟨by rw [Hog.mk_size]; exact hn3, by rw [Hog.mk_size]; exact hn4⟩
                  clear hnm1 hlk1 hx hn1 hn2 hn3 hn4 hbp hbq tp tq
                  go_upto_if 79 with fail
                  go_cut [8] (fun v wx => v = .string (Hog.mk nm2) ∧ wx = wc)
                  case first =>
                    cases bd with
                    | true =>
                      rw [if_pos (of_decide_eq_true hbd)] at hnm2
                      go_wp2
                      go_meet
                      exact ⟨by rw [← hnm2]; rfl, rfl⟩
                    | false =>
                      rw [if_neg (of_decide_eq_false hbd)] at hnm2
                      go_wp2
                      go_meet
                      exact ⟨by rw [hnm2], rfl⟩
                  case rest =>
                    obtain ⟨rfl, hwc⟩ := hcut
                    obtain rfl := hwc
                    go_upto_if 81 with fail
                    go_cut [13] (fun v wx => v = .string (Hog.mk d2) ∧ wx = wc)
                    case first =>
                      cases b4 with
                      | true =>
                        rw [if_pos (by simpa using hb4)] at hd2
                        go_wp2
                        go_meet
                        exact ⟨by rw [hd2], rfl⟩
                      | false =>
                        rw [if_neg (by simpa using hb4)] at hd2
                        go_wp2
                        go_meet
                        exact ⟨by rw [hd2], rfl⟩
                    case rest =>
                      obtain ⟨rfl, hwc⟩ := hcut
                      obtain rfl := hwc
                      clear hnm2 hd2 hbd hb4 td h5 hk5
                      have HO2 := hide (HO1.out.alloc (.cells #[.string (Hog.mk nm2), .int .i64 kd, .string (Hog.mk d2)] 38))
                      have HRN := hide ((Run.one wc (Hog.mk nm2, kd, Hog.mk d2)).arg (c := 1) (by simp))
                      have hbx := below_box wc (.cells #[.string (Hog.mk nm2), .int .i64 kd, .string (Hog.mk d2)] 38)
                      have HB2 := hide (HB1.out.trans (hbx.mono hs1))
                      have hs2 := Nat.le_trans hs1 hbx.size
                      clear hbx
                      go_wp2_with (at_builtin; refine wpList_append_nodes rfl _ _ rfl w.heap.size _ T1 rfl HO2.out _ _ _ [(Hog.mk nm2, kd, Hog.mk d2)] rfl HRN.out (by rw [HL.out]; simp; omega) hs2 ?_)
                      intro b4 c4 w4 ho4 hb4
                      rw [HL.out, HXE.out] at ho4
                      rw [HL.out]
                      have HO4 := hide ho4
                      have HB4 := hide (HB2.out.trans hb4)
                      have HOK4 := hide (HOK.out.next HB4.out)
                      have HL4 : Hid ((T1 ++ [x]).length = k + 1) := by rw [List.length_append, HL.out]; exact hide rfl
                      clear ho4 hb4 HO2 HB2 HRN
                      by_cases hp : n < a + 512 + Hog.fullN m
                      · have hp' : (a : Int) + 512 + (Hog.fullN m : Int) > (n : Int) := by omega
                        have HALL : Hid (Hog.AllOf l (T1 ++ [x])) := hide (Hog.upto_short HU2.out (by rw [HLN.out]; omega))
                        clear hp
                        have HSH : Hid (ShortT (T1 ++ [x])) := hide ⟨by rw [HL4.out]; omega, fun y hy => by have := HSZ2.out y hy; omega⟩
                        obtain ⟨yy, hyy⟩ : ∃ y, mayN (T1 ++ [x]) = y := ⟨_, rfl⟩
                        have HY := hide hyy
                        obtain ⟨i1, i2, i3⟩ := Hog.TarIs.all HALL.out hyy
                        have HI1 := hide i1
                        have HI2 := hide i2
                        have HI3 := hide i3
                        clear hyy i1 i2 i3
                        cases yy with
                        | false =>
                          obtain ⟨rfl, rfl⟩ := HT.out.one (HI2.out rfl)
                          obtain rfl : q = 0 := HQ.out.symm
                          go_wp2_with fail
                          refine (rtlay_bad _ (T1 ++ [x]) w0 w4 HOK4.out HO4.out.nods HSH.out (by rw [HL4.out]; omega) HY.out).mono ?_
                          rintro e wz ⟨rfl, okz, hbz⟩
                          have HBZ := hide (below_two HB4.out hbz)
                          clear hbz
                          go_wp2
                          go_ret2
                          exact ⟨none, 0, rfl, OwnN.nil _ _, okz, HBZ.out⟩
                        | true =>
                          obtain ⟨z, hz⟩ : ∃ z, Hog.tarL (T1 ++ [x]) = z := ⟨_, rfl⟩
                          obtain ⟨mz, hmz⟩ : ∃ m, z.length = m := ⟨_, rfl⟩
                          obtain ⟨rz, hrz⟩ : ∃ r, decide (z = l) = r := ⟨_, rfl⟩
                          have HZ := hide hz
                          have HM := hide hmz
                          have HR := hide hrz
                          have htest := str_test z l rz hrz
                          clear hz hmz hrz
                          go_wp2_with fail
                          refine (rtlay_good _ (T1 ++ [x]) z mz w0 w4 HOK4.out HO4.out.nods HSH.out HY.out HZ.out HM.out).mono ?_
                          rintro e wz ⟨bz, cz, rfl, hoz, okz, hbz⟩
                          have HNZ := hide (HO4.out.below hbz)
                          have HBZ := hide (below_two HB4.out hbz)
                          have hc1 := str_bytes hoz.argAt.2
                          have hc2 := str_bytes (HA.out.below HBZ.out)
                          clear hoz hbz
                          cases rz with
                          | false =>
                            obtain ⟨rfl, rfl⟩ := HT.out.one (HI3.out (by rw [HZ.out]; exact of_decide_eq_false HR.out))
                            obtain rfl : q = 0 := HQ.out.symm
                            go_wp2
                            go_ret2
                            exact ⟨none, 0, rfl, OwnN.nil _ _, okz, HBZ.out⟩
                          | true =>
                            obtain ⟨e1, rfl⟩ := HT.out.one (HI1.out (by trivial) (by rw [HZ.out]; exact of_decide_eq_true HR.out))
                            obtain rfl : k + 1 = q := by rw [← HL4.out, ← HQ.out, e1]
                            have HN3 := hide HNZ.out
                            rw [← e1] at HN3
                            clear e1
                            go_wp2
                            go_ret2
                            exact ⟨_, _, rfl, HN3.out, okz, HBZ.out⟩
                      · have hp' : ¬ ((a : Int) + 512 + (Hog.fullN m : Int) > (n : Int)) := by omega
                        clear hp
                        go_wp2
                        go_roundw
                        case rel => exact ⟨T1 ++ [x], k + 1, a + 512 + Hog.fullN m, b4, c4, [], [], rfl, by go_num, rfl, rfl, by omega, by omega, Nat.zero_le _, Nat.zero_le _, HL4, HO4, HU2, HSZ2, HB4.out⟩
                        case measure => simp [intOf]; omega
end Go.Proofs.YtecjkkipglldlaaGreatDoor
