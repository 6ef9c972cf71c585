/- The walk of the document's Lay. -/
import Derived.Test.YtecjkkipglldlaaGreatDoorHF
namespace Go.Proofs.YtecjkkipglldlaaGreatDoor
open Go.RowKit Hog

set_option maxHeartbeats 2000000 in
theorem rlay_bad (s t : ByteArray) (nm lk : List UInt8) (k sz : Int) (w0 w : World) (hok : Ok w0 w) (hs : s.data.toList = nm) (ht : t.data.toList = lk) (hss : s.size < 1000000) (hts : t.size < 1000000) (hz : sz < 9223372036854775808) (h : mayH nm k sz lk = false) :
    Calls Tryz.prog 33 #[.string s, .int .i64 k, .int .i64 sz, .string t] w fun e w' => e = .returned (.tuple #[.slice none 0 0, .bool false]) ∧ Ok w0 w' ∧ Below w.heap.size w w' := by
  have HS := hide hs
  have HT := hide ht
  have HSS := hide (show s.size < 1000000000 by omega)
  have HTS := hide (show t.size < 1000000000 by omega)
  have HNL : Hid (s.size = nm.length) := by rw [← hs]; exact hide (Hog.size_len s)
  have HLL : Hid (t.size = lk.length) := by rw [← ht]; exact hide (Hog.size_len t)
  have HOK := hide hok
  have hbw := Below.refl w.heap.size w
  clear hok hss hts
  by_cases c0 : nm = []
  · have n1 := nil_yes hs c0
    clear c0 h hs ht hz
    go_enter Tryz.func33, Tryz.ntmps33
    go_wp2_with fail
    go_ret2
    exact ⟨rfl, HOK.out, hbw⟩
  have n1 := nil_no hs c0
  by_cases c1 : 100 < nm.length
  · have d1 : (s.size : Int) > 100 := by rw [HNL.out]; omega
    clear c0 c1 h hs ht hz
    go_enter Tryz.func33, Tryz.ntmps33
    go_wp2_with fail
    go_ret2
    exact ⟨rfl, HOK.out, hbw⟩
  have d1 : ¬ ((s.size : Int) > 100) := by rw [HNL.out]; omega
  by_cases c2 : (0 : UInt8) ∈ nm
  · have Z1 := hide (decide_eq_true c2)
    clear c0 c1 c2 h hs ht hz
    go_enter Tryz.func33, Tryz.ntmps33
    go_wp2_with fail
    refine (rzero_ok s nm true _ HS.out Z1.out HSS.out).mono ?_
    rintro e w ⟨rfl, rfl⟩
    go_wp2_with fail
    go_ret2
    exact ⟨rfl, HOK.out, hbw⟩
  have Z1 := hide (decide_eq_false c2)
  by_cases c3 : 100 < lk.length
  · have d3 : (t.size : Int) > 100 := by rw [HLL.out]; omega
    clear c0 c1 c2 c3 h hs ht hz
    go_enter Tryz.func33, Tryz.ntmps33
    go_wp2_with fail
    refine (rzero_ok s nm false _ HS.out Z1.out HSS.out).mono ?_
    rintro e w ⟨rfl, rfl⟩
    go_wp2_with fail
    go_ret2
    exact ⟨rfl, HOK.out, hbw⟩
  have d3 : ¬ ((t.size : Int) > 100) := by rw [HLL.out]; omega
  by_cases c4 : (0 : UInt8) ∈ lk
  · have Z2 := hide (decide_eq_true c4)
    clear c0 c1 c2 c3 c4 h hs ht hz
    go_enter Tryz.func33, Tryz.ntmps33
    go_wp2_with fail
    refine (rzero_ok s nm false _ HS.out Z1.out HSS.out).mono ?_
    rintro e w ⟨rfl, rfl⟩
    go_wp2_with fail
    refine (rzero_ok t lk true _ HT.out Z2.out HTS.out).mono ?_
    rintro e w ⟨rfl, rfl⟩
    go_wp2_with fail
    go_ret2
    exact ⟨rfl, HOK.out, hbw⟩
  have Z2 := hide (decide_eq_false c4)
  by_cases c5 : k < 1
  · clear c0 c1 c2 c3 c4 h hs ht hz
    go_enter Tryz.func33, Tryz.ntmps33
    go_wp2_with fail
    refine (rzero_ok s nm false _ HS.out Z1.out HSS.out).mono ?_
    rintro e w ⟨rfl, rfl⟩
    go_wp2_with fail
    refine (rzero_ok t lk false _ HT.out Z2.out HTS.out).mono ?_
    rintro e w ⟨rfl, rfl⟩
    go_wp2_with fail
    go_ret2
    exact ⟨rfl, HOK.out, hbw⟩
  by_cases c6 : k > 5
  · clear c0 c1 c2 c3 c4 h hs ht hz
    go_enter Tryz.func33, Tryz.ntmps33
    go_wp2_with fail
    refine (rzero_ok s nm false _ HS.out Z1.out HSS.out).mono ?_
    rintro e w ⟨rfl, rfl⟩
    go_wp2_with fail
    refine (rzero_ok t lk false _ HT.out Z2.out HTS.out).mono ?_
    rintro e w ⟨rfl, rfl⟩
    go_wp2_with fail
    go_ret2
    exact ⟨rfl, HOK.out, hbw⟩
  by_cases c7 : k = 4 ∧ lk = []
  · have n2 := nil_yes ht c7.2
    have k4 : (k == 4) = true := by rw [beq_iff_eq]; exact c7.1
    clear c0 c1 c2 c3 c4 c7 h hs ht hz
    go_enter Tryz.func33, Tryz.ntmps33
    go_wp2_with fail
    refine (rzero_ok s nm false _ HS.out Z1.out HSS.out).mono ?_
    rintro e w ⟨rfl, rfl⟩
    go_wp2_with fail
    refine (rzero_ok t lk false _ HT.out Z2.out HTS.out).mono ?_
    rintro e w ⟨rfl, rfl⟩
    go_wp2_with fail
    go_ret2
    exact ⟨rfl, HOK.out, hbw⟩
  by_cases c8 : k ≠ 4 ∧ lk ≠ []
  · have n2 := nil_no ht c8.2
    have k4 : (k == 4) = false := by rw [beq_eq_false_iff_ne]; exact c8.1
    clear c0 c1 c2 c3 c4 c7 c8 h hs ht hz
    go_enter Tryz.func33, Tryz.ntmps33
    go_wp2_with fail
    refine (rzero_ok s nm false _ HS.out Z1.out HSS.out).mono ?_
    rintro e w ⟨rfl, rfl⟩
    go_wp2_with fail
    refine (rzero_ok t lk false _ HT.out Z2.out HTS.out).mono ?_
    rintro e w ⟨rfl, rfl⟩
    go_wp2_with fail
    go_ret2
    exact ⟨rfl, HOK.out, hbw⟩
  by_cases c9 : k = 1 ∧ sz ≠ 0
  · have e0 : lk = [] := Classical.byContradiction fun e => c8 ⟨by omega, e⟩
    have n2 := nil_yes ht e0
    have s0 : (sz != 0) = true := by rw [bne_iff_ne]; exact c9.2
    have k1 := c9.1
    clear c0 c1 c2 c3 c4 c5 c6 c7 c8 c9 e0 h hs ht hz
    subst k1
    go_enter Tryz.func33, Tryz.ntmps33
    go_wp2_with fail
    refine (rzero_ok s nm false _ HS.out Z1.out HSS.out).mono ?_
    rintro e w ⟨rfl, rfl⟩
    go_wp2_with fail
    refine (rzero_ok t lk false _ HT.out Z2.out HTS.out).mono ?_
    rintro e w ⟨rfl, rfl⟩
    go_wp2_with fail
    go_ret2
    exact ⟨rfl, HOK.out, hbw⟩
  by_cases c10 : k = 4 ∧ sz ≠ 0
  · have e0 : lk ≠ [] := fun e => c7 ⟨c10.1, e⟩
    have n2 := nil_no ht e0
    have s0 : (sz != 0) = true := by rw [bne_iff_ne]; exact c10.2
    have k1 := c10.1
    clear c0 c1 c2 c3 c4 c5 c6 c7 c8 c9 c10 e0 h hs ht hz
    subst k1
    go_enter Tryz.func33, Tryz.ntmps33
    go_wp2_with fail
    refine (rzero_ok s nm false _ HS.out Z1.out HSS.out).mono ?_
    rintro e w ⟨rfl, rfl⟩
    go_wp2_with fail
    refine (rzero_ok t lk false _ HT.out Z2.out HTS.out).mono ?_
    rintro e w ⟨rfl, rfl⟩
    go_wp2_with fail
    go_ret2
    exact ⟨rfl, HOK.out, hbw⟩
  have hk : mayK k sz lk = true := by
    unfold mayK
    rw [decide_eq_true_eq]
    by_cases e : lk = []
    · by_cases k1 : k = 1
      · exact .inl ⟨k1, Classical.byContradiction fun e2 => c9 ⟨k1, e2⟩, e⟩
      · have : k ≠ 4 := fun k4 => c7 ⟨k4, e⟩
        exact .inr (.inr ⟨by omega, e⟩)
    · have k4 : k = 4 := Classical.byContradiction fun e2 => c8 ⟨e2, e⟩
      exact .inr (.inl ⟨k4, Classical.byContradiction fun e2 => c10 ⟨k4, e2⟩, e⟩)
  have ho : octR sz 11 = false := by
    cases ho : octR sz 11 with
    | false => rfl
    | true =>
      rw [← h]
      have f1 : fillB nm = true := by unfold fillB; rw [decide_eq_true (show nm.length ≤ 100 by omega), decide_eq_true c2]; rfl
      have f2 : fillB lk = true := by unfold fillB; rw [decide_eq_true (show lk.length ≤ 100 by omega), decide_eq_true c4]; rfl
      exact (mayH_true ⟨ho, c0, f1, f2, hk⟩).symm
  have hs0 : sz ≠ 0 := fun e => by rw [e] at ho; exact absurd ho (by decide)
  have k1 : (k == 1) = false := by rw [beq_eq_false_iff_ne]; exact fun e => c9 ⟨e, hs0⟩
  have k4 : (k == 4) = false := by rw [beq_eq_false_iff_ne]; exact fun e => c10 ⟨e, hs0⟩
  have e0 : lk = [] := Classical.byContradiction fun e => c8 ⟨fun e4 => c10 ⟨e4, hs0⟩, e⟩
  have n2 := nil_yes ht e0
  obtain ⟨x, hx⟩ : ∃ x, octT sz 11 = x := ⟨_, rfl⟩
  have HX := hide hx
  have HO := hide ho
  clear c0 c1 c2 c3 c4 c7 c8 c9 c10 e0 h hs ht hx ho hk hs0
  go_enter Tryz.func33, Tryz.ntmps33
  go_wp2_with fail
  refine (rzero_ok s nm false _ HS.out Z1.out HSS.out).mono ?_
  rintro e w ⟨rfl, rfl⟩
  go_wp2_with fail
  refine (rzero_ok t lk false _ HT.out Z2.out HTS.out).mono ?_
  rintro e w ⟨rfl, rfl⟩
  go_wp2_with fail
  refine (roctal_ok sz 11 x false w0 _ HOK.out hz HX.out HO.out).mono ?_
  rintro e w1 ⟨rfl, ok1, hb1⟩
  go_wp2_with fail
  go_ret2
  exact ⟨rfl, ok1, hb1⟩
-- GOOD
end Go.Proofs.YtecjkkipglldlaaGreatDoor
