/- The walk of NarReads. -/
import Derived.Test.YtlepahfbbdjdgaaDoorI6
namespace Go.Proofs.YtlepahfbbdjdgaaDoor
open Go.RowKit

set_option maxRecDepth 100000 in
set_option maxHeartbeats 4000000 in
theorem reads_walk (ab : Option Addr) (nb cb : Nat) (l : List UInt8) (w : World) (hsh : w.ShapedOpen Tryd.prog) (hb : ArgB w ab nb cb l) :
    Calls Tryd.prog 4 #[.slice ab nb cb] w fun e w' => e = .returned (.bool true) ∧ Below w.heap.size w w' := by
  have ok := Ok.start hsh
  have HLB := hide hb.len
  have HAB := hide hb
  clear hb hsh
  go_enter Tryd.func4, Tryd.ntmps4
  by_cases h6 : 6000 < nb
  · have h6' : (6000 : Int) < (nb : Int) := by omega
    go_wp2_with fail
    refine (awake5_ok w w ok).mono ?_
    rintro e w2 ⟨rfl, ok2, hb2⟩
    go_wp2
    go_ret
    exact ⟨rfl, hb2⟩
  · have h6' : (nb : Int) ≤ 6000 := by omega
    obtain ⟨T, E, hP⟩ : ∃ T E, readP l = (T, E) := ⟨_, _, (Prod.eta _).symm⟩
    obtain ⟨kT, hkT⟩ : ∃ k, T.length = k := ⟨_, rfl⟩
    have hk400 : kT ≤ 400 := by
      rw [← hkT]
      rcases readP_cases l with ⟨_, _, hs, _⟩ | ⟨he, _⟩
      · rw [hP] at hs; exact hs.1
      · rw [hP] at he
        have : T = [] := he
        rw [this]; simp
    have HP := hide hP
    have HKT := hide hkT
    clear hP hkT
    go_wp2_with fail
    refine (lendB_any ab nb cb l w HAB.out (by omega)).mono ?_
    rintro e w1 ⟨rfl, hl1, hb1⟩
    have HL1 := hide hl1
    have hg1 : w.heap.size < w1.heap.size := hl1.lt
    have HB1 := hide hb1
    have ok1 := ok.next hb1
    clear hl1 hb1
    go_wp2_with fail
    refine (read_ok _ nb _ l T E kT w w1 ok1 (HL1.out.arg HLB.out.symm) (by omega) HP.out HKT.out).mono ?_
    rintro e w2 ⟨b2, c2, rfl, ho2, ok2, hb2⟩
    have HT2 := hide ho2
    have HC2 := hide hb2
    clear ho2 hb2
    go_wp2_with fail
    refine (rread_ok ab nb cb l T E kT w w2 ok2 (HAB.out.below (below_two HB1.out HC2.out)) (by omega) HP.out HKT.out).mono ?_
    rintro e w3 ⟨b3, c3, rfl, ho3, ok3, hb3⟩
    have HW3 := hide ho3
    have HT3 := hide (HT2.out.below hb3)
    have HC3 := hide (below_two HC2.out hb3)
    clear ho3 hb3
    go_wp2_with fail
    refine (sameN_any _ _ T T w3 HT3.out.nods HW3.out.nods (by rw [HKT.out]; omega)).mono ?_
    rintro e w4 ⟨rfl, hb4⟩
    rw [show decide (T = T) = true from by simp]
    have HT4 := hide (HT3.out.below hb4)
    have HC4 := hide (below_two HC3.out hb4)
    have ok4 := ok3.next hb4
    clear hb4
    go_wp2_with fail
    refine (numE_ok E w4).mono ?_
    rintro e w5 ⟨rfl, rfl⟩
    have HL4 := hide (HL1.out.below HC4.out hg1)
    have hEE : (E == E) = true := by simp
    go_wp2_with fail
    refine (keptB_any ab w.heap.size nb cb l w w5 ok4 HL4.out (HAB.out.below (below_two HB1.out HC4.out)) (by omega)).mono ?_
    rintro e w6 ⟨rfl, ok6, hb6⟩
    have HT6 := hide (HT4.out.below hb6)
    have HC6 := hide (below_two HC4.out hb6)
    have hs6 : w1.heap.size ≤ w6.heap.size := HC6.out.size
    clear hb6
    go_wp2_with fail
    refine (overN_ok _ T w1.heap.size w6 HT6.out hs6 (by rw [HKT.out]; omega)).mono ?_
    rintro e w7 ⟨rfl, hg7⟩
    have HC7 := hide (HC6.out.trans (HT6.out.grownBelow hg7 hs6))
    have ok7 : Ok w w7 := ok1.step (HC7.out.mono HB1.out.size)
    have HL7 := hide (HL1.out.below HC7.out hg1)
    clear hg7
    go_wp2_with fail
    refine (keptB_any ab w.heap.size nb cb l w w7 ok7 HL7.out (HAB.out.below (below_two HB1.out HC7.out)) (by omega)).mono ?_
    rintro e w8 ⟨rfl, ok8, hb8⟩
    have HB8 := hide (below_two (below_two HB1.out HC7.out) hb8)
    clear hb8
    go_wp2_with fail
    refine (awake5_ok w w8 ok8).mono ?_
    rintro e w9 ⟨rfl, ok9, hb9⟩
    have HB9 := hide (below_two HB8.out hb9)
    clear hb9
    go_wp2
    go_ret
    exact ⟨rfl, HB9.out⟩
end Go.Proofs.YtlepahfbbdjdgaaDoor
