/- The walk of UntarReads. -/
import Derived.Test.YtecjkkipglldlaaGreatDoorVK
import Derived.Test.YtecjkkipglldlaaGreatDoorVG
import Derived.Test.YtecjkkipglldlaaGreatDoorB10
import Derived.Test.YtecjkkipglldlaaGreatDoorJ6
namespace Go.Proofs.YtecjkkipglldlaaGreatDoor
open Go.RowKit

theorem tarIs_len {l : List UInt8} {T : List Nd} {E : Int} (h : Hog.TarIs l T E) : T.length ≤ 400 := by
  rcases h with ⟨_, h1, _⟩ | ⟨_, rfl, _⟩
  · exact Hog.tree_len h1
  · simp

set_option maxRecDepth 100000 in
set_option maxHeartbeats 8000000 in
theorem reads_walk (ab : Option Addr) (nb cb : Nat) (l : List UInt8) (w : World) (hsh : w.ShapedOpen Tryz.prog) (hp : Lib14 w) (hb : ArgB w ab nb cb l) :
    Calls Tryz.prog 3 #[.slice ab nb cb] w fun e w' => e = .returned (.bool true) ∧ Below w.heap.size w w' := by
  have hok := Ok.start hsh
  have HOK := hide hok
  have HP := hide hp
  have HLB := hide hb.len
  have HAB := hide hb
  clear hb hsh hp hok
  go_enter Tryz.func3, Tryz.ntmps3
  by_cases h4 : 40000 < nb
  · have h4' : (40000 : Int) < (nb : Int) := by omega
    go_wp2_with fail
    refine (awake14_ok w w HP.out HOK.out).mono ?_
    rintro e w2 ⟨rfl, ok2, hb2⟩
    go_wp2
    go_ret
    exact ⟨rfl, hb2⟩
  · have h4' : (nb : Int) ≤ 40000 := by omega
    obtain ⟨T, E, hT⟩ := tar_or l
    obtain ⟨q, hq⟩ : ∃ q, T.length = q := ⟨_, rfl⟩
    have hq4 : q ≤ 400 := by rw [← hq]; exact tarIs_len hT
    have HT := hide hT
    have HQ := hide hq
    clear hT hq h4
    go_wp2_with fail
    refine (lendB_any ab nb cb l w HAB.out (by omega)).mono ?_
    rintro e w1 ⟨rfl, hl1, hb1⟩
    have HL1 := hide hl1
    have hg1 : w.heap.size < w1.heap.size := hl1.lt
    have HB1 := hide hb1
    have ok1 := HOK.out.next hb1
    clear hl1 hb1
    go_wp2_with fail
    refine (uread_ok _ nb _ l T E q w w1 HP.out ok1 (HL1.out.arg HLB.out.symm) (by omega) HT.out HQ.out).mono ?_
    rintro e w2 ⟨b2, c2, rfl, ho2, ok2, hb2⟩
    have HT2 := hide ho2
    have HC2 := hide hb2
    clear ho2 hb2
    go_wp2_with fail
    refine (rutread_ok ab nb cb l T E q w w2 ok2 (HAB.out.below (below_two HB1.out HC2.out)) (by omega) HT.out HQ.out).mono ?_
    rintro e w3 ⟨b3, c3, rfl, ho3, ok3, hb3⟩
    have HW3 := hide ho3
    have HT3 := hide (HT2.out.below hb3)
    have HC3 := hide (below_two HC2.out hb3)
    clear ho3 hb3 HT2 HC2
    go_wp2_with fail
    refine (unames_ok _ nb _ l T E q w w3 HP.out ok3 ((HL1.out.below HC3.out hg1).arg HLB.out.symm) (by omega) HT.out HQ.out).mono ?_
    rintro e w4 ⟨b4, c4, rfl, ho4, ok4, hb4⟩
    have HX4 := hide ho4
    have HW4 := hide (HW3.out.below hb4)
    have HT4 := hide (HT3.out.below hb4)
    have HC4 := hide (below_two HC3.out hb4)
    clear ho4 hb4 HW3 HT3 HC3
    go_wp2_with fail
    refine (sameN_any _ _ T T w4 HT4.out.nods HW4.out.nods (by rw [HQ.out]; omega)).mono ?_
    rintro e w5 ⟨rfl, hb5⟩
    rw [show decide (T = T) = true from by simp]
    have HX5 := hide (HX4.out.below hb5)
    have HW5 := hide (HW4.out.below hb5)
    have HT5 := hide (HT4.out.below hb5)
    have HC5 := hide (below_two HC4.out hb5)
    have ok5 := ok4.next hb5
    clear hb5 HX4 HW4 HT4 HC4
    go_wp2_with fail
    refine (numE_ok E w5).mono ?_
    rintro e w5a ⟨rfl, h5⟩
    have h6 := h5.symm
    subst h6
    clear h5
    go_wp2_with fail
    refine (numE_ok E w5).mono ?_
    rintro e w5a ⟨rfl, h5⟩
    have h6 := h5.symm
    subst h6
    clear h5
    have HL5 := hide (HL1.out.below HC5.out hg1)
    go_wp2_with fail
    refine (keptB_any ab w.heap.size nb cb l w w5 ok5 HL5.out (HAB.out.below (below_two HB1.out HC5.out)) (by omega)).mono ?_
    rintro e w6 ⟨rfl, ok6, hb6⟩
    have HX6 := hide (HX5.out.below hb6)
    have HW6 := hide (HW5.out.below hb6)
    have HT6 := hide (HT5.out.below hb6)
    have HC6 := hide (below_two HC5.out hb6)
    clear hb6 HX5 HW5 HT5 HC5 HL5
    have HRX : Hid (∀ (j : Nat) x, (pathsN T)[j]? = some x → ∃ g o, b4 = some ⟨g, o, none⟩ ∧ g < w6.heap.size ∧ w6.cell? ⟨g, o + j, none⟩ = some (.string x)) := by
      refine hide fun j x hx => ?_
      rcases HX6.out.txt with ⟨e, _⟩ | ⟨g, o, cc, e, _, hg, hcell⟩
      · rw [e] at hx; cases hx
      · have e1 : b4 = some ⟨g, o, none⟩ := by injection e
        exact ⟨g, o, e1, hg, hcell j x hx⟩
    have HRW : Hid (∀ (j : Nat) x, T[j]? = some x → ∃ g o, b3 = some ⟨g, o, none⟩ ∧ g < w6.heap.size ∧ At w6 g (o + j * 3) x) := by
      refine hide fun j x hx => ?_
      rcases HW6.out.nods with ⟨e, _⟩ | ⟨g, o, cc, e, _, hr⟩
      · rw [e] at hx; cases hx
      · have e1 : b3 = some ⟨g, o, none⟩ := by injection e
        exact ⟨g, o, e1, hr.1, hr.2 j x hx⟩
    have hs6 : w1.heap.size ≤ w6.heap.size := HC6.out.size
    go_wp2
    go_loopw [10] (fun i wr => ∃ k : Nat, k ≤ q ∧ i = .int .i64 k ∧ Below w6.heap.size w6 wr) (fun i _ => q - (intOf i).toNat)
    case atStart => exact ⟨0, Nat.zero_le _, rfl, Below.refl _ _⟩
    case round =>
      obtain ⟨k, hk, rfl, hbl⟩ := hrel
      by_cases hlt : k < q
      · have hki : (k : Int) < (q : Int) := by omega
        obtain ⟨x, hx⟩ : ∃ x, T[k]? = some x := ⟨T[k]'(by have := HQ.out; omega), List.getElem?_eq_some_iff.2 ⟨_, rfl⟩⟩
        have hx2 : (pathsN T)[k]? = some x.1 := by unfold pathsN; rw [List.getElem?_map, hx]; rfl
        obtain ⟨g, o, e1, hg, hc1⟩ := HRX.out k _ hx2
        obtain ⟨g', o', e2, hg', hat⟩ := HRW.out k x hx
        subst e1 e2
        have hc := (hbl.cell (p := ⟨g, o + k, none⟩) hg).trans hc1
        obtain ⟨d1, d2, d3⟩ := hat.below hbl hg'
        have hne : (x.1.toList == x.1.toList) = true := by simp
        have HBL := hide hbl
        clear hx hx2 hc1 hat hbl
        go_wp2_with fail
        go_quiet (fail)
        go_wp2
        go_roundw
        case rel => exact ⟨k + 1, by omega, by go_num, below_drewN HBL.out _⟩
        case measure => simp [intOf]; omega
      · have HB7 := hide (HC6.out.trans (hbl.mono hs6))
        have HT7 := hide (HT6.out.below hbl)
        have ok7 := ok6.next hbl
        have hs7 : w1.heap.size ≤ wr.heap.size := HB7.out.size
        have hki : ¬ ((k : Int) < (q : Int)) := by omega
        clear hlt hbl
        go_wp2_with fail
        refine (overN_ok _ T w1.heap.size wr HT7.out hs7 (by rw [HQ.out]; omega)).mono ?_
        rintro e w8 ⟨rfl, hg8⟩
        have HC8 := hide (HB7.out.trans (HT7.out.grownBelow hg8 hs7))
        have ok8 : Ok w w8 := ok1.step (HC8.out.mono HB1.out.size)
        have HL8 := hide (HL1.out.below HC8.out hg1)
        clear hg8
        go_wp2_with fail
        refine (keptB_any ab w.heap.size nb cb l w w8 ok8 HL8.out (HAB.out.below (below_two HB1.out HC8.out)) (by omega)).mono ?_
        rintro e w9 ⟨rfl, ok9, hb9⟩
        have HB9 := hide (below_two (below_two HB1.out HC8.out) hb9)
        clear hb9
        go_wp2_with fail
        refine (awake14_ok w w9 HP.out ok9).mono ?_
        rintro e wA ⟨rfl, okA, hbA⟩
        have HBA := hide (below_two HB9.out hbA)
        clear hbA
        go_wp2
        go_ret
        exact ⟨rfl, HBA.out⟩
end Go.Proofs.YtecjkkipglldlaaGreatDoor
