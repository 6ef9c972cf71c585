/- The walks of the document's own Good, dir. -/
import Derived.Test.YtecjkkipglldlaaGreatDoorJ4
import Derived.Test.YtecjkkipglldlaaGreatDoorJ5
namespace Go.Proofs.YtecjkkipglldlaaGreatDoor
open Go.RowKit

theorem good_not {n : Nd} (h : Hog.mayL n.1.data.toList = false) : goodB n = false := by unfold goodB; rw [h]; rfl
theorem good_long {n : Nd} (h : 400 < n.2.2.size) : goodB n = false := by
  have h1 : dataEmpty n.2.2 = false := by
    cases e : dataEmpty n.2.2 with
    | false => rfl
    | true => rw [dataEmpty_iff] at e; have := Hog.size_len n.2.2; rw [e, List.length_nil] at this; omega
  have h2 : dataShort n.2.2 = false := by unfold dataShort; simp; omega
  unfold goodB ruleB dataLink
  rw [h1, h2]
  simp
theorem good_of {n : Nd} (h : Hog.mayL n.1.data.toList = true) : goodB n = ruleB n.2.1 n.2.2 := by unfold goodB; rw [h]; rfl

theorem free_snoc (s : ByteArray) (k : Nat) (hk : k < s.size) (h2 : (((s[k].toNat : Nat) : Int) == 0) = false) (h : 0 ∉ s.data.toList.take k) : 0 ∉ s.data.toList.take (k + 1) := by
  rw [take_byte s k hk]
  have e2 : s[k] ≠ 0 := byte_not (n := 0) (by decide) h2
  simp only [List.mem_append, List.mem_singleton, not_or]
  exact ⟨h, fun e => e2 e.symm⟩

set_option maxHeartbeats 800000 in
theorem rgood_ok (n : Nd) (b : Bool) (w0 w : World) (h : Ok w0 w) (hp : n.1.size < 900000) (hq : n.2.2.size < 900000) (hv : goodB n = b) :
    Calls Tryz.prog 65 #[.agg #[.string n.1, .int .i64 n.2.1, .string n.2.2]] w fun e w' => e = .returned (.bool b) ∧ Ok w0 w' ∧ Below w.heap.size w w' := by
  have HV := hide hv
  clear hv
  go_enter Tryz.func65, Tryz.ntmps65
  go_wp2_with fail
  cases hm : Hog.mayL n.1.data.toList with
  | false =>
    have HM := hide hm
    clear hm
    refine (rmay_ok n.1 false w0 _ (h.alloc _) hp HM.out).mono ?_
    rintro e w1 ⟨rfl, ok1, hb1⟩
    go_wp2
    go_ret
    exact ⟨ret_bool (by rw [← HV.out, good_not HM.out]), ok1, below_two (below_box _ _) hb1⟩
  | true =>
    have HM := hide hm
    clear hm
    refine (rmay_ok n.1 true w0 _ (h.alloc _) hp HM.out).mono ?_
    rintro e w1 ⟨rfl, ok1, hb1⟩
    have x1 := hb1.cell (p := ⟨w.heap.size, 1, none⟩) (by simp)
    have x2 := hb1.cell (p := ⟨w.heap.size, 2, none⟩) (by simp)
    have HB := hide (below_two (below_box _ _) hb1)
    have HG := hide (good_of HM.out)
    have y1 : w1.cell? ⟨w.heap.size, 1, none⟩ = some (.int .i64 n.2.1) := by rw [x1]; simp
    have y2 : w1.cell? ⟨w.heap.size, 2, none⟩ = some (.string n.2.2) := by rw [x2]; simp
    clear hb1 x1 x2
    by_cases hl : 400 < n.2.2.size
    · have hl' : (400 : Int) < (n.2.2.size : Int) := by omega
      go_wp2
      go_ret
      exact ⟨ret_bool (by rw [← HV.out, good_long hl]), ok1, HB.out⟩
    · have hl' : (n.2.2.size : Int) ≤ 400 := by omega
      by_cases h1 : n.2.1 = 1
      · have b1 : (n.2.1 == 1) = true := by rw [h1]; rfl
        have HV2 : Hid (b = dataEmpty n.2.2) := by rw [← HV.out, HG.out]; unfold ruleB; rw [if_pos h1]; rfl
        clear h1
        go_wp2
        go_ret
        exact ⟨ret_bool HV2.out.symm, ok1, HB.out⟩
      · have b1 : (n.2.1 == 1) = false := by rw [beq_eq_false_iff_ne]; exact h1
        by_cases h2 : n.2.1 = 2 ∨ n.2.1 = 3
        · have HV2 : Hid (b = true) := by
            rw [← HV.out, HG.out]
            show ruleB _ _ = true
            unfold ruleB
            rw [if_neg h1, if_pos h2]
            unfold dataShort
            simp; omega
          rcases h2 with h2 | h2
          · have b2 : (n.2.1 == 2) = true := by rw [h2]; rfl
            clear h1 h2
            go_wp2
            go_ret
            exact ⟨ret_bool HV2.out.symm, ok1, HB.out⟩
          · have b2 : (n.2.1 == 2) = false := by rw [h2]; rfl
            have b3 : (n.2.1 == 3) = true := by rw [h2]; rfl
            clear h1 h2
            go_wp2
            go_ret
            exact ⟨ret_bool HV2.out.symm, ok1, HB.out⟩
        · have b2 : (n.2.1 == 2) = false := by rw [beq_eq_false_iff_ne]; intro e; exact h2 (.inl e)
          have b3 : (n.2.1 == 3) = false := by rw [beq_eq_false_iff_ne]; intro e; exact h2 (.inr e)
          by_cases h4 : n.2.1 = 4
          · have b4 : (n.2.1 == 4) = true := by rw [h4]; rfl
            have HV2 : Hid (b = (!dataEmpty n.2.2 && dataFree n.2.2)) := by
              rw [← HV.out, HG.out]
              show ruleB _ _ = _
              unfold ruleB dataLink
              rw [if_neg h1, if_neg h2, if_pos h4]
              have : dataShort n.2.2 = true := by unfold dataShort; simp; omega
              rw [this, Bool.and_true]
            clear h1 h2 h4
            go_wp2
            go_loop [3] (fun i => ∃ k : Nat, k ≤ n.2.2.size ∧ i = .int .i64 k ∧ Hid (0 ∉ n.2.2.data.toList.take k)) (fun i => n.2.2.size - (intOf i).toNat)
            case atStart => exact ⟨0, Nat.zero_le _, rfl, by simp [Hid]⟩
            case round =>
              obtain ⟨k, hk, rfl, hfree⟩ := hrel
              by_cases hlt : k < n.2.2.size
              · cases hc : (((n.2.2[k].toNat : Nat) : Int) == 0) with
                | true =>
                  have HC := hide (beq_iff_eq.1 hc)
                  go_wp2
                  go_ret
                  refine ⟨ret_bool ?_, ok1, HB.out⟩
                  rw [HV2.out]
                  have hmem := byte_mem n.2.2 k hlt (n := 0) (by decide) HC.out
                  have : dataFree n.2.2 = false := by unfold dataFree; rw [decide_eq_false_iff_not]; intro h; exact h hmem
                  rw [this, Bool.and_false]
                | false =>
                  have HC := hide hc
                  go_wp2
                  go_round
                  case rel => exact ⟨k + 1, by omega, by go_num, free_snoc n.2.2 k hlt HC.out hfree.out⟩
                  case measure => simp [intOf]; omega
              · go_wp2
                go_ret
                refine ⟨ret_bool ?_, ok1, HB.out⟩
                rw [HV2.out]
                have hkk : k = n.2.2.data.toList.length := by rw [← Hog.size_len]; omega
                have hf := hfree.out
                rw [hkk, List.take_length] at hf
                have : dataFree n.2.2 = true := by unfold dataFree; rw [decide_eq_true_eq]; exact hf
                rw [this, Bool.and_true]
                rfl
          · have b4 : (n.2.1 == 4) = false := by rw [beq_eq_false_iff_ne]; exact h4
            have HV2 : Hid (b = false) := by
              rw [← HV.out, HG.out]
              show ruleB _ _ = _
              unfold ruleB
              rw [if_neg h1, if_neg h2, if_neg h4]
            clear h1 h2 h4
            go_wp2
            go_ret
            exact ⟨ret_bool HV2.out.symm, ok1, HB.out⟩
end Go.Proofs.YtecjkkipglldlaaGreatDoor
