/- The walks of package head and of the document's own answer, chapter 12: OfOctal. -/
import Derived.Test.YtecjkkipglldlaaGreatDoorHA
namespace Go.Proofs.YtecjkkipglldlaaGreatDoor
open Go.RowKit Hog

theorem ret_of (l : List UInt8) {n : Nat} {b : Bool} (hn : ofT l = n) (hb : ofR l = b) : Ending.returned (.tuple #[.int .i64 n, .bool b]) = .returned (.tuple #[.int .i64 (ofT l), .bool (ofR l)]) := by rw [hn, hb]
theorem of_out {l : List UInt8} (h : l.length < 1 ∨ 11 < l.length) : ofR l = false ∧ ofT l = 0 := by
  have e : ofR l = false := by
    unfold ofR
    rw [decide_eq_false (by omega)]; rfl
  exact ⟨e, by unfold ofT; rw [e]; rfl⟩
theorem of_bad {l : List UInt8} {k : Nat} {x : UInt8} (hx : l[k]? = some x) (h : dig x = false) : ofR l = false ∧ ofT l = 0 := by
  have e : ofR l = false := by
    unfold ofR
    rw [Bool.and_eq_false_iff]
    refine .inr ?_
    rw [List.all_eq_false]
    exact ⟨x, List.mem_of_getElem? hx, by rw [h]; simp⟩
  exact ⟨e, by unfold ofT; rw [e]; rfl⟩
theorem of_good {l : List UInt8} (h1 : 1 ≤ l.length) (h11 : l.length ≤ 11) (h : l.all dig = true) : ofR l = true ∧ ofT l = numO l := by
  have e : ofR l = true := by
    unfold ofR
    rw [h, Bool.and_true, decide_eq_true_eq]; exact ⟨h1, h11⟩
  exact ⟨e, by unfold ofT; rw [if_pos e]⟩
theorem str_at {s : ByteArray} {k : Nat} (h : k < s.size) : s.data.toList[k]? = some s[k] := by
  rw [List.getElem?_eq_getElem (by rw [← Hog.size_len]; exact h)]
  simp [ByteArray.getElem_eq_getElem_data]
theorem byte_num {x : UInt8} (h : dig x = true) : IntKind.u8.wrap ((x.toNat : Int) - 48) = ((x.toNat - 48 : Nat) : Int) := by
  have := dig_range h
  rw [IntKind.wrap_u8]; omega
theorem dig_under {x : UInt8} (h : x.toNat < 48) : dig x = false := by unfold dig; rw [decide_eq_false (by omega)]; rfl
theorem dig_over {x : UInt8} (h : 56 ≤ x.toNat) : dig x = false := by unfold dig; rw [decide_eq_false (show ¬ x.toNat < 56 by omega), Bool.and_false]

set_option maxRecDepth 100000 in
set_option maxHeartbeats 1000000 in
theorem ofoctal_in (s : ByteArray) (w : World) (h1 : 1 ≤ s.size) (h11 : s.size ≤ 11) :
    Calls Tryz.prog 79 #[.string s] w fun e w' => e = .returned (.tuple #[.int .i64 (ofT s.data.toList), .bool (ofR s.data.toList)]) ∧ w' = w := by
  have t1 : (s.toList == []) = false := by
    rw [beq_eq_false_iff_ne, Lib.toList_data]
    intro e
    have := congrArg List.length e
    rw [← Hog.size_len, List.length_nil] at this
    omega
  have t2 : ¬ ((s.size : Int) > 11) := by omega
  go_enter Tryz.func79, Tryz.ntmps79
  go_wp2
  go_loopw [4, 5, 6] (fun n p i wr => ∃ (k a b : Nat) (x : Int), k ≤ s.size ∧ x = (s.size : Int) - 1 - (k : Int) ∧ i = .int .i64 x ∧ n = .int .i64 a ∧ p = .int .i64 b ∧ Hid ((s.data.toList.drop (s.size - k)).all dig = true) ∧ Hid (a = numO (s.data.toList.drop (s.size - k))) ∧ Hid (b = 8 ^ k) ∧ b ≤ 8589934592 ∧ a < 8589934592 ∧ wr = w) (fun _ _ i _ => (intOf i + 1).toNat)
  case atStart =>
    refine ⟨0, 0, 1, (s.size : Int) - 1, by omega, by omega, rfl, rfl, rfl, ?_, ?_, rfl, by omega, by omega, rfl⟩
    · rw [Nat.sub_zero, List.drop_of_length_le (by rw [← Hog.size_len]; omega)]; rfl
    · rw [Nat.sub_zero, List.drop_of_length_le (by rw [← Hog.size_len]; omega)]; rfl
  case round =>
    obtain ⟨k, a, b, x, hk, hx, rfl, rfl, rfl, hall, ha, hb, hb8, ha8, rfl⟩ := hrel
    by_cases hlt : k < s.size
    · obtain ⟨j, rfl⟩ : ∃ j : Nat, x = j := ⟨s.size - 1 - k, by omega⟩
      have hj : j < s.size := by omega
      have hjk : j + k + 1 = s.size := by omega
      have HX := hide (str_at hj)
      have HJ := hide hjk
      have hj0 : (0 : Int) ≤ (j : Int) := by omega
      have hji : (j : Int) < (s.size : Int) := by omega
      clear hx hlt hjk
      by_cases h48 : s[j].toNat < 48
      · have c1 : ((s[j].toNat : Int) < 48) := by omega
        obtain ⟨e1, e2⟩ := of_bad HX.out (dig_under h48)
        have HR := hide e1
        have HT := hide e2
        clear e1 e2 h48
        go_wp2
        go_ret2
        exact ⟨ret_of _ HT.out HR.out, rfl⟩
      · by_cases h56 : 56 ≤ s[j].toNat
        · have c1 : ¬ ((s[j].toNat : Int) < 48) := by omega
          have c2 : (s[j].toNat : Int) ≥ 56 := by omega
          obtain ⟨e1, e2⟩ := of_bad HX.out (dig_over h56)
          have HR := hide e1
          have HT := hide e2
          clear e1 e2 h48 h56
          go_wp2
          go_ret2
          exact ⟨ret_of _ HT.out HR.out, rfl⟩
        · have hd : dig s[j] = true := by unfold dig; rw [decide_eq_true (show 48 ≤ s[j].toNat by omega), decide_eq_true (show s[j].toNat < 56 by omega)]; rfl
          have c1 : ¬ ((s[j].toNat : Int) < 48) := by omega
          have c2 : ¬ ((s[j].toNat : Int) ≥ 56) := by omega
          have HD := hide hd
          have hu := byte_num hd
          obtain ⟨d, hde⟩ : ∃ d, s[j].toNat - 48 = d := ⟨_, rfl⟩
          rw [hde] at hu
          have hd8 : d < 8 := by omega
          have hd0 : (0 : Int) ≤ (d : Int) := by omega
          have hdi : (d : Int) < 8 := by omega
          obtain ⟨m, hm⟩ : ∃ m, d * b = m := ⟨_, rfl⟩
          have hmb : m ≤ 60129542144 := by
            rw [← hm]
            exact Nat.le_trans (Nat.mul_le_mul (show d ≤ 7 by omega) hb8) (by decide)
          have hmi : IntKind.i64.wrap ((d : Int) * (b : Int)) = (m : Int) := by
            rw [← hm, IntKind.wrap_i64]
            have : ((d * b : Nat) : Int) ≤ 60129542144 := by rw [hm]; omega
            rw [Int.natCast_mul] at this ⊢
            have : (0 : Int) ≤ (d : Int) * (b : Int) := Int.mul_nonneg (by omega) (by omega)
            omega
          have hmz : (m : Int) ≤ 60129542144 := by omega
          have hai : (a : Int) < 8589934592 := by omega
          have hbi : (b : Int) ≤ 8589934592 := by omega
          have HDE := hide hde
          have HM := hide hm
          clear hd h48 h56 hde hm hmb
          go_wp2
          go_roundw
          case rel =>
            have hlen := Hog.size_len s
            have hjk := HJ.out
            have e1 : s.size - (k + 1) = j := by omega
            have e2 : s.size - k = j + 1 := by omega
            have hall2 : (s.data.toList.drop j).all dig = true := by
              obtain ⟨h1, h2⟩ := List.getElem?_eq_some_iff.1 HX.out
              rw [List.drop_eq_getElem_cons h1, List.all_cons, h2, HD.out, Bool.true_and, ← e2]
              exact hall.out
            have hnum : a + m = numO (s.data.toList.drop j) := by
              rw [numO_back HX.out, HDE.out, ha.out, e2, ← HM.out, hb.out, show s.data.toList.length - (j + 1) = k by omega]
              omega
            have hpow : b * 8 = 8 ^ (k + 1) := by rw [hb.out, Nat.pow_succ]
            have h8 : 8 ^ (k + 1) ≤ 8 ^ 11 := Nat.pow_le_pow_right (by decide) (by omega)
            have h811 : 8 ^ 11 = 8589934592 := by decide
            have hlt2 : a + m < 8589934592 := by
              have h3 := numO_lt _ hall2
              rw [← hnum, List.length_drop, show s.data.toList.length - j = k + 1 by omega] at h3
              omega
            refine ⟨k + 1, a + m, b * 8, (j : Int) - 1, by omega, by omega, rfl, by go_num, by go_num, ?_, ?_, hide hpow, by omega, hlt2, trivial⟩
            · rw [e1]; exact hide hall2
            · rw [e1]; exact hide hnum
          case measure => simp [intOf]
    · obtain rfl : k = s.size := by omega
      have hall2 := hall.out
      have ha2 := ha.out
      rw [Nat.sub_self, List.drop_zero] at hall2 ha2
      obtain ⟨e1, e2⟩ := of_good (by rw [← Hog.size_len]; exact h1) (by rw [← Hog.size_len]; exact h11) hall2
      have HR := hide e1
      have HT := hide (e2.trans ha2.symm)
      have hx0 : x < 0 := by omega
      clear hx hall2 ha2 e1 e2
      go_wp2
      go_ret2
      exact ⟨ret_of _ HT.out HR.out, rfl⟩
set_option maxHeartbeats 400000 in
theorem ofoctal_out (s : ByteArray) (w : World) (h : s.size < 1 ∨ 11 < s.size) :
    Calls Tryz.prog 79 #[.string s] w fun e w' => e = .returned (.tuple #[.int .i64 (0 : Nat), .bool false]) ∧ w' = w := by
  rcases h with h | h
  · have t1 : (s.toList == []) = true := by
      rw [beq_iff_eq, Lib.toList_data]
      exact List.eq_nil_of_length_eq_zero (by rw [← Hog.size_len]; omega)
    go_enter Tryz.func79, Tryz.ntmps79
    go_wp2
    go_ret2
    exact ⟨rfl, rfl⟩
  · have t1 : (s.toList == []) = false := by
      rw [beq_eq_false_iff_ne, Lib.toList_data]
      intro e
      have := congrArg List.length e
      rw [← Hog.size_len, List.length_nil] at this
      omega
    have t2 : (s.size : Int) > 11 := by omega
    go_enter Tryz.func79, Tryz.ntmps79
    go_wp2
    go_ret2
    exact ⟨rfl, rfl⟩
theorem ofoctal_ok (s : ByteArray) (l : List UInt8) (n : Nat) (b : Bool) (w : World) (hl : s.data.toList = l) (hn : ofT l = n) (hb : ofR l = b) :
    Calls Tryz.prog 79 #[.string s] w fun e w' => e = .returned (.tuple #[.int .i64 n, .bool b]) ∧ w' = w := by
  subst hl
  subst hn
  subst hb
  by_cases ho : s.size < 1 ∨ 11 < s.size
  · obtain ⟨e1, e2⟩ := of_out (l := s.data.toList) (by rw [← Hog.size_len]; exact ho)
    rw [e1, e2]
    exact ofoctal_out s w ho
  · exact ofoctal_in s w (by omega) (by omega)

set_option maxRecDepth 100000 in
set_option maxHeartbeats 1000000 in
theorem rofoctal_in (s : ByteArray) (w : World) (h1 : 1 ≤ s.size) (h11 : s.size ≤ 11) :
    Calls Tryz.prog 32 #[.string s] w fun e w' => e = .returned (.tuple #[.int .i64 (ofT s.data.toList), .bool (ofR s.data.toList)]) ∧ w' = w := by
  have t1 : ¬ ((s.size : Int) < 1) := by omega
  have t2 : ¬ ((s.size : Int) > 11) := by omega
  have t3 : (s.size : Int) ≤ 11 := by omega
  go_enter Tryz.func32, Tryz.ntmps32
  go_wp2
  go_loopw [4, 5] (fun n i wr => ∃ (k a : Nat), k ≤ s.size ∧ i = .int .i64 k ∧ n = .int .i64 a ∧ Hid ((s.data.toList.take k).all dig = true) ∧ Hid (a = numO (s.data.toList.take k)) ∧ a < 8589934592 ∧ wr = w) (fun _ i _ => s.size - (intOf i).toNat)
  case atStart => exact ⟨0, 0, by omega, rfl, rfl, by rw [List.take_zero]; rfl, by rw [List.take_zero]; rfl, by omega, rfl⟩
  case round =>
    obtain ⟨k, a, hk, rfl, rfl, hall, ha, ha8, rfl⟩ := hrel
    by_cases hlt : k < s.size
    · have HX := hide (str_at hlt)
      have hk0 : (0 : Int) ≤ (k : Int) := by omega
      have hki : (k : Int) < (s.size : Int) := by omega
      by_cases h48 : s[k].toNat < 48
      · have c1 : ((s[k].toNat : Int) < 48) := by omega
        obtain ⟨e1, e2⟩ := of_bad HX.out (dig_under h48)
        have HR := hide e1
        have HT := hide e2
        clear e1 e2 h48
        go_wp2
        go_ret2
        exact ⟨ret_of _ HT.out HR.out, rfl⟩
      · by_cases h56 : 56 ≤ s[k].toNat
        · have c1 : ¬ ((s[k].toNat : Int) < 48) := by omega
          have c2 : (s[k].toNat : Int) > 55 := by omega
          obtain ⟨e1, e2⟩ := of_bad HX.out (dig_over h56)
          have HR := hide e1
          have HT := hide e2
          clear e1 e2 h48 h56
          go_wp2
          go_ret2
          exact ⟨ret_of _ HT.out HR.out, rfl⟩
        · have hd : dig s[k] = true := by unfold dig; rw [decide_eq_true (show 48 ≤ s[k].toNat by omega), decide_eq_true (show s[k].toNat < 56 by omega)]; rfl
          have c1 : ¬ ((s[k].toNat : Int) < 48) := by omega
          have c2 : ¬ ((s[k].toNat : Int) > 55) := by omega
          have HD := hide hd
          have hu := byte_num hd
          obtain ⟨d, hde⟩ : ∃ d, s[k].toNat - 48 = d := ⟨_, rfl⟩
          rw [hde] at hu
          have hd8 : d < 8 := by omega
          have hd0 : (0 : Int) ≤ (d : Int) := by omega
          have hdi : (d : Int) < 8 := by omega
          have hai : (a : Int) < 8589934592 := by omega
          have HDE := hide hde
          have HLT := hide hlt
          clear hd h48 h56 hde
          go_wp2
          go_roundw
          case rel =>
            have hlen := Hog.size_len s
            have hlt := HLT.out
            have hall2 : (s.data.toList.take (k + 1)).all dig = true := by
              obtain ⟨h1, h2⟩ := List.getElem?_eq_some_iff.1 HX.out
              rw [List.take_succ_eq_append_getElem h1, List.all_append, hall.out, h2, List.all_cons, HD.out]; rfl
            have hnum : a * 8 + d = numO (s.data.toList.take (k + 1)) := by rw [numO_step HX.out, HDE.out, ha.out]
            have h8 : 8 ^ (k + 1) ≤ 8 ^ 11 := Nat.pow_le_pow_right (by decide) (by omega)
            have h811 : 8 ^ 11 = 8589934592 := by decide
            have hlt2 : a * 8 + d < 8589934592 := by
              have h3 := numO_lt _ hall2
              rw [← hnum, List.length_take, Nat.min_eq_left (by omega)] at h3
              omega
            exact ⟨k + 1, a * 8 + d, by omega, by go_num, by go_num, hide hall2, hide hnum, hlt2, trivial⟩
          case measure => have := HLT.out; simp [intOf]; omega
    · obtain rfl : k = s.size := by omega
      have hall2 := hall.out
      have ha2 := ha.out
      rw [Hog.size_len, List.take_length] at hall2 ha2
      obtain ⟨e1, e2⟩ := of_good (by rw [← Hog.size_len]; exact h1) (by rw [← Hog.size_len]; exact h11) hall2
      have HR := hide e1
      have HT := hide (e2.trans ha2.symm)
      clear hall2 ha2 e1 e2
      go_wp2
      go_ret2
      exact ⟨ret_of _ HT.out HR.out, rfl⟩
set_option maxRecDepth 100000 in
set_option maxHeartbeats 400000 in
theorem rofoctal_out (s : ByteArray) (w : World) (h : s.size < 1 ∨ 11 < s.size) :
    Calls Tryz.prog 32 #[.string s] w fun e w' => e = .returned (.tuple #[.int .i64 (0 : Nat), .bool false]) ∧ w' = w := by
  rcases h with h | h
  · have t1 : (s.size : Int) < 1 := by omega
    go_enter Tryz.func32, Tryz.ntmps32
    go_wp2
    go_loopw [5] (fun i wr => i = .int .i64 (0 : Nat) ∧ wr = w) (fun _ _ => 0)
    case atStart => exact ⟨rfl, rfl⟩
    case round =>
      obtain ⟨rfl, rfl⟩ := hrel
      have c1 : ¬ ((0 : Int) < (s.size : Int)) := by omega
      go_wp2
      go_ret2
      exact ⟨rfl, rfl⟩
  · have t1 : ¬ ((s.size : Int) < 1) := by omega
    have t2 : (s.size : Int) > 11 := by omega
    have t3 : ¬ ((s.size : Int) ≤ 11) := by omega
    go_enter Tryz.func32, Tryz.ntmps32
    go_wp2
    go_loopw [5] (fun i wr => i = .int .i64 (0 : Nat) ∧ wr = w) (fun _ _ => 0)
    case atStart => exact ⟨rfl, rfl⟩
    case round =>
      obtain ⟨rfl, rfl⟩ := hrel
      have c1 : (0 : Int) < (s.size : Int) := by omega
      go_wp2
      go_ret2
      exact ⟨rfl, rfl⟩
theorem rofoctal_ok (s : ByteArray) (l : List UInt8) (n : Nat) (b : Bool) (w : World) (hl : s.data.toList = l) (hn : ofT l = n) (hb : ofR l = b) :
    Calls Tryz.prog 32 #[.string s] w fun e w' => e = .returned (.tuple #[.int .i64 n, .bool b]) ∧ w' = w := by
  subst hl
  subst hn
  subst hb
  by_cases ho : s.size < 1 ∨ 11 < s.size
  · obtain ⟨e1, e2⟩ := of_out (l := s.data.toList) (by rw [← Hog.size_len]; exact ho)
    rw [e1, e2]
    exact rofoctal_out s w ho
  · exact rofoctal_in s w (by omega) (by omega)
end Go.Proofs.YtecjkkipglldlaaGreatDoor
