/- The walk of the document's own Part. -/
import Derived.Test.YtdgchinfanialaaDoorApd
namespace Go.Proofs.YtdgchinfanialaaDoor
open Go.RowKit

theorem take_byte (s : ByteArray) (k : Nat) (h : k < s.size) : s.data.toList.take (k + 1) = s.data.toList.take k ++ [s[k]] := by
  rw [List.take_succ_eq_append_getElem (by rw [← Hog.size_len]; exact h)]; rfl
theorem at_byte (s : ByteArray) (k : Nat) (h : k < s.size) : s.data.toList[k]? = some s[k] := Lib.data_getElem? s k h
theorem byte_is {u : UInt8} {n : Nat} (hn : n < 256) (h : ((u.toNat : Int) == (n : Int)) = true) : u = UInt8.ofNat n := by
  have h2 : u.toNat = n := by have := beq_iff_eq.1 h; omega
  apply UInt8.toNat_inj.1
  rw [h2, UInt8.toNat_ofNat', Nat.mod_eq_of_lt hn]
theorem byte_not {u : UInt8} {n : Nat} (hn : n < 256) (h : ((u.toNat : Int) == (n : Int)) = false) : u ≠ UInt8.ofNat n := by
  intro e
  have h2 : u.toNat = n := by rw [e, UInt8.toNat_ofNat', Nat.mod_eq_of_lt hn]
  rw [beq_eq_false_iff_ne] at h
  exact h (by rw [h2])

/-- A text without a stroke and a nought: what is left to ask. -/
theorem part_free {l : List UInt8} (h1 : 47 ∉ l) (h2 : 0 ∉ l) : Hog.partL l = (!(l.isEmpty || decide (60 < l.length)) && !(l == [46] || l == [46, 46] || Lib.hasPrefix l [46, 119, 104, 46])) := by
  unfold Hog.partL
  rw [decide_eq_true ((Hog.indexByte_neg l 47).2 h1), decide_eq_true ((Hog.indexByte_neg l 0).2 h2), Bool.and_self, Bool.and_true]
theorem part_bad {l : List UInt8} (h : 47 ∈ l ∨ 0 ∈ l) : Hog.partL l = false := by
  cases hp : Hog.partL l with
  | false => rfl
  | true =>
    obtain ⟨_, _, h1, h2⟩ := Hog.part_parts hp
    rcases h with h | h
    · exact absurd h h1
    · exact absurd h h2

theorem byte_mem (s : ByteArray) (k : Nat) (hk : k < s.size) {n : Nat} (hn : n < 256) (h : ((s[k].toNat : Nat) : Int) = (n : Int)) : UInt8.ofNat n ∈ s.data.toList := by
  have e := byte_is hn (beq_iff_eq.2 h)
  rw [← e]
  exact List.mem_of_getElem? (at_byte s k hk)
theorem free_step (s : ByteArray) (k : Nat) (hk : k < s.size) (h1 : (((s[k].toNat : Nat) : Int) == 47) = false) (h2 : (((s[k].toNat : Nat) : Int) == 0) = false) (h : 47 ∉ s.data.toList.take k ∧ 0 ∉ s.data.toList.take k) : 47 ∉ s.data.toList.take (k + 1) ∧ 0 ∉ s.data.toList.take (k + 1) := by
  rw [take_byte s k hk]
  have e1 : s[k] ≠ 47 := byte_not (n := 47) (by decide) h1
  have e2 : s[k] ≠ 0 := byte_not (n := 0) (by decide) h2
  exact ⟨by simp only [List.mem_append, List.mem_singleton, not_or]; exact ⟨h.1, fun e => e1 e.symm⟩, by simp only [List.mem_append, List.mem_singleton, not_or]; exact ⟨h.2, fun e => e2 e.symm⟩⟩

theorem part_val (s : ByteArray) (hf : 47 ∉ s.data.toList ∧ 0 ∉ s.data.toList) :
    Hog.partL s.data.toList = (decide ((1 : Int) ≤ (s.size : Int)) && decide ((s.size : Int) ≤ 60) && (!s.toList == [46]) && (!s.toList == [46, 46]) && !(decide ((4 : Int) ≤ (s.size : Int)) && (s.extract 0 4).toList == [46, 119, 104, 46])) := by
  rw [part_free hf.1 hf.2, ← Lib.hasPrefix_of_take, Lib.toList_data, Lib.extract_toList]
  have hz := Hog.size_len s
  have e1 : (!(s.data.toList.isEmpty || decide (60 < s.data.toList.length))) = (decide ((1 : Int) ≤ (s.size : Int)) && decide ((s.size : Int) ≤ 60)) := by
    rw [Bool.eq_iff_iff]
    simp only [Bool.not_eq_true', Bool.or_eq_false_iff, Bool.and_eq_true, decide_eq_true_eq, decide_eq_false_iff_not, List.isEmpty_eq_false_iff, ← List.length_pos_iff]
    omega
  have e2 : decide (([46, 119, 104, 46] : List UInt8).length ≤ s.data.toList.length) = decide ((4 : Int) ≤ (s.size : Int)) := by
    rw [Bool.eq_iff_iff]
    simp only [decide_eq_true_eq, List.length_cons, List.length_nil]
    omega
  rw [e1, e2]
  simp [Bool.and_assoc]

set_option maxHeartbeats 800000 in
theorem rpart_any (s : ByteArray) (w : World) (hs : s.size < 1000000) :
    Calls Tryd.prog 48 #[.string s] w fun e w' => e = .returned (.bool (Hog.partL s.data.toList)) ∧ w' = w := by
  go_enter Tryd.func48, Tryd.ntmps48
  go_wp2
  go_loop [3] (fun i => ∃ k : Nat, k ≤ s.size ∧ i = .int .i64 k ∧ Hid (47 ∉ s.data.toList.take k ∧ 0 ∉ s.data.toList.take k)) (fun i => s.size - (intOf i).toNat)
  case atStart => exact ⟨0, Nat.zero_le _, rfl, by simp [Hid]⟩
  case round =>
    obtain ⟨k, hk, rfl, hfree⟩ := hrel
    by_cases hlt : k < s.size
    · go_wp2
      · have h : ((s[k].toNat : Nat) : Int) = 47 := by assumption
        go_ret
        exact ⟨ret_bool (part_bad (.inl (byte_mem s k hlt (n := 47) (by decide) h))).symm, rfl⟩
      · have h : (((s[k].toNat : Nat) : Int) == 47) = true ∨ (((s[k].toNat : Nat) : Int) == 0) = true := by assumption
        go_ret
        refine ⟨ret_bool (part_bad ?_).symm, rfl⟩
        rcases h with h | h
        · exact .inl (byte_mem s k hlt (n := 47) (by decide) (beq_iff_eq.1 h))
        · exact .inr (byte_mem s k hlt (n := 0) (by decide) (beq_iff_eq.1 h))
      · have h : (((s[k].toNat : Nat) : Int) == 47) = false ∧ (((s[k].toNat : Nat) : Int) == 0) = false := by assumption
        go_round
        case rel => exact ⟨k + 1, by omega, by go_num, free_step s k hlt h.1 h.2 hfree.out⟩
        case measure => simp [intOf]; omega
    · have hkk : k = s.size := by omega
      have hf : Hid (47 ∉ s.data.toList ∧ 0 ∉ s.data.toList) := by
        have h := hfree.out
        rw [hkk, Hog.size_len, List.take_length] at h
        exact h
      clear hkk hfree
      go_wp2
      all_goals
        go_ret
        refine ⟨ret_bool ?_, rfl⟩
        rw [part_val s hf.out]
        first
          | (rw [decide_eq_false (show ¬ (1 : Int) ≤ (s.size : Int) by omega)]; simp; done)
          | (rw [decide_eq_false (show ¬ (s.size : Int) ≤ 60 by omega)]; simp; done)
          | (have h : s.toList = [46] := by assumption
             simp [h]; done)
          | (have h : s.toList = [46, 46] := by assumption
             simp [h]; done)
          | (rw [decide_eq_true (show (1 : Int) ≤ (s.size : Int) by omega), decide_eq_true (show (s.size : Int) ≤ 60 by omega), decide_eq_true (show (4 : Int) ≤ (s.size : Int) by omega)]; simp; done)
          | (rw [decide_eq_true (show (1 : Int) ≤ (s.size : Int) by omega), decide_eq_true (show (s.size : Int) ≤ 60 by omega), decide_eq_false (show ¬ (4 : Int) ≤ (s.size : Int) by omega)]; simp; done)

end Go.Proofs.YtdgchinfanialaaDoor
