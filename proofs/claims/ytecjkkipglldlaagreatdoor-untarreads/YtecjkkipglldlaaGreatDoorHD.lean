/- The walks of head's look, mayBe, kindOf, sumOf, and of the document's zero, mode, letter. -/
import Derived.Test.YtecjkkipglldlaaGreatDoorHC
import Derived.Deep.QuietTactic
import Derived.BigQuiet
namespace Go.Proofs.YtecjkkipglldlaaGreatDoor
open Go.RowKit Hog

theorem five {k : Int} (h1 : 1 ≤ k) (h5 : k ≤ 5) : k = 1 ∨ k = 2 ∨ k = 3 ∨ k = 4 ∨ k = 5 := by omega
set_option maxHeartbeats 400000 in
theorem look_ok (k : Int) (md : List UInt8) (sg : UInt8) (w : World) (h1 : 1 ≤ k) (h5 : k ≤ 5) (hm : pad 8 (modeK k) = md) (hs : signK k = sg) :
    Calls Tryz.prog 58 #[.int .i64 k] w fun e w' => e = .returned (.tuple #[.string (mk md), .int .u8 sg.toNat]) ∧ w' = w := by
  subst hm
  subst hs
  rcases five h1 h5 with rfl | rfl | rfl | rfl | rfl
  all_goals
    go_enter Tryz.func58, Tryz.ntmps58
    go_wp2
    go_ret2
    exact ⟨rfl, rfl⟩
theorem nil_yes {s : ByteArray} {l : List UInt8} (hl : s.data.toList = l) (h : l = []) : (s.toList == []) = true := by
  rw [beq_iff_eq, Lib.toList_data, hl, h]
theorem nil_no {s : ByteArray} {l : List UInt8} (hl : s.data.toList = l) (h : l ≠ []) : (s.toList == []) = false := by
  rw [beq_eq_false_iff_ne, Lib.toList_data, hl]; exact h
set_option maxHeartbeats 1000000 in
theorem maybe_ok (k sz : Int) (s : ByteArray) (l : List UInt8) (r : Bool) (w : World) (hl : s.data.toList = l) (hr : mayK k sz l = r) :
    Calls Tryz.prog 57 #[.int .i64 k, .int .i64 sz, .string s] w fun e w' => e = .returned (.bool r) ∧ w' = w := by
  subst hr
  have HK : ∀ b : Bool, (b = true ↔ ((k = 1 ∧ sz = 0 ∧ l = []) ∨ (k = 4 ∧ sz = 0 ∧ l ≠ []) ∨ ((k = 2 ∨ k = 3 ∨ k = 5) ∧ l = []))) → mayK k sz l = b := by
    intro b hb
    unfold mayK
    cases b
    · rw [decide_eq_false_iff_not]
      exact fun h => by simpa using hb.2 h
    · rw [decide_eq_true_eq]
      exact hb.1 rfl
  by_cases hk : 1 ≤ k ∧ k ≤ 5
  · have HN : Hid (l = []) ∧ (s.toList == []) = true ∨ Hid (l ≠ []) ∧ (s.toList == []) = false := by
      by_cases e : l = []
      · exact .inl ⟨hide e, nil_yes hl e⟩
      · exact .inr ⟨hide e, nil_no hl e⟩
    have HZ : sz = 0 ∨ Hid (sz ≠ 0) ∧ (sz == 0) = false := by
      by_cases e : sz = 0
      · exact .inl e
      · exact .inr ⟨hide e, by rw [beq_eq_false_iff_ne]; exact e⟩
    rcases HZ with rfl | ⟨HZ, z1⟩
    all_goals
      rcases HN with ⟨HN, n1⟩ | ⟨HN, n1⟩
      all_goals
        rcases five hk.1 hk.2 with rfl | rfl | rfl | rfl | rfl
        all_goals
          have HH := hide HK
          clear HK
          go_enter Tryz.func57, Tryz.ntmps57
          go_wp2
          go_ret
          refine ⟨ret_bool (HH.out _ ?_).symm, rfl⟩
          first
            | (simp [HN.out]; done)
            | (simp [HN.out, HZ.out]; done)
  · have c1 : (k == 1) = false := by rw [beq_eq_false_iff_ne]; omega
    have c2 : (k == 2) = false := by rw [beq_eq_false_iff_ne]; omega
    have c3 : (k == 3) = false := by rw [beq_eq_false_iff_ne]; omega
    have c4 : (k == 4) = false := by rw [beq_eq_false_iff_ne]; omega
    have c5 : (k == 5) = false := by rw [beq_eq_false_iff_ne]; omega
    have HR := hide (HK false ⟨fun h => (by cases h), fun h => (by omega)⟩)
    clear hk HK
    go_enter Tryz.func57, Tryz.ntmps57
    go_wp2
    go_ret
    exact ⟨ret_bool HR.out.symm, rfl⟩
set_option maxHeartbeats 400000 in
theorem rletter_ok (k : Int) (sg : UInt8) (w : World) (h1 : 1 ≤ k) (h5 : k ≤ 5) (hs : signK k = sg) :
    Calls Tryz.prog 51 #[.int .i64 k] w fun e w' => e = .returned (.int .u8 sg.toNat) ∧ w' = w := by
  subst hs
  rcases five h1 h5 with rfl | rfl | rfl | rfl | rfl
  all_goals
    go_enter Tryz.func51, Tryz.ntmps51
    go_wp2
    go_ret
    exact ⟨rfl, rfl⟩
set_option maxHeartbeats 400000 in
theorem rmode_any (k : Int) (md : List UInt8) (w : World) (h1 : 1 ≤ k) (h5 : k ≤ 5) (hm : modeK k = md) :
    Calls Tryz.prog 50 #[.int .i64 k] w fun e w' => e = .returned (.string (mk md)) ∧ Below w.heap.size w w' := by
  subst hm
  rcases five h1 h5 with rfl | rfl | rfl | rfl | rfl
  all_goals
    go_enter Tryz.func50, Tryz.ntmps50
    go_wp2
    go_ret
    exact ⟨rfl, below_alloc _ _⟩
set_option maxHeartbeats 400000 in
theorem rzero_ok (s : ByteArray) (l : List UInt8) (r : Bool) (w : World) (hl : s.data.toList = l) (hr : decide ((0 : UInt8) ∈ l) = r) (hs : s.size < 1000000000) :
    Calls Tryz.prog 48 #[.string s] w fun e w' => e = .returned (.bool r) ∧ w' = w := by
  subst hl
  have HR := hide hr
  clear hr
  go_enter Tryz.func48, Tryz.ntmps48
  go_wp2
  go_loopw [3] (fun i wr => ∃ k : Nat, k ≤ s.size ∧ i = .int .i64 k ∧ Hid ((0 : UInt8) ∉ s.data.toList.take k) ∧ wr = w) (fun i _ => s.size - (intOf i).toNat)
  case atStart => exact ⟨0, Nat.zero_le _, rfl, by simp [Hid], rfl⟩
  case round =>
    obtain ⟨k, hk, rfl, hno, rfl⟩ := hrel
    by_cases hlt : k < s.size
    · have HX := hide (str_at hlt)
      have hki : (k : Int) < (s.size : Int) := by omega
      have hk0 : (0 : Int) ≤ (k : Int) := by omega
      by_cases h0 : s[k] = 0
      · have c1 : ((s[k].toNat : Int) == 0) = true := by rw [h0]; rfl
        have hm : decide ((0 : UInt8) ∈ s.data.toList) = true := by
          rw [decide_eq_true_eq]
          have := HX.out
          rw [h0] at this
          exact List.mem_of_getElem? this
        have HM := hide hm
        clear hm h0
        go_wp2
        go_ret
        exact ⟨ret_bool (HM.out.symm.trans HR.out), rfl⟩
      · have c1 : ((s[k].toNat : Int) == 0) = false := by
          rw [beq_eq_false_iff_ne]
          intro e
          apply h0
          apply UInt8.toNat_inj.1
          rw [show (0 : UInt8).toNat = 0 by rfl]
          omega
        have HN := hide h0
        clear h0
        go_wp2
        go_roundw
        case rel =>
          refine ⟨k + 1, by omega, by go_num, hide ?_, trivial⟩
          obtain ⟨h1, h2⟩ := List.getElem?_eq_some_iff.1 HX.out
          rw [List.take_succ_eq_append_getElem h1, h2, List.mem_append, List.mem_singleton]
          rintro (h | h)
          · exact hno.out h
          · exact HN.out h.symm
        case measure => simp [intOf]; omega
    · obtain rfl : k = s.size := by omega
      have hm : decide ((0 : UInt8) ∈ s.data.toList) = false := by
        have := hno.out
        rw [Hog.size_len, List.take_length] at this
        exact decide_eq_false this
      have HM := hide hm
      clear hm
      go_wp2
      go_ret
      exact ⟨ret_bool (HM.out.symm.trans HR.out), rfl⟩
end Go.Proofs.YtecjkkipglldlaaGreatDoor
