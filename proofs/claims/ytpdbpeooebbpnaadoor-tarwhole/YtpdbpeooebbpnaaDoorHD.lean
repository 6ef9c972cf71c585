/- The walks of head's look, mayBe, kindOf, sumOf, and of the document's zero, mode, letter. -/
import Derived.Test.YtpdbpeooebbpnaaDoorHC
import Derived.Deep.QuietTactic
import Derived.BigQuiet
namespace Go.Proofs.YtpdbpeooebbpnaaDoor
open Go.RowKit Hog

theorem five {k : Int} (h1 : 1 ≤ k) (h5 : k ≤ 5) : k = 1 ∨ k = 2 ∨ k = 3 ∨ k = 4 ∨ k = 5 := by omega
set_option maxHeartbeats 400000 in
theorem look_ok (k : Int) (md : List UInt8) (sg : UInt8) (w : World) (h1 : 1 ≤ k) (h5 : k ≤ 5) (hm : pad 8 (modeK k) = md) (hs : signK k = sg) :
    Calls Tryd.prog 32 #[.int .i64 k] w fun e w' => e = .returned (.tuple #[.string (mk md), .int .u8 sg.toNat]) ∧ w' = w := by
  subst hm
  subst hs
  rcases five h1 h5 with rfl | rfl | rfl | rfl | rfl
  all_goals
    go_enter Tryd.func32, Tryd.ntmps32
    go_wp2
    go_ret2
    exact ⟨rfl, rfl⟩
theorem nil_yes {s : ByteArray} {l : List UInt8} (hl : s.data.toList = l) (h : l = []) : (s.toList == []) = true := by
  rw [beq_iff_eq, Lib.toList_data, hl, h]
theorem nil_no {s : ByteArray} {l : List UInt8} (hl : s.data.toList = l) (h : l ≠ []) : (s.toList == []) = false := by
  rw [beq_eq_false_iff_ne, Lib.toList_data, hl]; exact h
set_option maxHeartbeats 1000000 in
theorem maybe_ok (k sz : Int) (s : ByteArray) (l : List UInt8) (r : Bool) (w : World) (hl : s.data.toList = l) (hr : mayK k sz l = r) :
    Calls Tryd.prog 35 #[.int .i64 k, .int .i64 sz, .string s] w fun e w' => e = .returned (.bool r) ∧ w' = w := by
  subst hr
  have HK : ∀ b : Bool, (b = true ↔ ((k = 1 ∧ sz = 0 ∧ l = []) ∨ (k = 4 ∧ sz = 0 ∧ l ≠ []) ∨ ((k = 2 ∨ k = 3 ∨ k = 5) ∧ l = []))) → mayK k sz l = b := by
    intro b hb
    unfold mayK
    cases b
    · rw [decide_eq_false_iff_not]
      exact fun h => by simpa using hb.2 h
    · rw [decide_eq_true_eq]
      exact hb.1 rfl
  by_cases hk : 1 ≤ k ∧ k ≤ 5
  · have HN : Hid (l = []) ∧ (s.toList == []) = true ∨ Hid (l ≠ []) ∧ (s.toList == []) = false := by
      by_cases e : l = []
      · exact .inl ⟨hide e, nil_yes hl e⟩
      · exact .inr ⟨hide e, nil_no hl e⟩
    have HZ : sz = 0 ∨ Hid (sz ≠ 0) ∧ (sz == 0) = false := by
      by_cases e : sz = 0
      · exact .inl e
      · exact .inr ⟨hide e, by rw [beq_eq_false_iff_ne]; exact e⟩
    rcases HZ with rfl | ⟨HZ, z1⟩
    all_goals
      rcases HN with ⟨HN, n1⟩ | ⟨HN, n1⟩
      all_goals
        rcases five hk.1 hk.2 with rfl | rfl | rfl | rfl | rfl
        all_goals
          have HH := hide HK
          clear HK
          go_enter Tryd.func35, Tryd.ntmps35
          go_wp2
          go_ret
          refine ⟨ret_bool (HH.out _ ?_).symm, rfl⟩
          first
            | (simp [HN.out]; done)
            | (simp [HN.out, HZ.out]; done)
  · have c1 : (k == 1) = false := by rw [beq_eq_false_iff_ne]; omega
    have c2 : (k == 2) = false := by rw [beq_eq_false_iff_ne]; omega
    have c3 : (k == 3) = false := by rw [beq_eq_false_iff_ne]; omega
    have c4 : (k == 4) = false := by rw [beq_eq_false_iff_ne]; omega
    have c5 : (k == 5) = false := by rw [beq_eq_false_iff_ne]; omega
    have HR := hide (HK false ⟨fun h => (by cases h), fun h => (by omega)⟩)
    clear hk HK
    go_enter Tryd.func35, Tryd.ntmps35
    go_wp2
    go_ret
    exact ⟨ret_bool HR.out.symm, rfl⟩
end Go.Proofs.YtpdbpeooebbpnaaDoor
