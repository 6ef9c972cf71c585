/- The walks of head's sumOf and kindOf. -/
import Derived.Test.YtpdbpeooebbpnaaGreatDoorHD
namespace Go.Proofs.YtpdbpeooebbpnaaGreatDoor
open Go.RowKit Hog

theorem sum_room {l : List UInt8} (h : l.length ≤ 512) : octR (sumL l) 6 = true ∧ octT (sumL l) 6 = octL 6 (sumL l) := by
  have h1 := sumL_le l
  have h2 : 8 ^ 6 = 262144 := by decide
  have hr : octR (sumL l) 6 = true := by
    unfold octR
    rw [decide_eq_true_eq]
    refine ⟨by omega, by decide, by decide, ?_⟩
    rw [Int.toNat_natCast, show (6 : Int).toNat = 6 by rfl]
    omega
  exact ⟨hr, by unfold octT; rw [if_pos hr]; rfl⟩
set_option maxHeartbeats 800000 in
theorem sumof_any (b o n c : Nat) (l : List UInt8) (s : List UInt8) (w0 w : World) (hok : Ok w0 w) (h : ArgB w (some ⟨b, o, none⟩) n c l) (hn : n ≤ 512) (hs : octL 6 (sumL l) = s) :
    Calls Tryz.prog 48 #[.slice (some ⟨b, o, none⟩) n c] w fun e w' => e = .returned (.string (mk s)) ∧ Ok w0 w' ∧ Below w.heap.size w w' := by
  have HA := hide h
  have HS := hide hs
  have HLEN := hide h.len
  have HOK := hide hok
  have HR := hide (sum_room (l := l) (by rw [h.len]; exact hn))
  have HLE := hide (sumL_le l)
  clear h hs hok
  go_enter Tryz.func48, Tryz.ntmps48
  go_wp2_with fail
  go_loopw [3, 10] (fun s i wr => ∃ (k a : Nat), k ≤ n ∧ i = .int .i64 k ∧ s = .int .i64 a ∧ Hid (a = sumL (l.take k)) ∧ a ≤ 255 * k ∧ wr = w) (fun _ i _ => n - (intOf i).toNat)
  case atStart => exact ⟨0, 0, Nat.zero_le _, rfl, rfl, by rw [List.take_zero]; rfl, by omega, rfl⟩
  case round =>
    obtain ⟨k, a, hk, rfl, rfl, ha, hle, rfl⟩ := hrel
    by_cases hlt : k < n
    · obtain ⟨x, hx⟩ : ∃ x, l[k]? = some x := ⟨l[k]'(by have := HLEN.out; omega), List.getElem?_eq_some_iff.2 ⟨_, rfl⟩⟩
      have g1 := HA.out.at hx
      have hx256 : x.toNat < 256 := x.toNat_lt
      have hki : (k : Int) < (n : Int) := by omega
      have HX := hide hx
      clear hx
      go_wp2_with fail
      go_roundw
      case rel => exact ⟨k + 1, a + x.toNat, by omega, by go_num, by go_num, by rw [sumL_step HX.out, ha.out]; exact hide rfl, by omega, trivial⟩
      case measure => simp [intOf]; omega
    · obtain rfl : k = n := by omega
      have ha2 := ha.out
      rw [← HLEN.out, List.take_length] at ha2
      have hai : (a : Int) < 9223372036854775808 := by omega
      have HA2 := hide ha2
      clear ha2
      go_wp2_with fail
      refine (octal_ok a 6 s true w0 wr HOK.out hai (by rw [HA2.out, ← HS.out]; exact HR.out.2) (by rw [HA2.out]; exact HR.out.1)).mono ?_
      rintro e w1 ⟨rfl, ok1, hb1⟩
      go_wp2_with fail
      go_ret
      exact ⟨rfl, ok1, hb1⟩

theorem looks_eq {md : List UInt8} {sg : UInt8} {k : Int} (h : (pad 8 (modeK k) = md) ∧ signK k = sg) : looks md sg k = true := by
  unfold looks
  rw [decide_eq_true h.1, h.2, beq_self_eq_true]; rfl
theorem kind_at {md : List UInt8} {sg : UInt8} {k : Int} (h1 : 1 ≤ k) (h5 : k ≤ 5) (h : looks md sg k = true) : kindR md sg = k := by
  unfold looks at h
  rw [Bool.and_eq_true, decide_eq_true_eq, beq_iff_eq] at h
  rw [← h.1, ← h.2]
  exact kindR_of h1 h5
theorem kind_none {md : List UInt8} {sg : UInt8} (h : ∀ k : Int, 1 ≤ k → k ≤ 5 → looks md sg k = false) : kindR md sg = 0 := by
  unfold kindR
  rw [h 1 (by omega) (by omega), h 2 (by omega) (by omega), h 3 (by omega) (by omega), h 4 (by omega) (by omega), h 5 (by omega) (by omega)]
  rfl
end Go.Proofs.YtpdbpeooebbpnaaGreatDoor
