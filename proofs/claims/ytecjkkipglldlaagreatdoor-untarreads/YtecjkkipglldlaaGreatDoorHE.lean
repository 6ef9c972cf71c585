/- The walks of head's sumOf and kindOf. -/
import Derived.Test.YtecjkkipglldlaaGreatDoorHD
namespace Go.Proofs.YtecjkkipglldlaaGreatDoor
open Go.RowKit Hog

theorem sum_room {l : List UInt8} (h : l.length ≤ 512) : octR (sumL l) 6 = true ∧ octT (sumL l) 6 = octL 6 (sumL l) := by
  have h1 := sumL_le l
  have h2 : 8 ^ 6 = 262144 := by decide
  have hr : octR (sumL l) 6 = true := by
    unfold octR
    rw [decide_eq_true_eq]
    refine ⟨by omega, by decide, by decide, ?_⟩
    rw [Int.toNat_natCast, show (6 : Int).toNat = 6 by rfl]
    omega
  exact ⟨hr, by unfold octT; rw [if_pos hr]; rfl⟩
set_option maxHeartbeats 800000 in
theorem sumof_any (b o n c : Nat) (l : List UInt8) (s : List UInt8) (w0 w : World) (hok : Ok w0 w) (h : ArgB w (some ⟨b, o, none⟩) n c l) (hn : n ≤ 512) (hs : octL 6 (sumL l) = s) :
    Calls Tryz.prog 59 #[.slice (some ⟨b, o, none⟩) n c] w fun e w' => e = .returned (.string (mk s)) ∧ Ok w0 w' ∧ Below w.heap.size w w' := by
  have HA := hide h
  have HS := hide hs
  have HLEN := hide h.len
  have HOK := hide hok
  have HR := hide (sum_room (l := l) (by rw [h.len]; exact hn))
  have HLE := hide (sumL_le l)
  clear h hs hok
  go_enter Tryz.func59, Tryz.ntmps59
  go_wp2_with fail
  go_loopw [3, 10] (fun s i wr => ∃ (k a : Nat), k ≤ n ∧ i = .int .i64 k ∧ s = .int .i64 a ∧ Hid (a = sumL (l.take k)) ∧ a ≤ 255 * k ∧ wr = w) (fun _ i _ => n - (intOf i).toNat)
  case atStart => exact ⟨0, 0, Nat.zero_le _, rfl, rfl, by rw [List.take_zero]; rfl, by omega, rfl⟩
  case round =>
    obtain ⟨k, a, hk, rfl, rfl, ha, hle, rfl⟩ := hrel
    by_cases hlt : k < n
    · obtain ⟨x, hx⟩ : ∃ x, l[k]? = some x := ⟨l[k]'(by have := HLEN.out; omega), List.getElem?_eq_some_iff.2 ⟨_, rfl⟩⟩
      have g1 := HA.out.at hx
      have hx256 : x.toNat < 256 := x.toNat_lt
      have hki : (k : Int) < (n : Int) := by omega
      have HX := hide hx
      clear hx
      go_wp2_with fail
      go_roundw
      case rel => exact ⟨k + 1, a + x.toNat, by omega, by go_num, by go_num, by rw [sumL_step HX.out, ha.out]; exact hide rfl, by omega, trivial⟩
      case measure => simp [intOf]; omega
    · obtain rfl : k = n := by omega
      have ha2 := ha.out
      rw [← HLEN.out, List.take_length] at ha2
      have hai : (a : Int) < 9223372036854775808 := by omega
      have HA2 := hide ha2
      clear ha2
      go_wp2_with fail
      refine (octal_ok a 6 s true w0 wr HOK.out hai (by rw [HA2.out, ← HS.out]; exact HR.out.2) (by rw [HA2.out]; exact HR.out.1)).mono ?_
      rintro e w1 ⟨rfl, ok1, hb1⟩
      go_wp2_with fail
      go_ret
      exact ⟨rfl, ok1, hb1⟩

theorem looks_eq {md : List UInt8} {sg : UInt8} {k : Int} (h : (pad 8 (modeK k) = md) ∧ signK k = sg) : looks md sg k = true := by
  unfold looks
  rw [decide_eq_true h.1, h.2, beq_self_eq_true]; rfl
theorem kind_at {md : List UInt8} {sg : UInt8} {k : Int} (h1 : 1 ≤ k) (h5 : k ≤ 5) (h : looks md sg k = true) : kindR md sg = k := by
  unfold looks at h
  rw [Bool.and_eq_true, decide_eq_true_eq, beq_iff_eq] at h
  rw [← h.1, ← h.2]
  exact kindR_of h1 h5
theorem kind_none {md : List UInt8} {sg : UInt8} (h : ∀ k : Int, 1 ≤ k → k ≤ 5 → looks md sg k = false) : kindR md sg = 0 := by
  unfold kindR
  rw [h 1 (by omega) (by omega), h 2 (by omega) (by omega), h 3 (by omega) (by omega), h 4 (by omega) (by omega), h 5 (by omega) (by omega)]
  rfl
set_option maxHeartbeats 800000 in
theorem kindof_ok (t : ByteArray) (md : List UInt8) (sg : UInt8) (r : Int) (w : World) (ht : t.data.toList = md) (hr : kindR md sg = r) :
    Calls Tryz.prog 78 #[.string t, .int .u8 sg.toNat] w fun e w' => e = .returned (.int .i64 r) ∧ w' = w := by
  have HR := hide hr
  have HT := hide ht
  clear hr ht
  go_enter Tryz.func78, Tryz.ntmps78
  go_wp2_with fail
  go_loopw [5] (fun i wr => ∃ k : Nat, 1 ≤ k ∧ k ≤ 6 ∧ i = .int .i64 k ∧ Hid (∀ j : Int, 1 ≤ j → j < k → looks md sg j = false) ∧ wr = w) (fun i _ => 6 - (intOf i).toNat)
  case atStart => exact ⟨1, Nat.le_refl _, by omega, rfl, fun j h1 h2 => by omega, rfl⟩
  case round =>
    obtain ⟨k, hk1, hk6, rfl, hno, rfl⟩ := hrel
    by_cases hlt : k ≤ 5
    · have hki : (k : Int) ≤ 5 := by omega
      obtain ⟨m, hm⟩ : ∃ m, pad 8 (modeK k) = m := ⟨_, rfl⟩
      obtain ⟨g, hg⟩ : ∃ g, signK k = g := ⟨_, rfl⟩
      have HM := hide hm
      have HG := hide hg
      have HLK : Hid (looks md sg k = (decide (m = md) && (g == sg))) := by unfold looks; rw [hm, hg]; exact hide rfl
      have HMT : Hid (((mk m).toList == t.toList) = decide (m = md)) := by
        rw [mk_toList, Lib.toList_data, HT.out, Bool.eq_iff_iff, beq_iff_eq, decide_eq_true_eq]
        exact Iff.rfl
      clear hm hg
      go_wp2_with fail
      refine (look_ok k m g wr (by omega) (by omega) HM.out HG.out).mono ?_
      rintro e w1 ⟨rfl, rfl⟩
      by_cases hmm : m = md
      · have c1 : ((mk m).toList == t.toList) = true := by rw [HMT.out, decide_eq_true hmm]
        by_cases hgg : g = sg
        · have c2 : ((g.toNat : Int) == (sg.toNat : Int)) = true := by rw [hgg]; simp
          have HE : Hid (kindR md sg = (k : Int)) := kind_at (by omega) (by omega) (by rw [HLK.out, hmm, hgg]; simp)
          clear hmm hgg
          go_wp2_with fail
          go_ret
          exact ⟨ret_int (HE.out.symm.trans HR.out), rfl⟩
        · have c2 : ((g.toNat : Int) == (sg.toNat : Int)) = false := by
            rw [beq_eq_false_iff_ne]; intro e; exact hgg (UInt8.toNat_inj.1 (by omega))
          have HE : Hid (looks md sg k = false) := by
            rw [HLK.out, beq_eq_false_iff_ne.2 hgg, Bool.and_false]; exact hide rfl
          clear hmm hgg
          go_wp2_with fail
          go_roundw
          case rel =>
            refine ⟨k + 1, by omega, by omega, by go_num, hide fun j h1 h2 => ?_, trivial⟩
            by_cases e : j < k
            · exact hno.out j h1 e
            · obtain rfl : j = k := by omega
              exact HE.out
          case measure => simp [intOf]; omega
      · have c1 : ((mk m).toList == t.toList) = false := by rw [HMT.out, decide_eq_false hmm]
        have HE : Hid (looks md sg k = false) := by
          rw [HLK.out, decide_eq_false hmm, Bool.false_and]; exact hide rfl
        clear hmm
        go_wp2_with fail
        go_roundw
        case rel =>
          refine ⟨k + 1, by omega, by omega, by go_num, hide fun j h1 h2 => ?_, trivial⟩
          by_cases e : j < k
          · exact hno.out j h1 e
          · obtain rfl : j = k := by omega
            exact HE.out
        case measure => simp [intOf]; omega
    · obtain rfl : k = 6 := by omega
      have HE := hide (kind_none (md := md) (sg := sg) fun j h1 h2 => hno.out j h1 (by omega))
      clear hlt
      go_wp2_with fail
      go_ret
      exact ⟨ret_int (HE.out.symm.trans HR.out), rfl⟩
end Go.Proofs.YtecjkkipglldlaaGreatDoor
