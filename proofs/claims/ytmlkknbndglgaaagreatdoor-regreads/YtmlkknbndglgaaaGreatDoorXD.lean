/- The walks of the document's own answer, chapter 7: In, Name, Hash. -/
import Derived.Test.YtmlkknbndglgaaaGreatDoorJ13
import Derived.Test.YtmlkknbndglgaaaGreatDoorO1
namespace Go.Proofs.YtmlkknbndglgaaaGreatDoor
open Go.RowKit

theorem byte_eq {x y : UInt8} (h : ((x.toNat : Int) == (y.toNat : Int)) = true) : x = y := UInt8.toNat_inj.1 (by have := beq_iff_eq.1 h; omega)
theorem byte_ne {x y : UInt8} (h : x ≠ y) : ((x.toNat : Int) == (y.toNat : Int)) = false := by
  rw [beq_eq_false_iff_ne]
  intro e
  exact h (UInt8.toNat_inj.1 (by omega))
set_option maxHeartbeats 400000 in
theorem rin_any (s : ByteArray) (c : UInt8) (w : World) (hs : s.size < 1000000) :
    Calls Tryz.prog 52 #[.string s, .int .u8 c.toNat] w fun e w' => e = .returned (.bool (decide (c ∈ s.data.toList))) ∧ w' = w := by
  go_enter Tryz.func52, Tryz.ntmps52
  go_wp2
  go_loop [5] (fun i => ∃ k : Nat, k ≤ s.size ∧ i = .int .i64 k ∧ Hid (c ∉ s.data.toList.take k)) (fun i => s.size - (intOf i).toNat)
  case atStart => exact ⟨0, Nat.zero_le _, rfl, by simp [Hid]⟩
  case round =>
    obtain ⟨k, hk, rfl, ho⟩ := hrel
    by_cases hlt : k < s.size
    · have HAT := hide (at_byte s k hlt)
      by_cases hc : s[k] = c
      · have hc' : (((s[k].toNat : Nat) : Int) == (c.toNat : Int)) = true := by rw [hc]; simp
        have HC := hide hc
        clear hc
        go_wp2
        go_ret
        refine ⟨ret_bool (decide_eq_true ?_).symm, rfl⟩
        rw [← HC.out]
        have h1 := List.mem_of_getElem? HAT.out
        simpa using h1
      · have hc' := byte_ne hc
        have HC := hide hc
        clear hc
        go_wp2
        go_round
        case rel =>
          refine ⟨k + 1, by omega, by go_num, ?_⟩
          rw [take_byte s k hlt]
          show c ∉ _
          simp only [List.mem_append, List.mem_singleton, not_or]
          exact ⟨ho.out, fun e => HC.out e.symm⟩
        case measure => simp [intOf]; omega
    · go_wp2
      go_ret
      refine ⟨ret_bool (decide_eq_false ?_).symm, rfl⟩
      have e : k = s.data.toList.length := by rw [← Hog.size_len]; omega
      have h1 := ho.out
      rw [e, List.take_length] at h1
      simpa using h1
theorem rin_ok (s : ByteArray) (c : UInt8) (b : Bool) (w : World) (hs : s.size < 1000000) (hv : decide (c ∈ s.data.toList) = b) :
    Calls Tryz.prog 52 #[.string s, .int .u8 c.toNat] w fun e w' => e = .returned (.bool b) ∧ w' = w := by
  subst hv
  exact rin_any s c w hs

set_option maxRecDepth 100000 in
set_option maxHeartbeats 1000000 in
theorem rname_any (s : ByteArray) (w : World) (hs : s.size ≤ 9223372036854775807) :
    Calls Tryz.prog 32 #[.string s] w fun e w' => e = .returned (.bool (Hog.nameL s.data.toList)) ∧ w' = w := by
  have HZ := hide (Hog.size_len s)
  by_cases h10 : s.size < 10
  · have h10' : (s.size : Int) < 10 := by omega
    go_enter Tryz.func32, Tryz.ntmps32
    go_wp2
    go_ret
    exact ⟨ret_bool (Hog.name_not fun k => by have := k.low; have := HZ.out; omega).symm, rfl⟩
  · have h10' : (10 : Int) ≤ (s.size : Int) := by omega
    by_cases h30 : 30 < s.size
    · have h30' : (30 : Int) < (s.size : Int) := by omega
      go_enter Tryz.func32, Tryz.ntmps32
      go_wp2
      go_ret
      exact ⟨ret_bool (name_long h30).symm, rfl⟩
    · have h30' : (s.size : Int) ≤ 30 := by omega
      have h8 : 8 < s.size := by omega
      have H8 := hide (at_byte s 8 h8)
      by_cases h45 : s[8] = 45
      · have t45 : (((s[8].toNat : Nat) : Int) != 45) = false := by rw [h45]; rfl
        have H45 := hide h45
        clear h45
        go_enter Tryz.func32, Tryz.ntmps32
        go_wp2
        go_loop [3] (fun i => ∃ k : Nat, k ≤ 8 ∧ i = .int .i64 k ∧ Hid (∀ (j : Nat) c, j < k → s.data.toList[j]? = some c → c ∈ Hog.hashG)) (fun i => 8 - (intOf i).toNat)
        case atStart => exact ⟨0, Nat.zero_le _, rfl, fun j c h => by omega⟩
        case round =>
          obtain ⟨k, hk, rfl, ho⟩ := hrel
          by_cases hlt : k < 8
          · have hki : (k : Int) < 8 := by omega
            have hks : k < s.size := by omega
            have HAT := hide (at_byte s k hks)
            by_cases hc : s[k] ∈ Hog.hashG
            · have HC := hide hc
              clear hc
              go_wp2_with fail
              refine (rin_ok _ s[k] true w (by decide) (decide_eq_true HC.out)).mono ?_
              rintro e w1 ⟨rfl, rfl⟩
              go_wp2
              go_round
              case rel =>
                refine ⟨k + 1, by omega, by go_num, fun j c hj hc => ?_⟩
                by_cases hjk : j < k
                · exact ho.out j c hjk hc
                · obtain rfl : j = k := by omega
                  rw [HAT.out] at hc
                  cases hc
                  exact HC.out
              case measure => simp [intOf]; omega
            · have HC := hide hc
              clear hc
              go_wp2_with fail
              refine (rin_ok _ s[k] false w (by decide) (decide_eq_false HC.out)).mono ?_
              rintro e w1 ⟨rfl, rfl⟩
              go_wp2
              go_ret
              exact ⟨ret_bool (Hog.name_not fun q => HC.out (q.hash k _ hlt HAT.out)).symm, rfl⟩
          · have hk8 : (8 : Int) ≤ (k : Int) := by omega
            have HH : Hid (∀ (j : Nat) c, j < 8 → s.data.toList[j]? = some c → c ∈ Hog.hashG) := fun j c hj hc => ho.out j c (by omega) hc
            clear ho
            go_wp2
            go_loop [4] (fun i => ∃ k : Nat, 9 ≤ k ∧ k ≤ s.size ∧ i = .int .i64 k ∧ Hid (∀ (j : Nat) c, 9 ≤ j → j < k → s.data.toList[j]? = some c → Hog.restOk j c = true)) (fun i => s.size - (intOf i).toNat)
            case atStart => exact ⟨9, Nat.le_refl _, by omega, rfl, fun j c h h' => by omega⟩
            case round =>
              clear hk hk8 hlt
              obtain ⟨k, hk9, hk, rfl, ho⟩ := hrel
              by_cases hlt : k < s.size
              · have HAT := hide (at_byte s k hlt)
                have hki : (k : Int) < (s.size : Int) := by omega
                have HST : Hid (Hog.restOk k s[k] = true → ∀ (j : Nat) c, 9 ≤ j → j < k + 1 → s.data.toList[j]? = some c → Hog.restOk j c = true) := fun h j c h9 hj hc => by
                  by_cases hjk : j < k
                  · exact ho.out j c h9 hjk hc
                  · obtain rfl : j = k := by omega
                    rw [HAT.out] at hc
                    cases hc
                    exact h
                have HFL : Hid (Hog.restOk k s[k] = false → Hog.nameL s.data.toList = false) := fun h => Hog.name_not fun q => by
                  have := Hog.rest_ok_iff.2 ⟨q.first, q.rest⟩ k s[k] hk9 HAT.out
                  rw [h] at this
                  cases this
                by_cases hc : s[k] ∈ Hog.firstG
                · have HC := hide hc
                  have HOK : Hid (Hog.restOk k s[k] = true) := by unfold Hog.restOk; rw [decide_eq_true hc]; exact hide rfl
                  clear hc
                  go_wp2_with fail
                  refine (rin_ok _ s[k] true w (by decide) (decide_eq_true HC.out)).mono ?_
                  rintro e w1 ⟨rfl, rfl⟩
                  go_wp2
                  go_round
                  case rel => exact ⟨k + 1, by omega, by omega, by go_num, HST.out HOK.out⟩
                  case measure => simp [intOf]; omega
                · have HC := hide hc
                  by_cases h9 : k = 9
                  · have h9' : ((k : Int) == 9) = true := by rw [h9]; rfl
                    have HOK : Hid (Hog.restOk k s[k] = false) := by unfold Hog.restOk; rw [decide_eq_false hc, decide_eq_true h9]; exact hide rfl
                    clear hc h9
                    go_wp2_with fail
                    refine (rin_ok _ s[k] false w (by decide) (decide_eq_false HC.out)).mono ?_
                    rintro e w1 ⟨rfl, rfl⟩
                    go_wp2
                    go_ret
                    exact ⟨ret_bool (HFL.out HOK.out).symm, rfl⟩
                  · have h9' : ((k : Int) == 9) = false := by rw [beq_eq_false_iff_ne]; omega
                    by_cases hm : s[k] ∈ Hog.moreG
                    · have HMO := hide hm
                      have HOK : Hid (Hog.restOk k s[k] = true) := by unfold Hog.restOk; rw [decide_eq_true hm, decide_eq_false h9]; simp [Hid]
                      clear hc hm
                      go_wp2_with fail
                      refine (rin_ok _ s[k] false w (by decide) (decide_eq_false HC.out)).mono ?_
                      rintro e w1 ⟨rfl, rfl⟩
                      go_wp2_with fail
                      refine (rin_ok _ s[k] true _ (by decide) (decide_eq_true HMO.out)).mono ?_
                      rintro e w1 ⟨rfl, rfl⟩
                      go_wp2
                      go_round
                      case rel => exact ⟨k + 1, by omega, by omega, by go_num, HST.out HOK.out⟩
                      case measure => simp [intOf]; omega
                    · have HMO := hide hm
                      have HOK : Hid (Hog.restOk k s[k] = false) := by unfold Hog.restOk; rw [decide_eq_false hm, decide_eq_false hc]; simp [Hid]
                      clear hc hm
                      go_wp2_with fail
                      refine (rin_ok _ s[k] false w (by decide) (decide_eq_false HC.out)).mono ?_
                      rintro e w1 ⟨rfl, rfl⟩
                      go_wp2_with fail
                      refine (rin_ok _ s[k] false _ (by decide) (decide_eq_false HMO.out)).mono ?_
                      rintro e w1 ⟨rfl, rfl⟩
                      go_wp2
                      go_ret
                      exact ⟨ret_bool (HFL.out HOK.out).symm, rfl⟩
              · go_wp2
                go_ret
                refine ⟨ret_bool ?_, rfl⟩
                have hall : ∀ (j : Nat) c, 9 ≤ j → s.data.toList[j]? = some c → Hog.restOk j c = true := fun j c h9 hc => by
                  have := (List.getElem?_eq_some_iff.1 hc).1
                  rw [← HZ.out] at this
                  exact ho.out j c h9 (by omega) hc
                obtain ⟨q1, q2⟩ := Hog.rest_ok_iff.1 hall
                exact (Hog.name_iff.2 ⟨by rw [← HZ.out]; omega, by rw [← HZ.out]; omega, HH.out, by rw [H8.out, H45.out], q1, q2⟩).symm
      · have t45 : (((s[8].toNat : Nat) : Int) != 45) = true := by
          rw [bne_iff_ne]
          intro e
          exact h45 (byte_is (n := 45) (by decide) (beq_iff_eq.2 e))
        have H45 := hide h45
        clear h45
        go_enter Tryz.func32, Tryz.ntmps32
        go_wp2
        go_ret
        refine ⟨ret_bool (Hog.name_not fun q => ?_).symm, rfl⟩
        have := q.stroke
        rw [H8.out] at this
        exact H45.out (Option.some.inj this)
theorem rname_ok (s : ByteArray) (b : Bool) (w : World) (hs : s.size ≤ 9223372036854775807) (hv : Hog.nameL s.data.toList = b) :
    Calls Tryz.prog 32 #[.string s] w fun e w' => e = .returned (.bool b) ∧ w' = w := by
  subst hv
  exact rname_any s w hs
end Go.Proofs.YtmlkknbndglgaaaGreatDoor
