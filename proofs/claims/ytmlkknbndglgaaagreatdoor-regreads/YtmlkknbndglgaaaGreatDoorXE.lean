/- The walks of the document's own answer, chapter 7: Names, Own, May. -/
import Derived.Test.YtmlkknbndglgaaaGreatDoorXD
import Derived.Test.YtmlkknbndglgaaaGreatDoorJ5
namespace Go.Proofs.YtmlkknbndglgaaaGreatDoor
open Go.RowKit

set_option maxHeartbeats 400000 in
theorem rnames_many (a : Option Addr) (n c : Nat) (w : World) (h : 8 < n) (hm : n ≤ maxLen) :
    Calls Tryz.prog 30 #[.slice a n c] w fun e w' => e = .returned (.bool false) ∧ w' = w := by
  unfold maxLen at hm
  have h' : (8 : Int) < (n : Int) := by omega
  go_enter Tryz.func30, Tryz.ntmps30
  go_wp2
  go_loop [3] (fun i => i = .int .i64 0) (fun _ => 0)
  case atStart => rfl
  case round =>
    subst hrel
    have h2 : (0 : Int) < (n : Int) := by omega
    go_wp2
    go_ret
    exact ⟨ret_bool (decide_eq_false (by omega)), rfl⟩
set_option maxHeartbeats 400000 in
theorem rnames_none (a : Option Addr) (c : Nat) (w : World) :
    Calls Tryz.prog 30 #[.slice a 0 c] w fun e w' => e = .returned (.bool true) ∧ w' = w := by
  go_enter Tryz.func30, Tryz.ntmps30
  go_wp2
  go_loop [3] (fun i => i = .int .i64 0) (fun _ => 0)
  case atStart => rfl
  case round =>
    subst hrel
    go_wp2
    go_ret
    exact ⟨rfl, rfl⟩
set_option maxRecDepth 100000 in
set_option maxHeartbeats 1000000 in
theorem rnames_some (b o c n : Nat) (xs : List ByteArray) (w : World) (hn : n = xs.length) (h8 : n ≤ 8) (hb : b < w.heap.size) (hx : ∀ (j : Nat) x, xs[j]? = some x → w.cell? ⟨b, o + j, none⟩ = some (.string x)) (hz : ∀ x ∈ xs, x.size ≤ 9223372036854775807) :
    Calls Tryz.prog 30 #[.slice (some ⟨b, o, none⟩) n c] w fun e w' => e = .returned (.bool (refsB xs)) ∧ Below w.heap.size w w' := by
  have HN := hide hn
  have HC := hide hx
  have HZ := hide hz
  have h8' : (n : Int) ≤ 8 := by omega
  clear hn hx hz
  go_enter Tryz.func30, Tryz.ntmps30
  go_wp2
  go_loopw [3] (fun i wr => ∃ k : Nat, k ≤ n ∧ i = .int .i64 k ∧ Hid ((List.range k).all (refAt xs) = true) ∧ Below w.heap.size w wr) (fun i _ => n - (intOf i).toNat)
  case atStart => exact ⟨0, Nat.zero_le _, rfl, rfl, Below.refl _ _⟩
  case round =>
    obtain ⟨k, hk, rfl, hall, hbl⟩ := hrel
    by_cases hlt : k < n
    · obtain ⟨x, hx⟩ : ∃ x, xs[k]? = some x := ⟨xs[k]'(by have := HN.out; omega), List.getElem?_eq_some_iff.2 ⟨_, rfl⟩⟩
      have hc : wr.cell? ⟨b, o + k, none⟩ = some (.string x) := (hbl.cell (p := ⟨b, o + k, none⟩) hb).trans (HC.out k x hx)
      have hbr : b < wr.heap.size := Nat.lt_of_lt_of_le hb hbl.size
      have f0 : ∀ p : Later wr, p.w1.cell? ⟨b, o + k, none⟩ = some (.string x) := fun p => p.cell hbr hc
      have hxz := HZ.out x (List.mem_of_getElem? hx)
      have hki : (k : Int) < (n : Int) := by omega
      have HX := hide hx
      have hne := later_one wr
      obtain ⟨z, hz⟩ : ∃ z, Hog.nameL x.data.toList = z := ⟨_, rfl⟩
      have HNM := hide hz
      have HC1 : Hid (∀ p : Later wr, Calls Tryz.prog 32 #[.string x] p.w1 fun e w' => e = .returned (.bool z) ∧ Below p.w1.heap.size p.w1 w') := fun p =>
        (rname_ok x z p.w1 hxz hz).mono fun e w' ⟨q1, q2⟩ => ⟨q1, by rw [q2]; exact Below.refl _ _⟩
      clear hx hc hz
      cases z with
      | false =>
        cases k with
        | zero =>
          simp only [Nat.add_zero] at f0
          go_wp2
          refine wp_region_later (by kernel_rfl) (by kernel_rfl) ?_
          repeat (first
            | go_big_quiet_step ((go_at_call 32; exact Calls.later_of (HC1.out _)))
            | quiet_step ((go_at_call 32; exact Calls.later_of (HC1.out _))))
          refine wpQuiet_nil ?_
          intro W5 hw'
          have hbq := later_below hw'
          clear hw' f0 HC1
          go_wp2
          go_ret
          exact ⟨ret_bool (refs_fall (by rw [← HN.out]; exact hlt) (refAt_not HX.out HNM.out)).symm, below_two hbl hbq⟩
        | succ j =>
          go_wp2
          refine wp_region_later (by kernel_rfl) (by kernel_rfl) ?_
          repeat (first
            | go_big_quiet_step ((go_at_call 32; exact Calls.later_of (HC1.out _)))
            | quiet_step ((go_at_call 32; exact Calls.later_of (HC1.out _))))
          refine wpQuiet_nil ?_
          intro W5 hw'
          have hbq := later_below hw'
          clear hw' f0 HC1
          go_wp2
          go_ret
          exact ⟨ret_bool (refs_fall (by rw [← HN.out]; exact hlt) (refAt_not HX.out HNM.out)).symm, below_two hbl hbq⟩
      | true =>
        cases k with
        | zero =>
          simp only [Nat.add_zero] at f0
          go_wp2
          refine wp_region_later (by kernel_rfl) (by kernel_rfl) ?_
          repeat (first
            | go_big_quiet_step ((go_at_call 32; exact Calls.later_of (HC1.out _)))
            | quiet_step ((go_at_call 32; exact Calls.later_of (HC1.out _))))
          refine wpQuiet_nil ?_
          intro W5 hw'
          have hbq := later_below hw'
          clear hw' f0 HC1
          go_wp2
          go_roundw
          case rel => exact ⟨1, by omega, by go_num, refs_step hall.out (refAt_zero HX.out HNM.out), below_two hbl hbq⟩
          case measure => simp [intOf]; omega
        | succ j =>
          obtain ⟨y, hy⟩ : ∃ y, xs[j]? = some y := ⟨xs[j]'(by have := HN.out; omega), List.getElem?_eq_some_iff.2 ⟨_, rfl⟩⟩
          have HY := hide hy
          have hcy : wr.cell? ⟨b, o + j, none⟩ = some (.string y) := (hbl.cell (p := ⟨b, o + j, none⟩) hb).trans (HC.out j y hy)
          have f1 : ∀ p : Later wr, p.w1.cell? ⟨b, o + j, none⟩ = some (.string y) := fun p => p.cell hbr hcy
          have hj0 : (0 : Int) < (j : Int) + 1 := by omega
          obtain ⟨l, hl⟩ : ∃ l, Op.bytesLess y.toList x.toList = l := ⟨_, rfl⟩
          have HLS : Hid (Op.bytesLess y.data.toList x.data.toList = l) := by rw [Lib.toList_data, Lib.toList_data] at hl; exact hl
          clear hy hcy
          cases l with
          | true =>
            go_wp2
            refine wp_region_later (by kernel_rfl) (by kernel_rfl) ?_
            repeat (first
              | go_big_quiet_step ((go_at_call 32; exact Calls.later_of (HC1.out _)))
              | quiet_step ((go_at_call 32; exact Calls.later_of (HC1.out _))))
            refine wpQuiet_nil ?_
            intro W5 hw'
            have hbq := later_below hw'
            clear hw' f0 f1 HC1
            go_wp2
            go_roundw
            case rel => exact ⟨j + 2, by omega, by go_num, refs_step hall.out ((refAt_next HX.out HY.out HNM.out).trans HLS.out), below_two hbl hbq⟩
            case measure => simp [intOf]; omega
          | false =>
            go_wp2
            refine wp_region_later (by kernel_rfl) (by kernel_rfl) ?_
            repeat (first
              | go_big_quiet_step ((go_at_call 32; exact Calls.later_of (HC1.out _)))
              | quiet_step ((go_at_call 32; exact Calls.later_of (HC1.out _))))
            refine wpQuiet_nil ?_
            intro W5 hw'
            have hbq := later_below hw'
            clear hw' f0 f1 HC1
            go_wp2
            go_ret
            exact ⟨ret_bool (refs_fall (by rw [← HN.out]; exact hlt) ((refAt_next HX.out HY.out HNM.out).trans HLS.out)).symm, below_two hbl hbq⟩
    · go_wp2
      go_ret
      refine ⟨ret_bool ?_, hbl⟩
      have e : k = xs.length := by have := HN.out; omega
      have h1 := hall.out
      rw [e] at h1
      rw [refs_full (by rw [← HN.out]; exact h8) h1]
theorem rnames_ok (v : Value) (xs : List ByteArray) (r : Bool) (w : World) (h : Txt w v xs) (hm : xs.length ≤ maxLen) (hz : ∀ x ∈ xs, x.size ≤ 9223372036854775807) (hv : refsB xs = r) :
    Calls Tryz.prog 30 #[v] w fun e w' => e = .returned (.bool r) ∧ Below w.heap.size w w' := by
  subst hv
  by_cases h8 : 8 < xs.length
  · obtain ⟨a, c, rfl⟩ := h.form
    rw [refs_many h8]
    refine (rnames_many a xs.length c w h8 hm).mono ?_
    rintro e w' ⟨rfl, rfl⟩
    exact ⟨rfl, Below.refl _ _⟩
  · rcases h with ⟨rfl, a, c, rfl⟩ | ⟨b, o, c, rfl, _, hb, hcell⟩
    · refine (rnames_none a c w).mono ?_
      rintro e w' ⟨rfl, rfl⟩
      exact ⟨rfl, Below.refl _ _⟩
    · exact rnames_some b o c xs.length xs w rfl (by omega) hb hcell hz

end Go.Proofs.YtmlkknbndglgaaaGreatDoor
