/- The walk of the document's own Validate, chapter 9. -/
import Derived.Test.YtinjbijigjfdfaaGreatDoorKR
import Derived.Test.YtinjbijigjfdfaaGreatDoorXE
import Derived.Test.YtinjbijigjfdfaaGreatDoorSS
import Derived.Test.YtinjbijigjfdfaaGreatDoorKE
namespace Go.Proofs.YtinjbijigjfdfaaGreatDoor
open Go.RowKit

/-- The hash ahead of place k. -/
def aheadL (is : List It) (k : Nat) : List UInt8 := match k with
  | 0 => []
  | j + 1 => match is[j]? with
    | some i => (hashT i.1).data.toList
    | none => []
theorem ahead_at {is : List It} {j : Nat} {i : It} (h : is[j]? = some i) : aheadL is (j + 1) = (hashT i.1).data.toList := by
  show (match is[j]? with
    | some i => (hashT i.1).data.toList
    | none => []) = _
  rw [h]
theorem ahead_all {is : List It} {k : Nat} {i : It} (hs : Stood [] (is.take k)) (hi : is[k]? = some i) (h1 : Op.bytesLess (aheadL is k) (hashT i.1).data.toList = true) {l : Nat} {u : It} (hl : l < k) (hu : is[l]? = some u) : Op.bytesLess (hashT u.1).data.toList (hashT i.1).data.toList = true := by
  have hk := (List.getElem?_eq_some_iff.1 hi).1
  obtain ⟨j, rfl⟩ : ∃ j, k = j + 1 := ⟨k - 1, by omega⟩
  have hj : is[j]? = some is[j] := List.getElem?_eq_getElem (by omega)
  rw [ahead_at hj] at h1
  by_cases e : l = j
  · subst e
    rw [hj] at hu
    cases hu; exact h1
  · exact Hog.lt_trans (hs.less (show (is.take (j + 1))[l]? = some u by rw [List.getElem?_take_of_lt (by omega)]; exact hu) (show (is.take (j + 1))[j]? = some is[j] by rw [List.getElem?_take_of_lt (by omega)]; exact hj) (by omega)) h1
theorem stood_take {is : List It} {k : Nat} {i : It} (hs : Stood [] (is.take k)) (hi : is[k]? = some i) (h1 : Op.bytesLess (aheadL is k) (hashT i.1).data.toList = true) (h2 : ownB i.2.2 = true) : Stood [] (is.take (k + 1)) := by
  have hk := (List.getElem?_eq_some_iff.1 hi).1
  have e : is.take (k + 1) = is.take k ++ [i] := by rw [List.take_add_one, hi]; rfl
  rw [e]
  refine ⟨fun j hj => ?_, ?_, fun j hj => ?_⟩
  · rcases List.mem_append.1 hj with hj | hj
    · exact hs.ahead j hj
    · rw [List.mem_singleton.1 hj]; exact nil_less (name_less h1)
  · refine List.pairwise_append.2 ⟨hs.pair, List.pairwise_singleton _ _, fun x hx y hy => ?_⟩
    rw [List.mem_singleton.1 hy]
    obtain ⟨a, ha⟩ := List.getElem?_of_mem hx
    have hak : a < k := by have := (List.getElem?_eq_some_iff.1 ha).1; rw [List.length_take] at this; omega
    exact ahead_all hs hi h1 hak (by rw [List.getElem?_take_of_lt hak] at ha; exact ha)
  · rcases List.mem_append.1 hj with hj | hj
    · exact hs.own j hj
    · rw [List.mem_singleton.1 hj]; exact h2
theorem hash_same {x y : ByteArray} (h : (hashT x).data.toList = (hashT y).data.toList) : ((hashT x).toList == (hashT y).toList) = true := by
  rw [Lib.toList_data, Lib.toList_data, h]; exact beq_self_eq_true _
theorem hash_other {x y : ByteArray} (h : Op.bytesLess (hashT x).data.toList (hashT y).data.toList = true) : ((hashT x).toList == (hashT y).toList) = false := by
  rw [beq_eq_false_iff_ne]
  intro e
  rw [Lib.toList_data, Lib.toList_data] at e
  rw [e, Hog.less_irr] at h
  cases h
/-- Where hashes do not rise but names do, the hash is the one ahead. -/
theorem hash_stays {x y : ByteArray} (hy : Hog.nameL y.data.toList = true) (h1 : Op.bytesLess (hashT x).data.toList (hashT y).data.toList = false) (h2 : Op.bytesLess x.data.toList y.data.toList = true) : (hashT x).data.toList = (hashT y).data.toList := by
  rcases Hog.less_three (hashT x).data.toList (hashT y).data.toList with h | h | h
  · rw [h1] at h; cases h
  · exact h
  · have := names_less h hy
    exact absurd h2 (by rw [Hog.less_asymm this]; decide)

set_option maxRecDepth 100000 in
set_option maxHeartbeats 8000000 in
theorem rvalidate_some (p : ByteArray) (b o c n : Nat) (is : List It) (r : Int) (w0 w : World) (hok : Ok w0 w) (hn : n = is.length) (h8 : n ≤ 8) (hc : n ≤ c) (hr : RunI w b o is) (hf : ∀ i ∈ is, Fair i) (hp : p.size ≤ 9223372036854775807) (hpf : prefB p = true)
    (hv : valV p is = r) :
    Calls Tryz.prog 17 #[.string p, .slice (some ⟨b, o, none⟩) n c] w fun e w' => e = .returned (.int .i64 r) ∧ Ok w0 w' ∧ Below w.heap.size w w' := by
  have HITS : Hid (Its w (.slice (some ⟨b, o, none⟩) n c) is) := .inr ⟨b, o, c, by rw [← hn], by omega, hr⟩
  have HR := hide hr
  have HN := hide hn
  have HF := hide hf
  have HOK := hide hok
  have hbw := hr.1
  have h8i : (n : Int) ≤ 8 := by omega
  have HPF := hide hpf
  obtain ⟨s, hs⟩ : ∃ s, standV [] is = s := ⟨_, rfl⟩
  have HVS : Hid ((if s = 0 then (if refersB (namesI is) is = true then (0 : Int) else 8) else s) = r) := by
    have e : valV p is = if s = 0 then (if refersB (namesI is) is = true then (0 : Int) else 8) else s := by
      unfold valV
      rw [if_pos hpf, if_pos (by rw [← hn]; exact h8), hs]
    exact hide (e.symm.trans hv)
  have HS0 := hide hs
  clear hr hn hf hok hs hv hpf
  go_enter Tryz.func17, Tryz.ntmps17
  go_wp2_with fail
  refine (rprefix_ok p true w hp HPF.out).mono ?_
  rintro e w1 ⟨rfl, hw1⟩
  obtain rfl := hw1
  go_wp2
  go_loopw [5] (fun v wr => ∃ k : Nat, k ≤ n ∧ v = .int .i64 k ∧ Hid (Stood [] (is.take k)) ∧ Hid (standV (aheadL is k) (is.drop k) = s) ∧ Hid (Below w1.heap.size w1 wr)) (fun v _ => n - (intOf v).toNat)
  case atStart => exact ⟨0, Nat.zero_le _, rfl, by rw [List.take_zero]; exact ⟨fun _ h => absurd h (by simp), List.Pairwise.nil, fun _ h => absurd h (by simp)⟩, HS0.out, Below.refl _ _⟩
  case round =>
    obtain ⟨k, hk, rfl, hst, hsv, hbl⟩ := hrel
    by_cases hlt : k < n
    case pos =>
      obtain ⟨i, hi⟩ : ∃ i, is[k]? = some i := ⟨is[k]'(by have := HN.out; omega), List.getElem?_eq_some_iff.2 ⟨_, rfl⟩⟩
      obtain ⟨ra, rn, rc, ta, tn, tc, q0, q1, q2, q3, q4⟩ := (HR.out.2 k i hi).below hbl.out
      have HFI := hide (HF.out i (List.mem_of_getElem? hi))
      have hnm : i.1.size < 900000 := HFI.out.name
      have HI := hide hi
      have hki : (k : Int) < (n : Int) := by omega
      obtain ⟨W, hW⟩ : ∃ W, W = wr.alloc (.cells #[.string i.1, .slice ra rn rc, .slice ta tn tc] 29) := ⟨_, rfl⟩
      have HB0 : Hid (Below wr.heap.size wr W) := by rw [hW]; exact hide (below_box _ _)
      have HBX : Hid (BoxI W wr.heap.size i.1 (.slice ra rn rc) (.slice ta tn tc)) := by rw [hW]; exact hide (BoxI.made wr _ _ _)
      have HW := hide hW.symm
      have HBW := hide (below_two hbl.out HB0.out)
      have HQ4 := hide (q4.below HB0.out)
      have hbW : b < W.heap.size := Nat.lt_of_lt_of_le hbw HBW.out.size
      obtain ⟨⟨x0, _, _⟩, _, hxl⟩ := HBX.out.facts
      have f0 : ∀ p : Later W, p.w1.cell? ⟨wr.heap.size, 0, none⟩ = some (.string i.1) := fun p => p.cell hxl x0
      obtain ⟨bn, hbn⟩ : ∃ bn, Hog.nameL i.1.data.toList = bn := ⟨_, rfl⟩
      have HBN := hide hbn
      have HC1 : Hid (∀ p : Later W, Calls Tryz.prog 32 #[.string i.1] p.w1 fun e w' => e = .returned (.bool bn) ∧ Below p.w1.heap.size p.w1 w') := fun p => (rname_ok i.1 bn p.w1 (by omega) HBN.out).mono fun e w' ⟨z1, z2⟩ => ⟨z1, by rw [z2]; exact Below.refl _ _⟩
      have hne2 := later_one W
      clear hi q3 q4 hW hbn x0
      cases bn with
      | false =>
        have HE : Hid (s = 6) := stand_name HI.out hsv.out (by
          cases h : Op.bytesLess (aheadL is k) (hashT i.1).data.toList with
          | false => rfl
          | true => have := name_less h; rw [HBN.out] at this; cases this)
        go_wp2_with fail
        rw [HW.out]
        refine wp_region_later (by kernel_rfl) (by kernel_rfl) ?_
        repeat (first
          | go_big_quiet_step ((first
              | (go_at_call 32; exact Calls.later_of (HC1.out _))))
          | quiet_step ((first
              | (go_at_call 32; exact Calls.later_of (HC1.out _)))))
        refine wpQuiet_nil ?_
        intro W5 hw'
        have HB5 := hide (below_two HBW.out (later_below hw'))
        clear hw' f0 HC1 hne2
        go_wp2
        go_ret
        refine ⟨?_, HOK.out.next HB5.out, HB5.out⟩
        rw [← HVS.out, if_neg (by rw [HE.out]; decide), HE.out]; rfl
      | true =>
        cases hle : Op.bytesLess (aheadL is k) (hashT i.1).data.toList with
        | true =>
          have HLE := hide hle
          clear hle
          rcases Nat.eq_zero_or_pos k with hk0 | hk0
          · subst hk0
            simp only [Nat.zero_mul, Nat.add_zero] at q0 q1 q2
            go_wp2_with fail
            rw [HW.out]
            refine wp_region_later (by kernel_rfl) (by kernel_rfl) ?_
            repeat (first
              | go_big_quiet_step ((first
                  | (go_at_call 32; exact Calls.later_of (HC1.out _))))
              | quiet_step ((first
                  | (go_at_call 32; exact Calls.later_of (HC1.out _)))))
            refine wpQuiet_nil ?_
            intro W5 hw'
            have HB5 := hide (below_two HBW.out (later_below hw'))
            have HX5 := hide (HBX.out.below (later_below hw'))
            have HQ5 := hide (HQ4.out.below (later_below hw'))
            clear hw' f0 HC1 hne2
            go_wp2
            go_loopw [7] (fun v wq => v = .int .i64 0 ∧ wq = W5) (fun v _ => 0)
            case atStart => exact ⟨rfl, rfl⟩
            case round =>
              obtain ⟨rfl, rfl⟩ := hrel
              rename World => wq
              obtain ⟨⟨_, _, x2⟩, _, _⟩ := HX5.out.facts
              have HBQ := HB5
              have HNQ := HQ5
              cases how : ownB i.2.2 with
              | false =>
                have HOW := hide how
                clear how
                have HE : Hid (s = 7) := stand_tree HI.out hsv.out HLE.out HOW.out
                go_wp2_with fail
                refine (rown_ok _ i.2.2 false w0 _ (HOK.out.next HBQ.out) HNQ.out (by have := HFI.out.tree; unfold maxLen; omega) HFI.out.path HOW.out).mono ?_
                rintro e w9 ⟨rfl, ok9, hb9⟩
                go_wp2
                go_ret
                refine ⟨?_, ok9, below_two HBQ.out hb9⟩
                rw [← HVS.out, if_neg (by rw [HE.out]; decide), HE.out]; rfl
              | true =>
                have HOW := hide how
                clear how
                have HSV2 := hide (stand_step HI.out hsv.out HLE.out HOW.out)
                rw [← ahead_at HI.out] at HSV2
                have HST2 := hide (stood_take hst.out HI.out HLE.out HOW.out)
                go_wp2_with fail
                refine (rown_ok _ i.2.2 true w0 _ (HOK.out.next HBQ.out) HNQ.out (by have := HFI.out.tree; unfold maxLen; omega) HFI.out.path HOW.out).mono ?_
                rintro e w9 ⟨rfl, ok9, hb9⟩
                have HB9 := hide (below_two HBQ.out hb9)
                clear hb9 ok9
                go_wp2
                go_roundw
                case rel => exact ⟨0 + 1, by omega, by go_num, HST2, HSV2, HB9⟩
                case measure => simp [intOf]; omega
          · obtain ⟨j, hj⟩ : ∃ j, k = j + 1 := ⟨k - 1, by omega⟩
            obtain ⟨y, hy⟩ : ∃ y, is[j]? = some y := ⟨is[j]'(by have := HN.out; omega), List.getElem?_eq_some_iff.2 ⟨_, rfl⟩⟩
            obtain ⟨_, _, _, _, _, _, p0, _, _, _, _⟩ := HR.out.2 j y hy
            have hny := hst.out.name (List.mem_of_getElem? (show (is.take k)[j]? = some y by rw [List.getElem?_take_of_lt (by omega)]; exact hy))
            have g4 : Op.bytesLess y.1.toList i.1.toList = true := by
              rw [Lib.toList_data, Lib.toList_data]; exact names_less (ahead_all hst.out HI.out HLE.out (by omega) hy) hny
            have f1 : ∀ p : Later W, p.w1.cell? ⟨b, o + j * 3, none⟩ = some (.string y.1) := fun p => p.cell hbW ((HBW.out.cell (p := ⟨b, o + j * 3, none⟩) hbw).trans p0)
            have hj0i : (0 : Int) < (k : Int) := by omega
            have hj0d : decide (0 < k) = true := by rw [decide_eq_true_eq]; omega
            have hj1 : (0 : Int) ≤ (j : Int) := by omega
            have hj2 : (j : Int) < (n : Int) := by omega
            have hj4 : IntKind.i64.wrap ((k : Int) - 1) = (j : Int) := by rw [wrap_r (by omega)]; omega
            clear hy p0 hj hk0
            go_wp2_with fail
            rw [HW.out]
            refine wp_region_later (by kernel_rfl) (by kernel_rfl) ?_
            repeat (first
              | go_big_quiet_step ((first
                  | (go_at_call 32; exact Calls.later_of (HC1.out _))))
              | quiet_step ((first
                  | (go_at_call 32; exact Calls.later_of (HC1.out _)))))
            refine wpQuiet_nil ?_
            intro W5 hw'
            have HB5 := hide (below_two HBW.out (later_below hw'))
            have HX5 := hide (HBX.out.below (later_below hw'))
            have HQ5 := hide (HQ4.out.below (later_below hw'))
            clear hw' f0 f1 HC1 hne2 hj1 hj2 hj4 g4
            go_wp2
            go_loopw [7] (fun v wq => ∃ l : Nat, l ≤ k ∧ v = .int .i64 l ∧ Hid (Below W5.heap.size W5 wq)) (fun v _ => k - (intOf v).toNat)
            case atStart => exact ⟨0, Nat.zero_le _, rfl, Below.refl _ _⟩
            case round =>
              rename World => wq
              obtain ⟨l, hl, rfl, hbq⟩ := hrel
              have HXQ := hide (HX5.out.below hbq.out)
              have HBQ := hide (below_two HB5.out hbq.out)
              have HNQ := hide (HQ5.out.below hbq.out)
              by_cases hlk : l < k
              case pos =>
                obtain ⟨u, hu⟩ : ∃ u, is[l]? = some u := ⟨is[l]'(by have := HN.out; omega), List.getElem?_eq_some_iff.2 ⟨_, rfl⟩⟩
                obtain ⟨_, _, _, _, _, _, p0, _, _, _, _⟩ := HR.out.2 l u hu
                have HFU := hide (HF.out u (List.mem_of_getElem? hu))
                have hne := hash_other (ahead_all hst.out HI.out HLE.out hlk hu)
                have f2 : ∀ p : Later wq, p.w1.cell? ⟨b, o + l * 3, none⟩ = some (.string u.1) := fun p => p.cell (Nat.lt_of_lt_of_le hbw HBQ.out.size) ((HBQ.out.cell (p := ⟨b, o + l * 3, none⟩) hbw).trans p0)
                obtain ⟨⟨y0, _, _⟩, _, hyl⟩ := HXQ.out.facts
                have f3 : ∀ p : Later wq, p.w1.cell? ⟨wr.heap.size, 0, none⟩ = some (.string i.1) := fun p => p.cell hyl y0
                have HC3 : Hid (∀ p : Later wq, Calls Tryz.prog 33 #[.string u.1] p.w1 fun e w' => e = .returned (.string (hashT u.1)) ∧ Below p.w1.heap.size p.w1 w') := fun p => (rhash_ok u.1 (hashT u.1) p.w1 (by have := HFU.out.name; omega) rfl).mono fun e w' ⟨z1, z2⟩ => ⟨z1, by rw [z2]; exact Below.refl _ _⟩
                have HC4 : Hid (∀ p : Later wq, Calls Tryz.prog 33 #[.string i.1] p.w1 fun e w' => e = .returned (.string (hashT i.1)) ∧ Below p.w1.heap.size p.w1 w') := fun p => (rhash_ok i.1 (hashT i.1) p.w1 (by omega) rfl).mono fun e w' ⟨z1, z2⟩ => ⟨z1, by rw [z2]; exact Below.refl _ _⟩
                have hne3 := later_one wq
                have hli : (l : Int) < (k : Int) := by omega
                have hln : (l : Int) < (n : Int) := by omega
                clear hu p0 y0
                go_wp2
                refine wp_region_later (by kernel_rfl) (by kernel_rfl) ?_
                repeat (first
                  | go_big_quiet_step ((first
                      | (go_at_call 33; first | with_reducible exact Calls.later_of (HC3.out _) | with_reducible exact Calls.later_of (HC4.out _))))
                  | quiet_step ((first
                      | (go_at_call 33; first | with_reducible exact Calls.later_of (HC3.out _) | with_reducible exact Calls.later_of (HC4.out _)))))
                refine wpQuiet_nil ?_
                intro W5 hw'
                have HB6 := hide (below_two hbq.out (later_below hw'))
                clear hw' f2 f3 HC3 HC4 hne3
                go_wp2
                go_roundw
                case rel => exact ⟨l + 1, by omega, by go_num, HB6⟩
                case measure => simp [intOf]; omega
              case neg =>
                have hld : decide (l < k) = false := by rw [decide_eq_false_iff_not]; exact hlk
                clear hlk
                obtain ⟨⟨_, _, x2⟩, _, _⟩ := HXQ.out.facts
                cases how : ownB i.2.2 with
                | false =>
                  have HOW := hide how
                  clear how
                  have HE : Hid (s = 7) := stand_tree HI.out hsv.out HLE.out HOW.out
                  go_wp2_with fail
                  refine (rown_ok _ i.2.2 false w0 wq (HOK.out.next HBQ.out) HNQ.out (by have := HFI.out.tree; unfold maxLen; omega) HFI.out.path HOW.out).mono ?_
                  rintro e w9 ⟨rfl, ok9, hb9⟩
                  go_wp2
                  go_ret
                  refine ⟨?_, ok9, below_two HBQ.out hb9⟩
                  rw [← HVS.out, if_neg (by rw [HE.out]; decide), HE.out]; rfl
                | true =>
                  have HOW := hide how
                  clear how
                  have HSV2 := hide (stand_step HI.out hsv.out HLE.out HOW.out)
                  rw [← ahead_at HI.out] at HSV2
                  have HST2 := hide (stood_take hst.out HI.out HLE.out HOW.out)
                  go_wp2_with fail
                  refine (rown_ok _ i.2.2 true w0 wq (HOK.out.next HBQ.out) HNQ.out (by have := HFI.out.tree; unfold maxLen; omega) HFI.out.path HOW.out).mono ?_
                  rintro e w9 ⟨rfl, ok9, hb9⟩
                  have HB9 := hide (below_two HBQ.out hb9)
                  clear hb9 ok9
                  go_wp2
                  go_roundw
                  case rel => exact ⟨k + 1, by omega, by go_num, HST2, HSV2, HB9⟩
                  case measure => simp [intOf]; omega
        | false =>
          have HE : Hid (s = 6) := stand_name HI.out hsv.out hle
          have hkp : 0 < k := by
            rcases Nat.eq_zero_or_pos k with h | h
            · subst h
              have := nil_less HBN.out
              rw [show aheadL is 0 = [] from rfl, this] at hle
              cases hle
            · exact h
          obtain ⟨j, hj⟩ : ∃ j, k = j + 1 := ⟨k - 1, by omega⟩
          obtain ⟨y, hy⟩ : ∃ y, is[j]? = some y := ⟨is[j]'(by have := HN.out; omega), List.getElem?_eq_some_iff.2 ⟨_, rfl⟩⟩
          rw [hj, ahead_at hy] at hle
          obtain ⟨_, _, _, _, _, _, p0, _, _, _, _⟩ := HR.out.2 j y hy
          have hny := hst.out.name (List.mem_of_getElem? (show (is.take k)[j]? = some y by rw [List.getElem?_take_of_lt (by omega)]; exact hy))
          have f1 : ∀ p : Later W, p.w1.cell? ⟨b, o + j * 3, none⟩ = some (.string y.1) := fun p => p.cell hbW ((HBW.out.cell (p := ⟨b, o + j * 3, none⟩) hbw).trans p0)
          have hj0i : (0 : Int) < (k : Int) := by omega
          have hj0d : decide (0 < k) = true := by rw [decide_eq_true_eq]; omega
          have hj1 : (0 : Int) ≤ (j : Int) := by omega
          have hj2 : (j : Int) < (n : Int) := by omega
          have hj4 : IntKind.i64.wrap ((k : Int) - 1) = (j : Int) := by rw [wrap_r (by omega)]; omega
          have HJ := hide hj
          have HY := hide hy
          have HLE := hide hle
          have HNY := hide hny
          clear hy p0 hj hkp hle hny
          cases hg : Op.bytesLess y.1.toList i.1.toList with
          | false =>
            go_wp2_with fail
            rw [HW.out]
            refine wp_region_later (by kernel_rfl) (by kernel_rfl) ?_
            repeat (first
              | go_big_quiet_step ((first
                  | (go_at_call 32; exact Calls.later_of (HC1.out _))))
              | quiet_step ((first
                  | (go_at_call 32; exact Calls.later_of (HC1.out _)))))
            refine wpQuiet_nil ?_
            intro W5 hw'
            have HB5 := hide (below_two HBW.out (later_below hw'))
            clear hw' f0 f1 HC1 hne2 hj1 hj2 hj4
            go_wp2
            go_ret
            refine ⟨?_, HOK.out.next HB5.out, HB5.out⟩
            rw [← HVS.out, if_neg (by rw [HE.out]; decide), HE.out]; rfl
          | true =>
            have HSAME : Hid (((hashT y.1).toList == (hashT i.1).toList) = true) := hash_same (hash_stays HBN.out HLE.out (by rw [Lib.toList_data, Lib.toList_data] at hg; exact hg))
            go_wp2_with fail
            rw [HW.out]
            refine wp_region_later (by kernel_rfl) (by kernel_rfl) ?_
            repeat (first
              | go_big_quiet_step ((first
                  | (go_at_call 32; exact Calls.later_of (HC1.out _))))
              | quiet_step ((first
                  | (go_at_call 32; exact Calls.later_of (HC1.out _)))))
            refine wpQuiet_nil ?_
            intro W5 hw'
            have HB5 := hide (below_two HBW.out (later_below hw'))
            have HX5 := hide (HBX.out.below (later_below hw'))
            have HQ5 := hide (HQ4.out.below (later_below hw'))
            clear hw' f0 f1 HC1 hne2 hj1 hj2 hj4 hg
            go_wp2
            go_loopw [7] (fun v wq => ∃ l : Nat, l ≤ j ∧ v = .int .i64 l ∧ Hid (Below W5.heap.size W5 wq)) (fun v _ => k - (intOf v).toNat)
            case atStart => exact ⟨0, Nat.zero_le _, rfl, Below.refl _ _⟩
            case round =>
              rename World => wq
              obtain ⟨l, hl, rfl, hbq⟩ := hrel
              have HXQ := hide (HX5.out.below hbq.out)
              have HBQ := hide (below_two HB5.out hbq.out)
              have hlk : l < k := by have := HJ.out; omega
              obtain ⟨u, hu⟩ : ∃ u, is[l]? = some u := ⟨is[l]'(by have := HN.out; omega), List.getElem?_eq_some_iff.2 ⟨_, rfl⟩⟩
              obtain ⟨_, _, _, _, _, _, p0, _, _, _, _⟩ := HR.out.2 l u hu
              have HFU := hide (HF.out u (List.mem_of_getElem? hu))
              have HU := hide hu
              cases hz : ((hashT u.1).toList == (hashT i.1).toList) with
              | true =>
                have f2 : ∀ p : Later wq, p.w1.cell? ⟨b, o + l * 3, none⟩ = some (.string u.1) := fun p => p.cell (Nat.lt_of_lt_of_le hbw HBQ.out.size) ((HBQ.out.cell (p := ⟨b, o + l * 3, none⟩) hbw).trans p0)
                obtain ⟨⟨y0, _, _⟩, _, hyl⟩ := HXQ.out.facts
                have f3 : ∀ p : Later wq, p.w1.cell? ⟨wr.heap.size, 0, none⟩ = some (.string i.1) := fun p => p.cell hyl y0
                have HC3 : Hid (∀ p : Later wq, Calls Tryz.prog 33 #[.string u.1] p.w1 fun e w' => e = .returned (.string (hashT u.1)) ∧ Below p.w1.heap.size p.w1 w') := fun p => (rhash_ok u.1 (hashT u.1) p.w1 (by have := HFU.out.name; omega) rfl).mono fun e w' ⟨z1, z2⟩ => ⟨z1, by rw [z2]; exact Below.refl _ _⟩
                have HC4 : Hid (∀ p : Later wq, Calls Tryz.prog 33 #[.string i.1] p.w1 fun e w' => e = .returned (.string (hashT i.1)) ∧ Below p.w1.heap.size p.w1 w') := fun p => (rhash_ok i.1 (hashT i.1) p.w1 (by omega) rfl).mono fun e w' ⟨z1, z2⟩ => ⟨z1, by rw [z2]; exact Below.refl _ _⟩
                have hne3 := later_one wq
                have hli : (l : Int) < (k : Int) := by omega
                have hln : (l : Int) < (n : Int) := by omega
                clear hu p0 y0
                go_wp2
                refine wp_region_later (by kernel_rfl) (by kernel_rfl) ?_
                repeat (first
                  | go_big_quiet_step ((first
                      | (go_at_call 33; first | with_reducible exact Calls.later_of (HC3.out _) | with_reducible exact Calls.later_of (HC4.out _))))
                  | quiet_step ((first
                      | (go_at_call 33; first | with_reducible exact Calls.later_of (HC3.out _) | with_reducible exact Calls.later_of (HC4.out _)))))
                refine wpQuiet_nil ?_
                intro W5 hw'
                have HB6 := hide (below_two HBQ.out (later_below hw'))
                clear hw' f2 f3 HC3 HC4 hne3
                go_wp2
                go_ret
                refine ⟨?_, HOK.out.next HB6.out, HB6.out⟩
                rw [← HVS.out, if_neg (by rw [HE.out]; decide), HE.out]; rfl
              | false =>
                have hlj : l ≠ j := fun e => by
                  have h1 := HU.out
                  rw [e, HY.out] at h1
                  cases h1
                  rw [HSAME.out] at hz
                  cases hz
                have f2 : ∀ p : Later wq, p.w1.cell? ⟨b, o + l * 3, none⟩ = some (.string u.1) := fun p => p.cell (Nat.lt_of_lt_of_le hbw HBQ.out.size) ((HBQ.out.cell (p := ⟨b, o + l * 3, none⟩) hbw).trans p0)
                obtain ⟨⟨y0, _, _⟩, _, hyl⟩ := HXQ.out.facts
                have f3 : ∀ p : Later wq, p.w1.cell? ⟨wr.heap.size, 0, none⟩ = some (.string i.1) := fun p => p.cell hyl y0
                have HC3 : Hid (∀ p : Later wq, Calls Tryz.prog 33 #[.string u.1] p.w1 fun e w' => e = .returned (.string (hashT u.1)) ∧ Below p.w1.heap.size p.w1 w') := fun p => (rhash_ok u.1 (hashT u.1) p.w1 (by have := HFU.out.name; omega) rfl).mono fun e w' ⟨z1, z2⟩ => ⟨z1, by rw [z2]; exact Below.refl _ _⟩
                have HC4 : Hid (∀ p : Later wq, Calls Tryz.prog 33 #[.string i.1] p.w1 fun e w' => e = .returned (.string (hashT i.1)) ∧ Below p.w1.heap.size p.w1 w') := fun p => (rhash_ok i.1 (hashT i.1) p.w1 (by omega) rfl).mono fun e w' ⟨z1, z2⟩ => ⟨z1, by rw [z2]; exact Below.refl _ _⟩
                have hne3 := later_one wq
                have hli : (l : Int) < (k : Int) := by omega
                have hln : (l : Int) < (n : Int) := by omega
                clear hu p0 y0
                go_wp2
                refine wp_region_later (by kernel_rfl) (by kernel_rfl) ?_
                repeat (first
                  | go_big_quiet_step ((first
                      | (go_at_call 33; first | with_reducible exact Calls.later_of (HC3.out _) | with_reducible exact Calls.later_of (HC4.out _))))
                  | quiet_step ((first
                      | (go_at_call 33; first | with_reducible exact Calls.later_of (HC3.out _) | with_reducible exact Calls.later_of (HC4.out _)))))
                refine wpQuiet_nil ?_
                intro W5 hw'
                have HB6 := hide (below_two hbq.out (later_below hw'))
                clear hw' f2 f3 HC3 HC4 hne3
                have hkj := HJ.out
                go_wp2
                go_roundw
                case rel => exact ⟨l + 1, by omega, by go_num, HB6⟩
                case measure => simp [intOf]; omega
    case neg =>
      have hkd : decide (k < n) = false := by rw [decide_eq_false_iff_not]; exact hlt
      have HS0' : Hid (s = 0) := by
        have h1 := hsv.out
        rw [List.drop_eq_nil_of_le (by have := HN.out; omega)] at h1
        exact h1.symm
      have HVR : Hid ((if refersB (namesI is) is = true then (0 : Int) else 8) = r) := by rw [← HVS.out, if_pos HS0'.out]; exact hide rfl
      obtain ⟨names, hnames⟩ : ∃ l, namesI is = l := ⟨_, rfl⟩
      have HNM := hide hnames
      have HZN : Hid (∀ x ∈ names, x.size ≤ maxLen) := by
        rw [← hnames]
        intro x hx
        obtain ⟨i, hi, rfl⟩ := List.mem_map.1 hx
        have := (HF.out i hi).name
        unfold maxLen; omega
      have HNL : Hid (names.length = n) := by rw [← hnames]; unfold namesI; rw [List.length_map]; exact HN.out.symm
      rw [hnames] at HVR
      clear hlt hnames hst hsv
      rename World => wo
      go_wp2
      go_loopw [8] (fun v wr => ∃ k : Nat, k ≤ n ∧ v = .int .i64 k ∧ Hid (refersB names (is.take k) = true) ∧ Hid (Below w1.heap.size w1 wr)) (fun v _ => n - (intOf v).toNat)
      case atStart => exact ⟨0, Nat.zero_le _, rfl, rfl, hbl⟩
      case round =>
        rename World => wr
        obtain ⟨k, hk, rfl, ha, hbq⟩ := hrel
        by_cases hlt : k < n
        case pos =>
          obtain ⟨i, hi⟩ : ∃ i, is[k]? = some i := ⟨is[k]'(by have := HN.out; omega), List.getElem?_eq_some_iff.2 ⟨_, rfl⟩⟩
          obtain ⟨ra, rn, rc, ta, tn, tc, _, q1, q2, q3, q4⟩ := (HR.out.2 k i hi).below hbq.out
          have HFI := hide (HF.out i (List.mem_of_getElem? hi))
          have HI := hide hi
          have HBW := hbq
          have hki : (k : Int) < (n : Int) := by omega
          have hbr : b < wr.heap.size := Nat.lt_of_lt_of_le hbw hbq.out.size
          have HRF := hide q3
          have HTR := hide q4
          obtain ⟨T, hT⟩ : ∃ T, tellI names i.2.2 = T := ⟨_, rfl⟩
          have HT := hide hT
          obtain ⟨z, hz⟩ : ∃ z, decide (i.2.1 = T) = z := ⟨_, rfl⟩
          have HZ := hide hz
          clear hi q3 q4 hT hz
          go_wp2_with fail
          have hS0 : Below wr.heap.size wr wr.drew := (Below.refl _ wr).drew
          refine wp_region_held (S := fun w' => Below wr.heap.size wr w') (by kernel_rfl) ?_
          change wpAnyH _ _ _ _ _ _ _ _ (World.drew _)
          refine wpAnyH_take (i := 0) (v := (.slice (some ⟨b, o, none⟩) n c)) rfl (by kernel_rfl) (by kernel_rfl) (by kernel_rfl) (fun _ _ _ h => h) (Or.inl ⟨by kernel_rfl, ?_⟩) hS0 ?_
          · intro w' hw'
            go_simp
          refine wpAnyH_take (i := 1) (v := (.int .i64 k)) rfl (by kernel_rfl) (by kernel_rfl) (by kernel_rfl) (fun _ _ _ h => h) (Or.inl ⟨by kernel_rfl, ?_⟩) hS0 ?_
          · intro w' hw'
            go_simp
          refine wpAnyH_take (i := 2) (v := (.pointer (some ⟨b, o + k * 3, none⟩))) rfl (by kernel_rfl) (by kernel_rfl) (by kernel_rfl) (fun _ _ _ h => h) (Or.inl ⟨by kernel_rfl, ?_⟩) hS0 ?_
          · intro w' hw'
            go_simp
          refine wpAnyH_take (i := 3) (v := (.pointer (some ⟨b, o + k * 3 + 1, none⟩))) rfl (by kernel_rfl) (by kernel_rfl) (by kernel_rfl) (fun _ _ _ h => h) (Or.inl ⟨by kernel_rfl, ?_⟩) hS0 ?_
          · intro w' hw'
            go_simp
          refine wpAnyH_take (i := 4) (v := (.slice ra rn rc)) rfl (by kernel_rfl) (by kernel_rfl) (by kernel_rfl) (fun _ _ _ h => h) (Or.inl ⟨by kernel_rfl, ?_⟩) hS0 ?_
          · intro w' hw'
            have y1 := (hw'.cell (p := ⟨b, o + k * 3 + 1, none⟩) hbr).trans q1
            go_simp
          refine wpAnyH_take (i := 5) (v := (.slice (some ⟨b, o, none⟩) n c)) rfl (by kernel_rfl) (by kernel_rfl) (by kernel_rfl) (fun _ _ _ h => h) (Or.inl ⟨by kernel_rfl, ?_⟩) hS0 ?_
          · intro w' hw'
            go_simp
          refine wpAnyH_take (i := 6) (v := (.int .i64 k)) rfl (by kernel_rfl) (by kernel_rfl) (by kernel_rfl) (fun _ _ _ h => h) (Or.inl ⟨by kernel_rfl, ?_⟩) hS0 ?_
          · intro w' hw'
            go_simp
          refine wpAnyH_take (i := 7) (v := (.pointer (some ⟨b, o + k * 3, none⟩))) rfl (by kernel_rfl) (by kernel_rfl) (by kernel_rfl) (fun _ _ _ h => h) (Or.inl ⟨by kernel_rfl, ?_⟩) hS0 ?_
          · intro w' hw'
            go_simp
          refine wpAnyH_take (i := 8) (v := (.pointer (some ⟨b, o + k * 3 + 2, none⟩))) rfl (by kernel_rfl) (by kernel_rfl) (by kernel_rfl) (fun _ _ _ h => h) (Or.inl ⟨by kernel_rfl, ?_⟩) hS0 ?_
          · intro w' hw'
            go_simp
          refine wpAnyH_take (i := 9) (v := (.slice ta tn tc)) rfl (by kernel_rfl) (by kernel_rfl) (by kernel_rfl) (fun _ _ _ h => h) (Or.inl ⟨by kernel_rfl, ?_⟩) hS0 ?_
          · intro w' hw'
            have y2 := (hw'.cell (p := ⟨b, o + k * 3 + 2, none⟩) hbr).trans q2
            go_simp
          refine wpAnyH_take (i := 10) (v := (.slice (some ⟨b, o, none⟩) n c)) rfl (by kernel_rfl) (by kernel_rfl) (by kernel_rfl) (fun _ _ _ h => h) (Or.inl ⟨by kernel_rfl, ?_⟩) hS0 ?_
          · intro w' hw'
            go_simp
          refine wpAnyH_ready (rs := [11]) (by kernel_rfl) (by simp) (AllReadyH.cons rfl (fun K hK => ?_) AllReadyH.nil)
          go_simp
          refine (rnames9_ok _ is names wr.drew ((HITS.out.below HBW.out).below hS0) (by rw [← HN.out]; omega) HNM.out).mono ?_
          rintro e w3 ⟨a3, c3, rfl, ho3, hb3⟩
          rw [← HN.out] at ho3 ⊢
          have HO3 := hide ho3.txt
          have hS3 : Below wr.heap.size wr w3 := below_two hS0 hb3
          clear ho3 hb3
          refine hK.out _ _ hS3 (fun _ => ?_)
          clear hK K
          refine wpAnyH_ready (rs := [12]) (by kernel_rfl) (by simp) (AllReadyH.cons rfl (fun K hK => ?_) AllReadyH.nil)
          go_simp
          refine (rtree_ok _ i.2.2 _ names T w3 (HTR.out.below hS3) (by have := HFI.out.tree; omega) (fun x hx => by have := (HFI.out.path x hx).2; omega) HO3.out (by rw [HNL.out]; omega) HZN.out HT.out).mono ?_
          rintro e w4 ⟨a4, c4, rfl, ho4, hb4⟩
          have HO4 := hide ho4.txt
          have hS4 : Below wr.heap.size wr w4 := below_two hS3 hb4
          clear ho4 hb4
          refine hK.out _ _ hS4 (fun _ => ?_)
          clear hK K
          refine wpAnyH_ready (rs := [13]) (by kernel_rfl) (by simp) (AllReadyH.cons rfl (fun K hK => ?_) AllReadyH.nil)
          go_simp
          refine (rsT_any _ _ i.2.1 T w4 (HRF.out.below hS4) HO4.out (by have := HFI.out.refs; omega)).mono ?_
          rintro e w5 ⟨rfl, hb5⟩
          rw [HZ.out]
          have hS5 : Below wr.heap.size wr w5 := below_two hS4 hb5
          clear hb5
          refine hK.out _ _ hS5 (fun _ => ?_)
          clear hK K
          refine wpAnyH_ready (rs := [14]) (by kernel_rfl) (by simp) (AllReadyH.cons rfl (fun K hK => ?_) AllReadyH.nil)
          go_simp
          refine hK.out _ _ hS5 (fun _ => ?_)
          clear hK K
          refine wpAnyH_done (by kernel_rfl) ?_ _
          have HB5 := hide (below_two hbq.out hS5)
          clear hS0 hS3 hS4 hS5 q1 q2
          cases z with
          | false =>
            have HE : Hid (r = 8) := by
              rw [← HVR.out, refers_fall HI.out (by rw [HT.out]; exact of_decide_eq_false HZ.out)]; exact if_neg (by decide)
            go_wp2
            go_ret
            exact ⟨by rw [HE.out]; rfl, HOK.out.next HB5.out, HB5.out⟩
          | true =>
            have HE := hide (refers_step HI.out (by rw [HT.out]; exact of_decide_eq_true HZ.out) ha.out)
            go_wp2
            go_roundw
            case rel => exact ⟨k + 1, by omega, by go_num, HE, HB5⟩
            case measure => simp [intOf]; omega
        case neg =>
          have hkd2 : decide (k < n) = false := by rw [decide_eq_false_iff_not]; exact hlt
          have HE : Hid (r = 0) := by
            have h1 := ha.out
            rw [List.take_of_length_le (by have := HN.out; omega)] at h1
            rw [← HVR.out, h1]; exact if_pos rfl
          clear hlt
          go_wp2
          go_ret
          exact ⟨by rw [HE.out]; rfl, HOK.out.next hbq.out, hbq.out⟩

set_option maxRecDepth 100000 in
set_option maxHeartbeats 1000000 in
theorem rvalidate_none (p : ByteArray) (a : Option Addr) (c : Nat) (w : World) (hp : p.size ≤ 9223372036854775807) (hpf : prefB p = true) :
    Calls Tryz.prog 17 #[.string p, .slice a 0 c] w fun e w' => e = .returned (.int .i64 0) ∧ w' = w := by
  have HPF := hide hpf
  clear hpf
  go_enter Tryz.func17, Tryz.ntmps17
  go_wp2_with fail
  refine (rprefix_ok p true w hp HPF.out).mono ?_
  rintro e w1 ⟨rfl, hw1⟩
  obtain rfl := hw1
  go_wp2
  go_loop [5] (fun v => v = .int .i64 0) (fun _ => 0)
  case atStart => rfl
  case round =>
    subst hrel
    go_wp2
    go_loop [8] (fun v => v = .int .i64 0) (fun _ => 0)
    case atStart => rfl
    case round =>
      subst hrel
      go_wp2
      go_ret
      exact ⟨rfl, rfl⟩
set_option maxRecDepth 100000 in
set_option maxHeartbeats 1000000 in
theorem rvalidate_pref (p : ByteArray) (a : Option Addr) (n c : Nat) (w : World) (hp : p.size ≤ 9223372036854775807) (hpf : prefB p = false) :
    Calls Tryz.prog 17 #[.string p, .slice a n c] w fun e w' => e = .returned (.int .i64 11) ∧ w' = w := by
  have HPF := hide hpf
  clear hpf
  go_enter Tryz.func17, Tryz.ntmps17
  go_wp2_with fail
  refine (rprefix_ok p false w hp HPF.out).mono ?_
  rintro e w1 ⟨rfl, hw1⟩
  obtain rfl := hw1
  go_wp2
  go_ret
  exact ⟨rfl, rfl⟩
set_option maxRecDepth 100000 in
set_option maxHeartbeats 1000000 in
theorem rvalidate_many (p : ByteArray) (a : Option Addr) (n c : Nat) (w : World) (hp : p.size ≤ 9223372036854775807) (hpf : prefB p = true) (h8 : 8 < n) :
    Calls Tryz.prog 17 #[.string p, .slice a n c] w fun e w' => e = .returned (.int .i64 3) ∧ w' = w := by
  have HPF := hide hpf
  have h8i : (8 : Int) < (n : Int) := by omega
  clear hpf
  go_enter Tryz.func17, Tryz.ntmps17
  go_wp2_with fail
  refine (rprefix_ok p true w hp HPF.out).mono ?_
  rintro e w1 ⟨rfl, hw1⟩
  obtain rfl := hw1
  go_wp2
  go_ret
  exact ⟨rfl, rfl⟩
theorem rvalidate_ok (p : ByteArray) (v : Value) (is : List It) (r : Int) (w0 w : World) (hok : Ok w0 w) (h : Its w v is) (hp : p.size ≤ 9223372036854775807) (hf : ∀ i ∈ is, Fair i) (hv : valV p is = r) :
    Calls Tryz.prog 17 #[.string p, v] w fun e w' => e = .returned (.int .i64 r) ∧ Ok w0 w' ∧ Below w.heap.size w w' := by
  cases hpf : prefB p with
  | false =>
    have : r = 11 := by rw [← hv]; exact val_pref.2 hpf
    subst this
    obtain ⟨a, c, rfl⟩ := h.form
    refine (rvalidate_pref p a is.length c w hp hpf).mono ?_
    rintro e w' ⟨rfl, rfl⟩
    exact ⟨rfl, hok, Below.refl _ _⟩
  | true =>
    by_cases h8 : is.length ≤ 8
    · rcases h with ⟨rfl, a, c, rfl⟩ | ⟨b, o, c, rfl, hc, hr⟩
      · have : r = 0 := by rw [← hv]; unfold valV; rw [if_pos hpf]; rfl
        subst this
        refine (rvalidate_none p a c w hp hpf).mono ?_
        rintro e w' ⟨rfl, rfl⟩
        exact ⟨rfl, hok, Below.refl _ _⟩
      · exact rvalidate_some p b o c is.length is r w0 w hok rfl h8 hc hr hf hp hpf hv
    · have : r = 3 := by rw [← hv]; unfold valV; rw [if_pos hpf, if_neg h8]
      subst this
      obtain ⟨a, c, rfl⟩ := h.form
      refine (rvalidate_many p a is.length c w hp hpf (by omega)).mono ?_
      rintro e w' ⟨rfl, rfl⟩
      exact ⟨rfl, hok, Below.refl _ _⟩
end Go.Proofs.YtinjbijigjfdfaaGreatDoor
