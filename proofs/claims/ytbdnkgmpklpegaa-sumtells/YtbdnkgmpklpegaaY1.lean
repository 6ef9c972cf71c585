/- The walk of SumTells. -/
import Derived.Test.YtbdnkgmpklpegaaZ3
import Derived.RegionTactic
namespace Go.Proofs.Ytbdnkgmpklpegaa
open Go.RowKit

/-- The rest of a region, behind its first four operations, in the order of the text. -/
theorem wpAny_later4 {P : Program} {Q : Exit → Act → World → Prop} {o0 o1 o2 o3 : Oper} {l : List Oper} {listed : Array Bool} {a : Act} {w : World}
    (hs : Region.noSelect (o0 :: o1 :: o2 :: o3 :: l).toArray = true) (hB : Region.lexFrom .any (o0 :: o1 :: o2 :: o3 :: l).toArray l.length 4 listed = true)
    (h : wpQuiet P (o0 :: o1 :: o2 :: o3 :: l).toArray (fun w' => ∃ p : Later w, w' = p.w1) (fun a' => ∀ w', (∃ p : Later w, w' = p.w1) → Q .normal a' w') l a) : wpAny P .any (o0 :: o1 :: o2 :: o3 :: l).toArray Q l.length listed a w := by
  refine wpAny_of_quiet (C := fun w' => ∃ p : Later w, w' = p.w1) (Q := fun a' => ∀ w', (∃ p : Later w, w' = p.w1) → Q .normal a' w') (fun _ w' hw' h => h w' hw') _ _ _ _ ⟨⟨w, Below.refl _ _⟩, rfl⟩ ?_
  refine wpAnyQ_lex hs l 4 listed a (fun j => ?_) hB h
  rw [Nat.add_comm 4 j]
  simp

set_option maxRecDepth 100000 in
set_option maxHeartbeats 400000 in
theorem tells_walk (ao : Option Addr) (n c : Nat) (l : List UInt8) (h : Nat) (x : UInt8) (w : World) (ha : ArgB w ao n c l) (hh : h < 18446744073709551616) :
    Calls Try.prog 3 #[.slice ao n c, .int .u64 h, .int .u8 x.toNat] w fun e w' => e = .returned (.bool true) ∧ Below w.heap.size w w' := by
  have HA := hide ha
  have HN := hide ha.len
  clear ha
  go_enter Try.func3, Try.ntmps3
  by_cases h5 : 500 < n
  · have h5' : (500 : Int) < (n : Int) := by omega
    go_wp2_with fail
    refine (awake6_ok w).mono ?_
    rintro e w1 ⟨rfl, hb1⟩
    go_wp2
    go_ret
    exact ⟨rfl, hb1⟩
  · have h5' : (n : Int) ≤ 500 := by omega
    go_wp2_with fail
    refine (lendB_any ao n c l w HA.out (by omega)).mono ?_
    rintro e w1 ⟨rfl, hl1, hb1⟩
    obtain ⟨g, hg⟩ : ∃ g, g = w.heap.size := ⟨_, rfl⟩
    rw [← hg] at hl1 ⊢
    have HL1 := hide hl1
    have HB1 := hide hb1
    have hg1 : g < w1.heap.size := hl1.lt
    clear hl1 hb1 hg
    go_wp2_with fail
    refine wp_region_any (by kernel_rfl) ?_
    change wpAny _ _ _ _ _ _ _ (World.drew _)
    refine wpAny_take (i := 0) (v := .slice (some ⟨g, 0, none⟩) n (n + 3)) rfl (by kernel_rfl) (by kernel_rfl) (by kernel_rfl) (fun _ _ _ h => h) (Or.inl ⟨by rfl, ?_⟩) ?_
    · intro w; go_simp
    refine wpAny_take (i := 3) (v := .slice ao n c) rfl (by kernel_rfl) (by kernel_rfl) (by kernel_rfl) (fun _ _ _ h => h) (Or.inl ⟨by rfl, ?_⟩) ?_
    · intro w; go_simp
    refine wpAny_ready (rs := [1]) (by kernel_rfl) (by simp) (AllReady.cons rfl ?_ AllReady.nil)
    intro K hK
    go_simp
    refine hK _ _ ?_
    clear hK K
    have HLD := hide (HL1.out.below ((Below.refl _ w1).drew) hg1)
    have HW := hide (ArgP.one (HLD.out.arg HN.out.symm))
    have HBX : Hid (Below w.heap.size w (w1.drew.alloc (.cells #[.slice (some ⟨g, 0, none⟩) n (n + 3)] 22))) := below_two (HB1.out.drew) (below_alloc _ _)
    refine wpAny_ready (rs := [2]) (by kernel_rfl) (by simp) (AllReady.cons rfl ?_ AllReady.nil)
    intro K hK
    go_simp
    refine (of_ok _ 1 1 [l] (ofH l) _ HW.out (by decide) (by intro x hx; simp at hx; subst hx; rw [HN.out]; omega) (by simp)).mono ?_
    rintro e w4 ⟨rfl, hw4⟩
    have HL4 : Hid (LentB w4 g 3 l) := by rw [hw4]; exact HLD.out.below (below_alloc _ _) hg1
    have HB4 : Hid (Below w.heap.size w w4) := by rw [hw4]; exact HBX.out
    have hg4 : g < w4.heap.size := HL4.out.lt
    clear hw4 HLD HW HBX HL1 HB1
    obtain ⟨z, hz⟩ : ∃ z, ofH l = z := ⟨_, rfl⟩
    obtain ⟨y, hy⟩ : ∃ y, nextH h x = y := ⟨_, rfl⟩
    obtain ⟨s, hs⟩ : ∃ s, Hog.mk (hexL h) = s := ⟨_, rfl⟩
    obtain ⟨t, ht⟩ : ∃ t, Hog.mk (hexL (ofH l)) = t := ⟨_, rfl⟩
    have htl : Hog.mk (hexL (ofH (Hog.mk l).data.toList)) = t := by rw [Hog.mk_data]; exact ht
    have hsl : (Hog.mk l).size < 1000000000 := by rw [Hog.mk_size, HN.out]; omega
    have HAB : Hid (∀ p : Later w4, ArgB p.w1 ao n c l) := fun p => HA.out.below (below_two HB4.out p.below)
    have HC1 : Hid (∀ p : Later w4, Calls Try.prog 9 #[.slice ao n c] p.w1 fun e w' => e = .returned (.int .u64 z) ∧ Below p.w1.heap.size p.w1 w') := fun p =>
      (rof_ok ao n c l z p.w1 (HAB.out p) (by omega) hz).mono fun e w' ⟨q1, q2⟩ => ⟨q1, by rw [q2]; exact Below.refl _ _⟩
    have HC2 : Hid (∀ p : Later w4, Calls Try.prog 10 #[.int .u64 h, .int .u8 x.toNat] p.w1 fun e w' => e = .returned (.int .u64 y) ∧ Below p.w1.heap.size p.w1 w') := fun p =>
      (next_any h x p.w1 hh).mono fun e w' ⟨q1, q2⟩ => ⟨by rw [q1, hy], by rw [q2]; exact Below.refl _ _⟩
    have HC3 : Hid (∀ p : Later w4, Calls Try.prog 11 #[.int .u64 h, .int .u8 x.toNat] p.w1 fun e w' => e = .returned (.int .u64 y) ∧ Below p.w1.heap.size p.w1 w') := fun p =>
      (rnext_any h x p.w1 hh).mono fun e w' ⟨q1, q2⟩ => ⟨by rw [q1, hy], by rw [q2]; exact Below.refl _ _⟩
    have HC4 : Hid (∀ p : Later w4, Calls Try.prog 12 #[.int .u64 h] p.w1 fun e w' => e = .returned (.string s) ∧ Below p.w1.heap.size p.w1 w') := fun p => hexS h s hs p.w1 hh
    have HC5 : Hid (∀ p : Later w4, Calls Try.prog 13 #[.int .u64 h] p.w1 fun e w' => e = .returned (.string s) ∧ Below p.w1.heap.size p.w1 w') := fun p =>
      (rhex_any h p.w1 hh).mono fun e w' ⟨q1, q2⟩ => ⟨by rw [q1, hs], q2⟩
    have HC6 : Hid (∀ p : Later w4, Calls Try.prog 14 #[.string (Hog.mk l)] p.w1 fun e w' => e = .returned (.string t) ∧ Below p.w1.heap.size p.w1 w') := fun p => digest_ok (Hog.mk l) t p.w1 hsl htl
    have HC7 : Hid (∀ p : Later w4, Calls Try.prog 15 #[.string (Hog.mk l)] p.w1 fun e w' => e = .returned (.string t) ∧ Below p.w1.heap.size p.w1 w') := fun p => rdigest_ok (Hog.mk l) t p.w1 hsl htl
    have HC8 : Hid (∀ p : Later w4, Calls Try.prog 16 #[.slice (some ⟨g, 0, none⟩) n (n + 3), .slice ao n c] p.w1 fun e w' => e = .returned (.bool true) ∧ Below p.w1.heap.size p.w1 w') := fun p =>
      (keptB_any ao g n c l w p.w1 (below_two HB4.out p.below) (HL4.out.below p.below hg4) (HAB.out p) (by omega)).mono fun e w' ⟨q1, _, q3⟩ => ⟨q1, q3⟩
    have HC9 : Hid (∀ p : Later w4, Calls Try.prog 6 #[] p.w1 fun e w' => e = .returned (.bool true) ∧ Below p.w1.heap.size p.w1 w') := fun p => awake6_ok p.w1
    have hstr : ∀ p : Later w4, (convert 22 9 (.slice ao n c)).run Try.prog p.w1 = .ok (.string (Hog.mk l)) p.w1 := fun p => str_bytes (HAB.out p)
    have e1 : (z == z) = true := by simp
    have e2 : (y == y) = true := by simp
    have hne := later_one w4
    rw [hz]
    clear hz hy hs ht htl hsl HAB
    refine hK _ _ ?_
    clear hK K
    refine wpAny_later4 (by kernel_rfl) (by kernel_rfl) ?_
    repeat (first
      | go_big_quiet_step ((first
        | (go_at_call 9; exact Calls.later_of (HC1.out _))
        | (go_at_call 10; exact Calls.later_of (HC2.out _))
        | (go_at_call 11; exact Calls.later_of (HC3.out _))
        | (go_at_call 12; exact Calls.later_of (HC4.out _))
        | (go_at_call 13; exact Calls.later_of (HC5.out _))
        | (go_at_call 14; exact Calls.later_of (HC6.out _))
        | (go_at_call 15; exact Calls.later_of (HC7.out _))
        | (go_at_call 16; exact Calls.later_of (HC8.out _))
        | (go_at_call 6; exact Calls.later_of (HC9.out _)))))
    refine wpQuiet_nil ?_
    intro W5 hw'
    have hbq := later_below hw'
    clear hw'
    have HB5 := hide (below_two HB4.out hbq)
    clear hbq hstr HC1 HC2 HC3 HC4 HC5 HC6 HC7 HC8 HC9 HL4 HB4 e1 e2
    go_wp2
    go_ret
    exact ⟨rfl, HB5.out⟩
end Go.Proofs.Ytbdnkgmpklpegaa
