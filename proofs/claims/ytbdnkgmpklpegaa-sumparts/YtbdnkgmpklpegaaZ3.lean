/- The walks of package sum and of the document's own answer, chapter 6: Digest; awake of layer 6. -/
import Derived.Test.YtbdnkgmpklpegaaZ2
namespace Go.Proofs.Ytbdnkgmpklpegaa
open Go.RowKit

theorem hexS (h : Nat) (t : ByteArray) (ht : Hog.mk (hexL h) = t) (w : World) (hh : h < 18446744073709551616) :
    Calls Try.prog 12 #[.int .u64 h] w fun e w' => e = .returned (.string t) ∧ Below w.heap.size w w' := by
  subst ht
  exact hex_any h w hh
set_option maxHeartbeats 1000000 in
theorem digest_ok (s t : ByteArray) (w : World) (hs : s.size < 1000000000) (ht : Hog.mk (hexL (ofH s.data.toList)) = t) :
    Calls Try.prog 14 #[.string s] w fun e w' => e = .returned (.string t) ∧ Below w.heap.size w w' := by
  obtain ⟨c, w1, hr, ha, hb⟩ := run_bytes_str w s
  have HA := hide (ArgP.one ha)
  have HB := hide (below_two hb (below_alloc w1 (.cells #[.slice (some ⟨w.heap.size, 0, none⟩) s.size c] 22)))
  have HT := hide ht
  have HL := hide (Hog.size_len s)
  clear ha hb ht
  go_enter Try.func14, Try.ntmps14
  go_wp2_with fail
  refine (of_ok _ 1 1 [s.data.toList] (ofH s.data.toList) _ HA.out (by decide) (by intro l hl; simp at hl; subst hl; rw [← HL.out]; exact hs) (by simp)).mono ?_
  rintro e w2 ⟨rfl, rfl⟩
  go_wp2_with fail
  refine (hexS _ t HT.out _ (ofH_lt _)).mono ?_
  rintro e w3 ⟨rfl, hb3⟩
  have HB3 := hide (below_two HB.out hb3)
  clear hb3
  go_wp2
  go_ret
  exact ⟨rfl, HB3.out⟩
set_option maxHeartbeats 1000000 in
theorem rdigest_ok (s t : ByteArray) (w : World) (hs : s.size < 1000000000) (ht : Hog.mk (hexL (ofH s.data.toList)) = t) :
    Calls Try.prog 15 #[.string s] w fun e w' => e = .returned (.string t) ∧ Below w.heap.size w w' := by
  obtain ⟨c, w1, hr, ha, hb⟩ := run_bytes_str w s
  have HA := hide ha
  have HB := hide hb
  have HT := hide ht
  clear ha hb ht
  go_enter Try.func15, Try.ntmps15
  go_wp2_with fail
  refine (rof_ok _ _ _ s.data.toList (ofH s.data.toList) _ HA.out hs rfl).mono ?_
  rintro e w2 ⟨rfl, rfl⟩
  go_wp2_with fail
  refine (rhex_any _ _ (ofH_lt _)).mono ?_
  rintro e w3 ⟨rfl, hb3⟩
  rw [HT.out]
  have HB3 := hide (below_two HB.out hb3)
  clear hb3
  go_wp2
  go_ret
  exact ⟨rfl, HB3.out⟩

theorem dig_none : Hog.mk (hexL (ofH (ByteArray.mk #[]).data.toList)) = ⟨#[99, 98, 102, 50, 57, 99, 101, 52, 56, 52, 50, 50, 50, 51, 50, 53]⟩ := by
  show Hog.mk (hexL (ofH [])) = _
  rw [hex_none]
  rfl
theorem dig_a : Hog.mk (hexL (ofH (ByteArray.mk #[97]).data.toList)) = ⟨#[97, 102, 54, 51, 100, 99, 52, 99, 56, 54, 48, 49, 101, 99, 56, 99]⟩ := by
  show Hog.mk (hexL (ofH [97])) = _
  rw [hex_a]
  rfl
set_option maxHeartbeats 1000000 in
theorem awake6_ok (w : World) :
    Calls Try.prog 6 #[] w fun e w' => e = .returned (.bool true) ∧ Below w.heap.size w w' := by
  go_enter Try.func6, Try.ntmps6
  go_wp2_with fail
  refine (digest_ok _ _ _ (by decide) dig_none).mono ?_
  rintro e w1 ⟨rfl, hb1⟩
  have HB1 := hide hb1
  clear hb1
  go_wp2_with fail
  refine (digest_ok _ _ _ (by decide) dig_a).mono ?_
  rintro e w2 ⟨rfl, hb2⟩
  have HB2 := hide (below_two HB1.out hb2)
  clear hb2
  go_wp2_with fail
  refine (of_ok none 0 0 [] 14695981039346656037 _ (ArgP.nil _) (by decide) (by simp) rfl).mono ?_
  rintro e w3 ⟨rfl, rfl⟩
  go_wp2
  go_ret
  exact ⟨rfl, HB2.out⟩
end Go.Proofs.Ytbdnkgmpklpegaa
