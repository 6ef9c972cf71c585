/- The walk of the statements' own awake, layer 8. -/
import Derived.Test.YteccbnhbdfplfaaSF
import Derived.Test.YteccbnhbdfplfaaSL
import Derived.Test.YteccbnhbdfplfaaW6
namespace Go.Proofs.Yteccbnhbdfplfaa
open Go.RowKit

theorem told_of {act : ByteArray → Bool} {xs R : List ByteArray} (h1 : Hog.rise (plainT R)) (h2 : ∀ x, x ∈ plainT R ↔ x ∈ plainT (seenT act xs)) : toldT act xs = R := by
  unfold toldT
  rw [Hog.pick_one h1 h2, mk_plain]
theorem told_one {act : ByteArray → Bool} {xs : List ByteArray} {x : ByteArray} (h : seenT act xs = [x]) : toldT act xs = [x] :=
  told_of (List.pairwise_singleton _ _) (fun y => by rw [h])
theorem told_two {act : ByteArray → Bool} {xs : List ByteArray} {x : ByteArray} (h : seenT act xs = [x, x]) : toldT act xs = [x] :=
  told_of (List.pairwise_singleton _ _) (fun y => by rw [h]; simp [plainT])
theorem told_none {act : ByteArray → Bool} {xs : List ByteArray} (h : seenT act xs = []) : toldT act xs = [] :=
  told_of List.Pairwise.nil (fun y => by rw [h])

def nA : ByteArray := ⟨#[48, 49, 50, 51, 52, 53, 54, 97, 45, 120]⟩
def nB : ByteArray := ⟨#[49, 49, 50, 51, 52, 53, 54, 97, 45, 120]⟩
def tA : ByteArray := ⟨#[46, 46, 48, 49, 50, 51, 52, 53, 54, 97, 46, 46]⟩
theorem awake_hash : hashT nA = ⟨#[48, 49, 50, 51, 52, 53, 54, 97]⟩ ∧ hashT nB = ⟨#[49, 49, 50, 51, 52, 53, 54, 97]⟩ := by
  have h1 : Hog.hashL nA.data.toList = [48, 49, 50, 51, 52, 53, 54, 97] := by decide
  have h2 : Hog.hashL nB.data.toList = [49, 49, 50, 51, 52, 53, 54, 97] := by decide
  unfold hashT
  rw [h1, h2]
  exact ⟨rfl, rfl⟩
theorem awake_told : toldT (hitB tA) [nA, nB] = [nA] := by
  refine told_one ?_
  obtain ⟨h1, h2⟩ := awake_hash
  unfold seenT
  have e1 : hitB tA (hashT nA) = true := by rw [h1]; decide
  have e2 : hitB tA (hashT nB) = false := by rw [h2]; decide
  rw [List.filter_cons, List.filter_cons, e1, e2]
  rfl

set_option maxRecDepth 100000 in
set_option maxHeartbeats 1000000 in
theorem awake8_ok (w : World) :
    Calls Try.prog 9 #[] w fun e w' => e = .returned (.bool true) ∧ Below w.heap.size w w' := by
  have P1 : Hid (Hog.placesL (⟨#[97, 97]⟩ : ByteArray).data.toList (⟨#[97, 97, 97]⟩ : ByteArray).data.toList = [0, 1]) := by show _ = _; decide
  have P2 : Hid (Hog.hasL (⟨#[97, 98]⟩ : ByteArray).data.toList (⟨#[120, 97, 98]⟩ : ByteArray).data.toList = true) := by show _ = _; decide
  have P3 : Hid (Hog.hasL (⟨#[]⟩ : ByteArray).data.toList (⟨#[97]⟩ : ByteArray).data.toList = false) := by show _ = _; decide
  go_enter Try.func9, Try.ntmps9
  go_wp2_with fail
  refine (places_ok _ _ [0, 1] w (by decide) (by decide) P1.out).mono ?_
  rintro e w1 ⟨a1, c1, rfl, ho1, hb1⟩
  have HO2 : Hid (OwnZ w.heap.size (w1.alloc (.cells #[.int .i64 0, .int .i64 1] 3)) (.slice a1 2 c1) [0, 1]) := OwnZ.alloc ho1 _
  have HN2 : Hid (OwnZ w1.heap.size (w1.alloc (.cells #[.int .i64 0, .int .i64 1] 3)) (.slice (some ⟨w1.heap.size, 0, none⟩) 2 2) [0, 1]) := OwnZ.made w1 [0, 1] (by unfold maxLen; simp)
  have HB2 := hide (below_two hb1 (below_box w1 (.cells #[.int .i64 0, .int .i64 1] 3)))
  clear ho1 hb1
  go_wp2_with fail
  refine (sameZ_any _ _ [0, 1] [0, 1] _ HO2.out.txt HN2.out.txt (by simp)).mono ?_
  rintro e w3 ⟨rfl, hb3⟩
  rw [decide_eq_true rfl]
  have HB3 := hide (below_two HB2.out hb3)
  clear hb3 HO2 HN2 HB2
  go_wp2_with fail
  refine (has_ok _ _ true w3 (by decide) (by decide) P2.out).mono ?_
  rintro e w4 ⟨rfl, hb4⟩
  have HB4 := hide (below_two HB3.out hb4)
  clear hb4 HB3
  go_wp2_with fail
  refine (has_ok _ _ false w4 (by decide) (by decide) P3.out).mono ?_
  rintro e w5 ⟨rfl, hb5⟩
  have HB5 := hide (below_two HB4.out hb5)
  have HT6 : Hid (Own w5.heap.size (w5.alloc (.cells #[.string nA, .string nB] 9)) (.slice (some ⟨w5.heap.size, 0, none⟩) 2 2) [nA, nB]) := Own.made w5 [nA, nB] (by unfold maxLen; simp)
  have HB6 := hide (below_two HB5.out (below_box w5 (.cells #[.string nA, .string nB] 9)))
  clear hb5 HB4 HB5
  go_wp2_with fail
  refine (text_ok tA _ [nA, nB] [nA] _ (by decide) HT6.out.txt (by simp) (by intro x hx; simp at hx; rcases hx with rfl | rfl <;> (unfold maxLen; decide)) awake_told).mono ?_
  rintro e w7 ⟨a7, c7, rfl, ho7, hb7⟩
  have HO8 : Hid (Own _ (w7.alloc (.cells #[.string nA] 9)) (.slice a7 1 c7) [nA]) := ho7.alloc _
  have HN8 := hide (Own.one w7 nA)
  have HB8 := hide (below_two (below_two HB6.out hb7) (below_box w7 (.cells #[.string nA] 9)))
  clear ho7 hb7 HB6 HT6
  go_wp2_with fail
  refine (same_any _ _ [nA] [nA] _ HO8.out.txt HN8.out.txt (by simp)).mono ?_
  rintro e w9 ⟨rfl, hb9⟩
  rw [decide_eq_true rfl]
  have HB9 := hide (below_two HB8.out hb9)
  clear hb9 HO8 HN8 HB8
  go_wp2
  go_ret
  exact ⟨rfl, HB9.out⟩
end Go.Proofs.Yteccbnhbdfplfaa
