/- The walk of the statements' own awake: what every program answers that is one. -/
import Derived.Test.YtphjllnpabpohaaDoorW6
namespace Go.Proofs.YtphjllnpabpohaaDoor
open Go.RowKit

theorem Txt.two (w : World) (x y : ByteArray) : Txt (w.alloc (.cells #[.string x, .string y] 9)) (.slice (some ⟨w.heap.size, 0, none⟩) 2 2) [x, y] := by
  refine .inr ⟨w.heap.size, 0, 2, rfl, by simp, by simp, fun j z hz => ?_⟩
  match j, hz with
  | 0, hz => simp at hz; subst hz; simp
  | 1, hz => simp at hz; subst hz; simp
  | j + 2, hz => simp at hz

theorem aw_join : Hog.joinOk (parts [⟨#[97]⟩, ⟨#[46, 46]⟩]) = false := by decide +kernel
theorem aw_joinV : Hog.mk (joinV (parts [⟨#[97]⟩, ⟨#[46, 46]⟩])) = ⟨#[]⟩ := by unfold joinV; rw [aw_join]; rfl
theorem aw_parent : Hog.mk (Hog.parentL (ByteArray.mk #[97, 47, 98]).data.toList) = ⟨#[97]⟩ := by
  have : Hog.parentL (ByteArray.mk #[97, 47, 98]).data.toList = [97] := by decide +kernel
  rw [this]; rfl
theorem aw_parentOk : Hog.parentOk (ByteArray.mk #[97, 47, 98]).data.toList = true := by decide +kernel
theorem aw_split : (Hog.splitL (ByteArray.mk #[97, 47, 98]).data.toList).map Hog.mk = [⟨#[97]⟩, ⟨#[98]⟩] := by
  have : Hog.splitL (ByteArray.mk #[97, 47, 98]).data.toList = [[97], [98]] := by decide +kernel
  rw [this]; rfl
theorem aw_under : Hog.underL (ByteArray.mk #[97, 98]).data.toList (ByteArray.mk #[97]).data.toList = false := by decide +kernel
theorem aw_may : Hog.mayL (ByteArray.mk #[]).data.toList = true := by decide +kernel
theorem aw_base : Hog.mk (Hog.baseL (ByteArray.mk #[120, 47, 121]).data.toList) = ⟨#[121]⟩ := by
  have : Hog.baseL (ByteArray.mk #[120, 47, 121]).data.toList = [121] := by decide +kernel
  rw [this]; rfl

set_option maxHeartbeats 800000 in
theorem awake_any (w : World) (hsh : w.ShapedOpen Tryd.prog) :
    Calls Tryd.prog 8 #[] w fun e w' => e = .returned (.bool true) ∧ Below w.heap.size w w' := by
  have hb0 : ∀ o, Below w.heap.size w (w.alloc o) := fun o => (Below.refl _ _).alloc (Nat.le_refl _) _
  go_enter Tryd.func8, Tryd.ntmps8
  go_wp2_with fail
  refine (join_any _ _ _ (Txt.two w _ _) (by decide) (by intro x hx; simp at hx; rcases hx with rfl | rfl <;> decide)).mono ?_
  rintro e w1 ⟨rfl, hb1⟩
  have HB1 : Hid (Below w.heap.size w w1) := below_two (hb0 _) hb1
  clear hb1 hb0
  rw [aw_join, aw_joinV]
  go_wp2_with fail
  refine (parent_any _ w1 (shape_below hsh HB1.out) (by decide)).mono ?_
  rintro e w2 ⟨rfl, hb2⟩
  have HB2 : Hid (Below w.heap.size w w2) := below_two HB1.out hb2
  clear hb2
  rw [aw_parent, aw_parentOk]
  go_wp2_with fail
  refine (psplit_any _ w2 (shape_below hsh HB2.out) (by decide)).mono ?_
  rintro e w3 ⟨v, rfl, ho, hb3⟩
  rw [aw_split] at ho
  have HB3 : Hid (Below w.heap.size w w3) := below_two HB2.out hb3
  have HT : Hid (Txt w3 v [⟨#[97]⟩, ⟨#[98]⟩]) := ho.txt
  clear hb3 ho
  go_wp2_with fail
  refine (same_any v _ _ _ _ (HT.out.below ((Below.refl _ _).alloc (Nat.le_refl _) _)) (Txt.two w3 _ _) (by decide)).mono ?_
  rintro e w4 ⟨rfl, hb4⟩
  have HB4 : Hid (Below w.heap.size w w4) := below_two (below_two HB3.out ((Below.refl _ _).alloc (Nat.le_refl _) _)) hb4
  clear hb4
  rw [decide_eq_true rfl]
  go_wp2_with fail
  refine (under_any _ _ w4 (shape_below hsh HB4.out) (by decide) (by decide)).mono ?_
  rintro e w5 ⟨rfl, hb5⟩
  have HB5 : Hid (Below w.heap.size w w5) := below_two HB4.out hb5
  clear hb5
  rw [aw_under]
  go_wp2_with fail
  refine (may_any _ w5 (shape_below hsh HB5.out) (by decide)).mono ?_
  rintro e w6 ⟨rfl, hb6⟩
  have HB6 : Hid (Below w.heap.size w w6) := below_two HB5.out hb6
  clear hb6
  rw [aw_may]
  go_wp2_with fail
  refine (base_any _ w6 (shape_below hsh HB6.out) (by decide)).mono ?_
  rintro e w7 ⟨rfl, hb7⟩
  have HB7 : Hid (Below w.heap.size w w7) := below_two HB6.out hb7
  clear hb7
  rw [aw_base]
  go_wp2_with fail
  go_ret
  exact ⟨rfl, HB7.out⟩

end Go.Proofs.YtphjllnpabpohaaDoor
