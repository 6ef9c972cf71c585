/- The walk of the statements' own awake, chapter 7. -/
import Derived.Test.YtggojmimodpfaaaDoorX9
namespace Go.Proofs.YtggojmimodpfaaaDoor
open Go.RowKit

def oneName : ByteArray := ⟨#[48, 49, 50, 51, 52, 53, 54, 97, 45, 120]⟩
/-- The statements' own item that may be. -/
def oneI : It := (oneName, [], [(⟨#[]⟩, 2, ⟨#[120]⟩)])
theorem one_may : mayI oneI = true := by decide +kernel
theorem one_fair : Fair oneI := by
  refine ⟨by decide, by decide, fun x hx => by simp [oneI] at hx, by decide, fun n hn => ?_⟩
  simp [oneI] at hn
  subst hn
  decide

set_option maxRecDepth 100000 in
set_option maxHeartbeats 400000 in
theorem one_ok (w : World) :
    Calls Tryd.prog 24 #[] w fun e w' => ∃ ta tc, e = .returned (.agg #[.string oneName, .slice none 0 0, .slice ta 1 tc]) ∧ Nods w' (.slice ta 1 tc) oneI.2.2 ∧ Below w.heap.size w w' := by
  go_enter Tryd.func24, Tryd.ntmps24
  go_wp2
  refine bodyPost_ret (results_cell_row rfl _ _ w.heap.size 25 #[.string oneName, .slice none 0 0, .slice (some ⟨w.heap.size + 1, 0, none⟩) 1 1] (0, 0) _ rfl ?_ struct_item rfl size_of_item) rfl ?_
  · rw [heap_alloc_old _ _ (by simp)]
    exact heap_alloc_new w _
  · refine ⟨some ⟨w.heap.size + 1, 0, none⟩, 1, rfl, .inr ⟨w.heap.size + 1, 0, 1, rfl, Nat.le_refl _, by simp, fun j n hn => ?_⟩, below_two (below_box _ _) (below_box _ _)⟩
    match j, hn with
    | 0, hn =>
      simp [oneI] at hn
      subst hn
      exact ⟨by simp, by simp, by simp⟩
    | j + 1, hn => simp [oneI] at hn

theorem aw_name : Hog.nameL oneName.data.toList = true := by decide +kernel
theorem aw_not : Hog.nameL (ByteArray.mk #[48, 49, 50, 51, 52, 53, 54, 101, 45, 120]).data.toList = false := by decide +kernel
theorem aw_hash : Hog.mk (Hog.hashL oneName.data.toList) = ⟨#[48, 49, 50, 51, 52, 53, 54, 97]⟩ := by
  have : Hog.hashL oneName.data.toList = [48, 49, 50, 51, 52, 53, 54, 97] := by decide +kernel
  rw [this]; rfl
theorem Txt.none (w : World) (a : Option Addr) (c : Nat) : Txt w (.slice a 0 c) [] := .inl ⟨rfl, a, c, rfl⟩

set_option maxRecDepth 100000 in
set_option maxHeartbeats 1000000 in
theorem awake7_ok (w0 w : World) (hok : Ok w0 w) :
    Calls Tryd.prog 8 #[] w fun e w' => e = .returned (.bool true) ∧ Ok w0 w' ∧ Below w.heap.size w w' := by
  go_enter Tryd.func8, Tryd.ntmps8
  go_wp2_with fail
  refine (name_ok _ true _ (by decide) aw_name).mono ?_
  rintro e w1 ⟨rfl, hb1⟩
  have HB1 := hide hb1
  clear hb1
  go_wp2_with fail
  refine (name_ok _ false _ (by decide) aw_not).mono ?_
  rintro e w2 ⟨rfl, hb2⟩
  have HB2 := hide (below_two HB1.out hb2)
  clear hb2 HB1
  go_wp2_with fail
  refine (hash_ok _ _ _ (by decide) aw_hash).mono ?_
  rintro e w3 ⟨rfl, hb3⟩
  have HB3 := hide (below_two HB2.out hb3)
  clear hb3 HB2
  go_wp2_with fail
  refine (one_ok _).mono ?_
  rintro e w4 ⟨ta, tc, rfl, hn4, hb4⟩
  have HB4 := hide (below_two HB3.out hb4)
  have HN4 := hide hn4
  clear hb4 hn4 HB3
  go_wp2_with fail
  refine (mayI_ok oneI none 0 0 ta 1 tc true w0 _ (hok.next HB4.out) one_fair (Txt.none _ _ _) HN4.out one_may).mono ?_
  rintro e w5 ⟨rfl, ok5, hb5⟩
  have HB5 := hide (below_two HB4.out hb5)
  clear hb5 HB4 HN4
  go_wp2_with fail
  refine (one_ok _).mono ?_
  rintro e w6 ⟨ta6, tc6, rfl, hn6, hb6⟩
  have HB6 := hide (below_two HB5.out hb6)
  have HN6 := hide hn6
  clear hb6 hn6 HB5
  go_wp2_with fail
  refine (one_ok _).mono ?_
  rintro e w7 ⟨ta7, tc7, rfl, hn7, hb7⟩
  have HB7 := hide (below_two HB6.out hb7)
  have HN7 := hide hn7
  have HN67 := hide (HN6.out.below hb7)
  clear hb7 hn7 HB6 HN6
  have HI := hide (Its.two (i := oneI) (i' := oneI) (Txt.none w7 none 0) HN67.out (Txt.none w7 none 0) HN7.out)
  go_wp2_with fail
  refine (names_ok _ [oneI, oneI] [oneName, oneName] _ HI.out (by decide) rfl).mono ?_
  rintro e w8 ⟨a8, c8, rfl, ho8, hb8⟩
  have HB8 := hide (below_two HB7.out (below_two (below_box _ _) hb8))
  have HO8 := hide ho8
  clear hb8 ho8 HI HN67 HN7 HB7
  go_wp2_with fail
  refine (same_any _ _ [oneName, oneName] [oneName, oneName] _ (HO8.out.txt.below (below_box _ _)) (Txt.two w8 oneName oneName) (by decide)).mono ?_
  rintro e w9 ⟨rfl, hb9⟩
  have HB9 := hide (below_two HB8.out (below_two (below_box _ _) hb9))
  clear hb9
  rw [decide_eq_true rfl]
  go_wp2
  go_ret
  exact ⟨rfl, hok.next HB9.out, HB9.out⟩
end Go.Proofs.YtggojmimodpfaaaDoor
