/- The walks of package path: cut, allParts, May. -/
import Derived.Test.YtomomeckgiiapaaDoorW1
namespace Go.Proofs.YtomomeckgiiapaaDoor
open Go.RowKit

theorem mk_map (l : List (List UInt8)) : (l.map Hog.mk).map (·.data.toList) = l := by
  rw [List.map_map]
  conv => rhs; rw [← List.map_id l]
  exact List.map_congr_left fun x _ => Hog.mk_data x

theorem split_any (s : ByteArray) (w : World) (hsh : w.ShapedOpen Tryd.prog) (hs : s.size < 1000000) :
    Calls Tryd.prog 62 #[.string s, .string ⟨#[47]⟩] w fun e w' => ∃ v, e = .returned v ∧ Own w.heap.size w' v ((Hog.cutL s.data.toList).map Hog.mk) ∧ Below w.heap.size w w' := by
  refine (Tryd.strings_Split_shaped s ⟨#[47]⟩ w hsh (by omega) (by decide)).mono ?_
  rintro e w' ⟨rfl, rfl⟩
  refine ⟨_, rfl, ?_, (Below.refl _ _).alloc (Nat.le_refl _) _⟩
  have h := Own.made w ((Hog.cutL s.data.toList).map Hog.mk) (by
    have := Hog.cut_len s.data.toList
    rw [← Hog.size_len] at this
    unfold maxLen; simp only [List.length_map]; omega)
  have hc := Hog.countB_cut s
  have hb := Hog.splitB_cut s
  rw [hb, hc]
  simpa using h

set_option maxHeartbeats 400000 in
theorem cut_any (s : ByteArray) (w : World) (hsh : w.ShapedOpen Tryd.prog) (hs : s.size < 1000000) :
    Calls Tryd.prog 47 #[.string s] w fun e w' => ∃ v, e = .returned v ∧ Own w.heap.size w' v ((Hog.cutC s.data.toList).map Hog.mk) ∧ Below w.heap.size w w' := by
  by_cases h0 : s.data.toList = []
  · have hb : s.toList.isEmpty = true := by rw [Lib.toList_data, h0]; rfl
    go_enter Tryd.func47, Tryd.ntmps47
    go_wp2_with fail
    go_ret
    refine ⟨_, rfl, ?_, Below.refl _ _⟩
    unfold Hog.cutC
    rw [if_pos h0]
    exact Own.nil _ _
  · have hb : s.toList.isEmpty = false := by rw [Lib.toList_data]; simpa using h0
    go_enter Tryd.func47, Tryd.ntmps47
    go_wp2_with fail
    refine (split_any s w hsh hs).mono ?_
    rintro e w' ⟨v, rfl, ho, hbl⟩
    go_wp2_with fail
    go_ret
    refine ⟨_, rfl, ?_, hbl⟩
    unfold Hog.cutC
    rw [if_neg h0]
    exact ho

end Go.Proofs.YtomomeckgiiapaaDoor
