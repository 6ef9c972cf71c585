/- The walks of package path's inner functions: Part. -/
import Derived.Test.YtomomeckgiiapaaDoorRows
import Derived.Test.YtomomeckgiiapaaDoorShelf
import Derived.Test.YtomomeckgiiapaaDoorTxt
import Derived.WalkKit
import Derived.WalkSpells
import Derived.WalkLawsBesides
namespace Go.Proofs.YtomomeckgiiapaaDoor
open Go.RowKit



set_option maxHeartbeats 400000 in
theorem part_any (s : ByteArray) (w : World) (hs : s.size < 1000000) :
    Calls Tryd.prog 63 #[.string s] w fun e w' => e = .returned (.bool (Hog.partL s.data.toList)) ∧ w' = w := by
  go_enter Tryd.func63, Tryd.ntmps63
  go_wp2_with (first
    | (go_at_call 45; refine (Tryd.strings_HasPrefix _ _ _).mono ?_; rintro e w' ⟨rfl, rfl⟩)
    | (go_at_call 85; refine (Tryd.strings_IndexByte _ _ _).mono ?_; rintro e w' ⟨rfl, rfl⟩))
  all_goals
    go_ret
    refine ⟨ret_bool ?_, rfl⟩
    simp only [Lib.toList_data, Hog.size_len] at *
    unfold Hog.partL
    simp_all <;> (intros; omega)

end Go.Proofs.YtomomeckgiiapaaDoor
