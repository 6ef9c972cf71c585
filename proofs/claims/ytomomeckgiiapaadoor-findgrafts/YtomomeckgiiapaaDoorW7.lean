/- The walk of the statements' own awake: what every program answers that is one. -/
import Derived.Test.YtomomeckgiiapaaDoorW6
namespace Go.Proofs.YtomomeckgiiapaaDoor
open Go.RowKit

theorem Txt.two (w : World) (x y : ByteArray) : Txt (w.alloc (.cells #[.string x, .string y] 9)) (.slice (some ⟨w.heap.size, 0, none⟩) 2 2) [x, y] := by
  refine .inr ⟨w.heap.size, 0, 2, rfl, by simp, by simp, fun j z hz => ?_⟩
  match j, hz with
  | 0, hz => simp at hz; subst hz; simp
  | 1, hz => simp at hz; subst hz; simp
  | j + 2, hz => simp at hz

theorem aw_may : Hog.mayL (ByteArray.mk #[]).data.toList = true := by decide +kernel
end Go.Proofs.YtomomeckgiiapaaDoor
