/- What the row's listed table of powers of ten gives. -/
import Derived.Test.YtecjkkipglldlaaGreatDoorTB
import Derived.Test.YtecjkkipglldlaaGreatDoorRows
import Derived.Lib.LaidTab
import Derived.Stop.LaidErr
namespace Go.Proofs.YtecjkkipglldlaaGreatDoor
open Go.RowKit

theorem gPow : Tryz.prog.globalNamed "internal/strconv.uint64pow10" = some 3 := by kernel_rfl
theorem gPowType : (Tryz.prog.globals[3]?).map (·.type) = some 163 := by kernel_rfl
theorem pow_of {r : List (String × DataW Unit)} {W : World} (h : laidMet Tryz.prog (("internal/strconv.uint64pow10", Rows.laid_internal_strconv_uint64pow10) :: r) W) : Pow W :=
  Lib.tabIs_of_head (zs := Lib.pow10Tab) gPow gPowType Tryz.underlying163 Tryz.underlying141 (by kernel_rfl) (by kernel_rfl) h
end Go.Proofs.YtecjkkipglldlaaGreatDoor
