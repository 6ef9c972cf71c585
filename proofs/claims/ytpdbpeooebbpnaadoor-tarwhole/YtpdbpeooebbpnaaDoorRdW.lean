/- What the row's listed table of powers of ten gives. -/
import Derived.Test.YtpdbpeooebbpnaaDoorTB
import Derived.Test.YtpdbpeooebbpnaaDoorRows
import Derived.Lib.LaidTab
import Derived.Stop.LaidErr
namespace Go.Proofs.YtpdbpeooebbpnaaDoor
open Go.RowKit

theorem gPow : Tryd.prog.globalNamed "internal/strconv.uint64pow10" = some 1 := by kernel_rfl
theorem gPowType : (Tryd.prog.globals[1]?).map (·.type) = some 92 := by kernel_rfl
theorem pow_of {r : List (String × DataW Unit)} {W : World} (h : laidMet Tryd.prog (("internal/strconv.uint64pow10", Rows.laid_internal_strconv_uint64pow10) :: r) W) : Pow W :=
  Lib.tabIs_of_head (zs := Lib.pow10Tab) gPow gPowType Tryd.underlying92 Tryd.underlying78 (by kernel_rfl) (by kernel_rfl) h
end Go.Proofs.YtpdbpeooebbpnaaDoor
