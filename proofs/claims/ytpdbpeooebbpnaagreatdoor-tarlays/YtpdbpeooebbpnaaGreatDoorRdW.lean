/- What the row's listed table of powers of ten gives. -/
import Derived.Test.YtpdbpeooebbpnaaGreatDoorTB
import Derived.Test.YtpdbpeooebbpnaaGreatDoorRows
import Derived.Lib.LaidTab
import Derived.Stop.LaidErr
namespace Go.Proofs.YtpdbpeooebbpnaaGreatDoor
open Go.RowKit

theorem gPow : Tryz.prog.globalNamed "internal/strconv.uint64pow10" = some 0 := by kernel_rfl
theorem gPowType : (Tryz.prog.globals[0]?).map (·.type) = some 98 := by kernel_rfl
theorem pow_of {r : List (String × DataW Unit)} {W : World} (h : laidMet Tryz.prog (("internal/strconv.uint64pow10", Rows.laid_internal_strconv_uint64pow10) :: r) W) : Pow W :=
  Lib.tabIs_of_head (zs := Lib.pow10Tab) gPow gPowType Tryz.underlying98 Tryz.underlying86 (by kernel_rfl) (by kernel_rfl) h
end Go.Proofs.YtpdbpeooebbpnaaGreatDoor
