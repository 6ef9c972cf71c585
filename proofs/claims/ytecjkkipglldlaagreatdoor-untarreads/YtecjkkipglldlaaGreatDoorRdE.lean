/- What the row's listed variables say of the library's two errors. -/
import Derived.Test.YtecjkkipglldlaaGreatDoorJ12
import Derived.Test.YtecjkkipglldlaaGreatDoorEA
import Derived.Test.YtecjkkipglldlaaGreatDoorRows
import Derived.Stop.LaidErr
import Derived.LaidOnce
namespace Go.Proofs.YtecjkkipglldlaaGreatDoor
open Go.RowKit Go.WideShapes Go.ChangeShapes

theorem gER : Tryz.prog.globalNamed "strconv.ErrRange" = some 2 := by kernel_rfl
theorem gERType : (Tryz.prog.globals[2]?).map (·.type) = some 119 := by kernel_rfl
theorem gES : Tryz.prog.globalNamed "strconv.ErrSyntax" = some 1 := by kernel_rfl
theorem gESType : (Tryz.prog.globals[1]?).map (·.type) = some 119 := by kernel_rfl
theorem cells_es : Tryz.prog.cellsOf 161 = 1 := by kernel_rfl
theorem star_es : "*" ++ "errors.errorString" = "*errors.errorString" := by decide
theorem row_es (u : TypeId) (h : Tryz.prog.typeName? 3 u = some "*errors.errorString") : u = 159 :=
  typeName_ptr_named (nm := "errors.errorString") (by rw [star_es]; kernel_rfl) (by kernel_rfl) (by decide) u (by rw [star_es]; exact h)
/-- What the row's two listed errors give. -/
theorem errs_of {r : List (String × DataW Unit)} {W : World} (h : laidMet Tryz.prog (("strconv.ErrRange", Rows.laid_strconv_ErrRange) :: ("strconv.ErrSyntax", Rows.laid_strconv_ErrSyntax) :: r) W) : Errs W := by
  unfold Rows.laid_strconv_ErrRange Rows.laid_strconv_ErrSyntax at h
  obtain ⟨a0, s0, hv0, -, -, -⟩ := laid_sentinel h gER gERType Tryz.underlying119 row_es Tryz.underlying159 Tryz.underlying161 rfl rfl Tryz.underlying9 cells_es cells_string
  obtain ⟨a1, s1, hv1, -, -, -⟩ := laid_sentinel h.tail gES gESType Tryz.underlying119 row_es Tryz.underlying159 Tryz.underlying161 rfl rfl Tryz.underlying9 cells_es cells_string
  exact ⟨⟨_, _, hv1⟩, ⟨_, _, hv0⟩⟩
end Go.Proofs.YtecjkkipglldlaaGreatDoor
