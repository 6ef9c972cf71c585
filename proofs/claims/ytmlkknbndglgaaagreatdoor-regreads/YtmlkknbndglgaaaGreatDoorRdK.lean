/- A pack that is handed in, read; what the row's listed variables say of the library's two errors. -/
import Derived.Test.YtmlkknbndglgaaaGreatDoorJ12
import Derived.Test.YtmlkknbndglgaaaGreatDoorJ18
import Derived.Test.YtmlkknbndglgaaaGreatDoorRows
import Derived.Lib.SmallJoins
import Derived.Stop.LaidErr
import Derived.LaidOnce
namespace Go.Proofs.YtmlkknbndglgaaaGreatDoor
open Go.RowKit Go.WideShapes Go.ChangeShapes

theorem cells_items : Tryz.prog.cellsOf 22 = 1 := by kernel_rfl
theorem cells_pack : Tryz.prog.cellsOf 25 = 4 := by kernel_rfl
theorem items_cells1 {H : Type} {enc : TypeId × Value → H} {W : World} {fuel : Nat} {u : Value} {x : DataW H × List MemPlace}
    (h : DataW.trod enc Tryz.prog W 0 (fun _ => true) true fuel 22 [u] = some x) : ∃ ao n c qs, u = .slice ao n c ∧ ArgS W ao n c qs ∧ n ≤ maxLen ∧ Lens (itsOf qs) := by
  have hs : ∃ ao len cap, u = .slice ao len cap := by
    rcases Go.Deep.open_slice Tryz.underlying22 h with ⟨hcs, _⟩ | ⟨a, len', cap', m, k, D, Pl, hcs, _⟩
    · exact ⟨none, 0, 0, by simpa using hcs⟩
    · exact ⟨some a, len', cap', by simpa using hcs⟩
  obtain ⟨ao, len, cap, rfl⟩ := hs
  obtain ⟨qs, h1, h2, h3, _⟩ := open_items (d := x.1) (ps := x.2) ⟨fuel, by simpa [Value.cells] using h⟩
  exact ⟨ao, len, cap, qs, rfl, h1, h2, h3⟩
set_option maxRecDepth 100000 in
theorem open_pack {H : Type} {enc : TypeId × Value → H} {W : World} {v : Value} {d : DataW H} {ps : List MemPlace} {r : Reach} {base : Nat}
    (hv : Value.okWide Tryz.prog W r base 25 v) (h : DataW.Trod enc Tryz.prog W 0 (fun _ => true) true 25 v d ps) :
    ∃ pre ia m ic qs pa n pc xs pol, v = .agg #[.string pre, .slice ia m ic, .slice pa n pc, .int .i64 pol] ∧ ArgS W ia m ic qs ∧ m ≤ maxLen ∧ Lens (itsOf qs) ∧ Arg W pa n pc xs ∧ n ≤ maxLen := by
  obtain ⟨cs, rfl, hcs⟩ := okWide_struct Tryz.underlying25 hv
  obtain ⟨fuel, hf⟩ := h
  obtain ⟨y0, y1, y2, y3, k, _, hl, h0, h1, h2, h3⟩ := Go.Joins.trod_struct4 Tryz.underlying25 hf
  rw [cells_pack] at hl
  rw [cells_string] at h0
  rw [cells_items] at h1
  rw [cells_texts] at h2
  rw [cells_int] at h3
  obtain ⟨l, hl0⟩ : ∃ l, (Value.agg cs).cells.toList = l := ⟨_, rfl⟩
  rw [hl0] at hl h0 h1 h2 h3
  match l, hl with
  | [a, b, c, e], _ =>
    simp only [List.drop_zero, List.drop_succ_cons, List.take_succ_cons, List.take_zero] at h0 h1 h2 h3
    obtain ⟨s0, e0, _, z0⟩ := DataW.trod_string Tryz.underlying9 h0
    obtain ⟨ia, m, ic, qs, e1, a1, z1, l1⟩ := items_cells1 h1
    obtain ⟨pa, n, pc, xs, e2, a2, z2⟩ := texts_cells h2
    obtain ⟨i3, e3, _, _⟩ := DataW.trod_int Tryz.underlying3 h3
    simp only [List.cons.injEq, and_true] at e0 e3
    refine ⟨s0, ia, m, ic, qs, pa, n, pc, xs, i3, ?_, a1, z1, l1, a2, z2⟩
    have e5 : cs.toList = [.string s0, .slice ia m ic, .slice pa n pc, .int .i64 i3] := by
      rw [← e0, ← e1, ← e2, ← e3, ← hl0]; simp [Value.cells]
    rw [← Array.toArray_toList (xs := cs), e5]

theorem gER : Tryz.prog.globalNamed "strconv.ErrRange" = some 3 := by kernel_rfl
theorem gERType : (Tryz.prog.globals[3]?).map (·.type) = some 81 := by kernel_rfl
theorem gES : Tryz.prog.globalNamed "strconv.ErrSyntax" = some 2 := by kernel_rfl
theorem gESType : (Tryz.prog.globals[2]?).map (·.type) = some 81 := by kernel_rfl
theorem cells_es : Tryz.prog.cellsOf 126 = 1 := by kernel_rfl
theorem star_es : "*" ++ "errors.errorString" = "*errors.errorString" := by decide
theorem row_es (u : TypeId) (h : Tryz.prog.typeName? 3 u = some "*errors.errorString") : u = 124 :=
  typeName_ptr_named (nm := "errors.errorString") (by rw [star_es]; kernel_rfl) (by kernel_rfl) (by decide) u (by rw [star_es]; exact h)
/-- What the row's two listed errors give. -/
theorem errs_of {r : List (String × DataW Unit)} {W : World} (h : laidMet Tryz.prog (("strconv.ErrRange", Rows.laid_strconv_ErrRange) :: ("strconv.ErrSyntax", Rows.laid_strconv_ErrSyntax) :: r) W) : Errs W := by
  unfold Rows.laid_strconv_ErrRange Rows.laid_strconv_ErrSyntax at h
  obtain ⟨a0, s0, hv0, -, -, -⟩ := laid_sentinel h gER gERType Tryz.underlying81 row_es Tryz.underlying124 Tryz.underlying126 rfl rfl Tryz.underlying9 cells_es cells_string
  obtain ⟨a1, s1, hv1, -, -, -⟩ := laid_sentinel h.tail gES gESType Tryz.underlying81 row_es Tryz.underlying124 Tryz.underlying126 rfl rfl Tryz.underlying9 cells_es cells_string
  exact ⟨⟨_, _, hv1⟩, ⟨_, _, hv0⟩⟩
end Go.Proofs.YtmlkknbndglgaaaGreatDoor
