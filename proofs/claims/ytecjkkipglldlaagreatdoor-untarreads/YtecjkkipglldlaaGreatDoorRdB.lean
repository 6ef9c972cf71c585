/- Bytes that are handed in, read: what a slice of bytes is made of. -/
import Derived.Test.YtecjkkipglldlaaGreatDoorJ12
import Derived.Test.YtecjkkipglldlaaGreatDoorB1
import Derived.ChangeSlices
namespace Go.Proofs.YtecjkkipglldlaaGreatDoor
open Go.RowKit Go.WideShapes Go.ChangeShapes

theorem cells_byte : Tryz.prog.cellsOf 5 = 1 := by kernel_rfl
theorem wf_byte {n : Int} (h : (Lit.int .u8 n).wf = true) : ∃ x : UInt8, n = x.toNat := by
  have h1 : 0 ≤ n ∧ n < 256 := by
    unfold Lit.wf at h
    rw [Bool.and_eq_true, decide_eq_true_eq, decide_eq_true_eq] at h
    have h1 : IntKind.u8.min = 0 := rfl
    have h2 : IntKind.u8.max = 255 := rfl
    omega
  exact ⟨UInt8.ofNat n.toNat, by rw [UInt8.toNat_ofNat']; omega⟩
theorem open_bytes {H : Type} {enc : TypeId × Value → H} {W : World} {ao : Option Addr} {len cap : Nat} {d : DataW H} {ps : List MemPlace}
    (h : DataW.Trod enc Tryz.prog W 0 (fun _ => true) true 22 (.slice ao len cap) d ps) : ∃ l : List UInt8, ArgB W ao len cap l ∧ len ≤ maxLen := by
  obtain ⟨fuel, hf⟩ := h
  rcases open_ints Tryz.underlying22 Tryz.underlying5 cells_byte hf with ⟨hcs, _⟩ | ⟨a, len', cap', zs, hcs, _, hl, hm, hz, _, hcell, hwf⟩
  · have e : ao = none ∧ len = 0 ∧ cap = 0 := by simpa [Value.cells] using hcs
    obtain ⟨rfl, rfl, rfl⟩ := e
    exact ⟨[], ArgB.nil W, Nat.zero_le _⟩
  · have e : ao = some a ∧ len = len' ∧ cap = cap' := by simpa [Value.cells] using hcs
    obtain ⟨rfl, rfl, rfl⟩ := e
    simp only [if_true] at hz
    refine ⟨(zs.take len).map fun n => UInt8.ofNat n.toNat, ⟨by simp; omega, fun h => (by cases h), hl, fun ad had j u hu => ?_⟩, by omega⟩
    cases had
    have hj := (List.getElem?_eq_some_iff.1 hu).1
    rw [bcells_len, List.length_map, List.length_take] at hj
    have hjz : j < zs.length := by omega
    rw [hcell j hjz]
    obtain ⟨x, hx⟩ := wf_byte (hwf _ (List.getElem_mem hjz))
    have e1 : (zs.take len)[j]? = some zs[j] := by rw [List.getElem?_take_of_lt (by omega), List.getElem?_eq_getElem hjz]
    have e2 : (bcells ((zs.take len).map fun n => UInt8.ofNat n.toNat))[j]? = some (.int .u8 (UInt8.ofNat (zs[j]).toNat).toNat) := bcells_get (by rw [List.getElem?_map, e1]; rfl)
    rw [e2] at hu
    rw [← hu]
    congr 2
    have e3 : zs.getD j 0 = zs[j] := by simp [List.getD, hjz]
    rw [e3, hx]
    simp
end Go.Proofs.YtecjkkipglldlaaGreatDoor
