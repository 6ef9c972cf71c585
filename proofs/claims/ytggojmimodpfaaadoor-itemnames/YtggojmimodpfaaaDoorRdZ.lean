/- Numbers that are handed in: a slice of them in memory, and what it is made of. -/
import Derived.Test.YtggojmimodpfaaaDoorRdB
namespace Go.Proofs.YtggojmimodpfaaaDoor
open Go.RowKit Go.WideShapes Go.ChangeShapes

/-- A slice of numbers that may be read. -/
structure ArgZ (w : World) (ao : Option Addr) (n c : Nat) (zs : List Int) : Prop where
  len : zs.length = n
  none : ao = none → n = 0 ∧ c = 0
  cap : n ≤ c
  cell : ∀ ad, ao = some ad → ∀ (j : Nat) z, zs[j]? = some z → w.cell? (ad.add j) = some (.int .i64 z)
theorem ArgZ.below {w w' : World} {ao : Option Addr} {n c : Nat} {zs : List Int} (h : ArgZ w ao n c zs) (hb : Below w.heap.size w w') : ArgZ w' ao n c zs :=
  ⟨h.len, h.none, h.cap, fun ad e j u hu => by
    have h1 := h.cell ad e j u hu
    rw [hb.cell (addrB_plain h1).2]; exact h1⟩
theorem ArgZ.plain {w : World} {ao : Option Addr} {n c : Nat} {zs : List Int} (h : ArgZ w ao n c zs) (hn : 0 < n) : ∃ b o, ao = some ⟨b, o, Option.none⟩ ∧ b < w.heap.size := by
  cases zs with
  | nil => have := h.len; simp at this; omega
  | cons x r =>
    cases ao with
    | none => have := (h.none rfl).1; omega
    | some ad =>
      have h0 := h.cell ad rfl 0 x rfl
      rw [addB_zero] at h0
      obtain ⟨e, hlt⟩ := addrB_plain h0
      exact ⟨ad.block, ad.off, by rw [← e], hlt⟩
theorem ArgZ.at {w : World} {b o n c : Nat} {zs : List Int} (h : ArgZ w (some ⟨b, o, Option.none⟩) n c zs) {j : Nat} {z : Int} (hz : zs[j]? = some z) : w.cell? ⟨b, o + j, Option.none⟩ = some (.int .i64 z) := by
  have := h.cell _ rfl j z hz
  rwa [addB_plain] at this

theorem wf_w64 {n : Int} (h : (Lit.int .u64 n).wf = true) : ∃ x : Nat, n = x ∧ x < 18446744073709551616 := by
  have h1 : 0 ≤ n ∧ n < 18446744073709551616 := by
    unfold Lit.wf at h
    rw [Bool.and_eq_true, decide_eq_true_eq, decide_eq_true_eq] at h
    have h1 : IntKind.u64.min = 0 := rfl
    have h2 : IntKind.u64.max = 18446744073709551615 := rfl
    omega
  exact ⟨n.toNat, by omega, by omega⟩
theorem cells_int1 : Tryd.prog.cellsOf 3 = 1 := by kernel_rfl
theorem open_nums {H : Type} {enc : TypeId × Value → H} {W : World} {ao : Option Addr} {len cap : Nat} {d : DataW H} {ps : List MemPlace}
    (h : DataW.Trod enc Tryd.prog W 0 (fun _ => true) true 39 (.slice ao len cap) d ps) : ∃ zs : List Int, ArgZ W ao len cap zs ∧ len ≤ maxLen := by
  obtain ⟨fuel, hf⟩ := h
  rcases open_ints Tryd.underlying39 Tryd.underlying3 cells_int1 hf with ⟨hcs, _⟩ | ⟨a, len', cap', zs, hcs, _, hl, hm, hz, _, hcell, hwf⟩
  · have e : ao = none ∧ len = 0 ∧ cap = 0 := by simpa [Value.cells] using hcs
    obtain ⟨rfl, rfl, rfl⟩ := e
    exact ⟨[], ⟨rfl, fun _ => ⟨rfl, rfl⟩, Nat.le_refl _, fun ad e => by cases e⟩, Nat.zero_le _⟩
  · have e : ao = some a ∧ len = len' ∧ cap = cap' := by simpa [Value.cells] using hcs
    obtain ⟨rfl, rfl, rfl⟩ := e
    simp only [if_true] at hz
    refine ⟨zs.take len, ⟨by simp; omega, fun h => (by cases h), hl, fun ad had j u hu => ?_⟩, by omega⟩
    cases had
    have hj := (List.getElem?_eq_some_iff.1 hu).1
    rw [List.length_take] at hj
    have hjz : j < zs.length := by omega
    rw [hcell j hjz]
    rw [List.getElem?_take_of_lt (by omega), List.getElem?_eq_getElem hjz] at hu
    have e3 : zs.getD j 0 = zs[j] := by simp [List.getD, hjz]
    rw [e3, Option.some.inj hu]
end Go.Proofs.YtggojmimodpfaaaDoor
