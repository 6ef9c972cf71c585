/- The walks of the document's own dir, Bad, May. -/
import Derived.Test.YtmlkknbndglgaaaGreatDoorT2
import Derived.Test.YtmlkknbndglgaaaGreatDoorPlainS
namespace Go.Proofs.YtmlkknbndglgaaaGreatDoor
open Go.RowKit

theorem later_below {w w' : World} (h : ∃ p : Later w, w' = p.w1) : Below w.heap.size w w' := by
  obtain ⟨p, rfl⟩ := h
  exact p.below
theorem dirAt_step {ns : List Nd} {k : Nat} {m : Nd} {p : ByteArray} (hm : ns[k]? = some m) (h : dirAt (ns.take k) p = false) (hn : ¬ (m.1 = p ∧ m.2.1 = 1)) : dirAt (ns.take (k + 1)) p = false := by
  unfold dirAt at h ⊢
  refine anyN_step hm ?_ h
  rw [Bool.and_eq_false_iff]
  by_cases e : m.1 = p
  · exact .inr (decide_eq_false fun e2 => hn ⟨e, e2⟩)
  · exact .inl (decide_eq_false e)
theorem dirAt_hit {ns : List Nd} {k : Nat} {m : Nd} {p : ByteArray} (hm : ns[k]? = some m) (h1 : m.1 = p) (h2 : m.2.1 = 1) : dirAt ns p = true := by
  unfold dirAt
  exact List.any_eq_true.2 ⟨m, List.mem_of_getElem? hm, by rw [decide_eq_true h1, decide_eq_true h2]; rfl⟩

end Go.Proofs.YtmlkknbndglgaaaGreatDoor
