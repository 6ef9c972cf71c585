/- The walks of the document's own Good, dir. -/
import Derived.Test.YtmlkknbndglgaaaGreatDoorJ4
import Derived.Test.YtmlkknbndglgaaaGreatDoorJ5
namespace Go.Proofs.YtmlkknbndglgaaaGreatDoor
open Go.RowKit

theorem good_not {n : Nd} (h : Hog.mayL n.1.data.toList = false) : goodB n = false := by unfold goodB; rw [h]; rfl
theorem good_long {n : Nd} (h : 400 < n.2.2.size) : goodB n = false := by
  have h1 : dataEmpty n.2.2 = false := by
    cases e : dataEmpty n.2.2 with
    | false => rfl
    | true => rw [dataEmpty_iff] at e; have := Hog.size_len n.2.2; rw [e, List.length_nil] at this; omega
  have h2 : dataShort n.2.2 = false := by unfold dataShort; simp; omega
  unfold goodB ruleB dataLink
  rw [h1, h2]
  simp
theorem good_of {n : Nd} (h : Hog.mayL n.1.data.toList = true) : goodB n = ruleB n.2.1 n.2.2 := by unfold goodB; rw [h]; rfl

theorem free_snoc (s : ByteArray) (k : Nat) (hk : k < s.size) (h2 : (((s[k].toNat : Nat) : Int) == 0) = false) (h : 0 ∉ s.data.toList.take k) : 0 ∉ s.data.toList.take (k + 1) := by
  rw [take_byte s k hk]
  have e2 : s[k] ≠ 0 := byte_not (n := 0) (by decide) h2
  simp only [List.mem_append, List.mem_singleton, not_or]
  exact ⟨h, fun e => e2 e.symm⟩

end Go.Proofs.YtmlkknbndglgaaaGreatDoor
