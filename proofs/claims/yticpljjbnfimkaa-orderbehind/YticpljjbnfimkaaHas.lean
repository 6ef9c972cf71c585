/- Is a text in a list? -/
import Derived.Test.YticpljjbnfimkaaJ3
namespace Go.Proofs.Yticpljjbnfimkaa
open Go.RowKit

/-- Is a text in a list? -/
def hasB (l : List ByteArray) (x : ByteArray) : Bool := l.any fun y => decide (y = x)
theorem has_iff {l : List ByteArray} {x : ByteArray} : hasB l x = true ↔ x ∈ l := by
  unfold hasB
  rw [List.any_eq_true]
  constructor
  · rintro ⟨y, hy, e⟩
    rw [← of_decide_eq_true e]; exact hy
  · intro h; exact ⟨x, h, decide_eq_true rfl⟩
end Go.Proofs.Yticpljjbnfimkaa
