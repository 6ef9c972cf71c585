/- Items, plainly (at a seat without paths). -/
import Derived.Test.YticpljjbnfimkaaX7
import Derived.Test.YticpljjbnfimkaaNod
namespace Go.Proofs.Yticpljjbnfimkaa
open Go.RowKit

/-- An item: its name, its references, its tree. -/
abbrev It := ByteArray × List ByteArray × List Nd
/-- Neither its name, nor its references, nor its paths are too long to be gone through. -/
structure Fair (i : It) : Prop where
  name : i.1.size < 900000
  refs : i.2.1.length < 900000
  ref : ∀ x ∈ i.2.1, x.size < 900000
  tree : i.2.2.length < 900000
  path : ∀ n ∈ i.2.2, n.1.size < 900000 ∧ n.2.2.size < 900000
end Go.Proofs.Yticpljjbnfimkaa
