/- The walk of item's Own. -/
import Derived.Test.YticpljjbnfimkaaX7
import Derived.Test.YticpljjbnfimkaaX0
import Derived.Deep.RegionHeld
import Derived.RegionTactic
namespace Go.Proofs.Yticpljjbnfimkaa
open Go.RowKit

theorem Own.far {base g : Nat} {w w' : World} {v : Value} {xs : List ByteArray} (h : Own base w v xs) (hg : w.grownBy w' (some g)) (hlt : g < base) : Own base w' v xs :=
  World.ownsRow.kept h hg (.inr fun e => by have := (h.lt g e).1; omega)
theorem OwnN.far {base g : Nat} {w w' : World} {v : Value} {ns : List Nd} (h : OwnN base w v ns) (hg : w.grownBy w' (some g)) (hlt : g < base) : OwnN base w' v ns :=
  World.ownsRow.kept h hg (.inr fun e => by have := (h.lt g e).1; omega)
theorem struct_item : Try.prog.underlying 33 = some (.struct (Try.prog.fieldsOf 33)) := by kernel_rfl
theorem size_of_item : (Try.prog.info? 33).map (·.size) = some 3 := by kernel_rfl

end Go.Proofs.Yticpljjbnfimkaa
