/- The walks of package tar's count, each over a counter, Lay, Entries. -/
import Derived.Test.YtecjkkipglldlaaGreatDoorTF
import Derived.Test.YtecjkkipglldlaaGreatDoorJ4
namespace Go.Proofs.YtecjkkipglldlaaGreatDoor
open Go.RowKit

theorem grown_of {w w' : World} {r : Option Nat} (h : Below w.heap.size w w') : w.grownBy w' r := ⟨h.os, h.tape, h.output, h.size, fun k hk _ => h.block k hk⟩
theorem grownC_below {w w' : World} {g B : Nat} (h : w.grownBy w' (some g)) (hg : B ≤ g) (hB : B ≤ w.heap.size) : Below B w w' := ⟨h.os, h.tape, h.output, h.size, fun k hk => h.block k (by omega) (fun e => by cases e; omega)⟩
theorem grown_cell {w w' : World} {g : Nat} (h : w.grownBy w' (some g)) {a : Addr} {x : Value} (hc : w.cell? a = some x) (hg : a.block ≠ g) : w'.cell? a = some x :=
  h.cell hc (fun e => hg (Option.some.inj e))

end Go.Proofs.YtecjkkipglldlaaGreatDoor
