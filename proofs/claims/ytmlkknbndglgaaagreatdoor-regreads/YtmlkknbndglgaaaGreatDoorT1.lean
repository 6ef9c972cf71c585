/- The walks of tree.Same, and of the document's own Same and Size. -/
import Derived.Test.YtmlkknbndglgaaaGreatDoorJ3
import Derived.Test.YtmlkknbndglgaaaGreatDoorJ2
namespace Go.Proofs.YtmlkknbndglgaaaGreatDoor
open Go.RowKit

end Go.Proofs.YtmlkknbndglgaaaGreatDoor
