/- The walks of tree.Same, and of the document's own Same and Size. -/
import Derived.Test.YtinjbijigjfdfaaGreatDoorJ3
import Derived.Test.YtinjbijigjfdfaaGreatDoorJ2
namespace Go.Proofs.YtinjbijigjfdfaaGreatDoor
open Go.RowKit

end Go.Proofs.YtinjbijigjfdfaaGreatDoor
