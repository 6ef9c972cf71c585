/- The walks of tree.Same, and of the document's own Same and Size. -/
import Derived.Test.YtinjbijigjfdfaaDoorJ3
import Derived.Test.YtinjbijigjfdfaaDoorJ2
namespace Go.Proofs.YtinjbijigjfdfaaDoor
open Go.RowKit

end Go.Proofs.YtinjbijigjfdfaaDoor
