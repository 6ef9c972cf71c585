/- The walk of the document's Lay. -/
import Derived.Test.YtpdbpeooebbpnaaDoorHF
namespace Go.Proofs.YtpdbpeooebbpnaaDoor
open Go.RowKit Hog

end Go.Proofs.YtpdbpeooebbpnaaDoor
