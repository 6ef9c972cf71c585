/- The walk of the document's Lay, where there is a header. -/
import Derived.Test.YtpdbpeooebbpnaaDoorHG
namespace Go.Proofs.YtpdbpeooebbpnaaDoor
open Go.RowKit Hog

end Go.Proofs.YtpdbpeooebbpnaaDoor
