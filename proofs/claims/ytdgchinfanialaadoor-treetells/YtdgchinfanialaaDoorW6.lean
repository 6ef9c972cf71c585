/- The walk of the statements' own SameTexts. -/
import Derived.Test.YtdgchinfanialaaDoorW5
import Derived.Deep.QuietTactic
import Derived.BigQuiet
namespace Go.Proofs.YtdgchinfanialaaDoor
open Go.RowKit

theorem take_same {xs ys : List ByteArray} {k : Nat} {x y : ByteArray} (h : xs.take k = ys.take k) (hx : xs[k]? = some x) (hy : ys[k]? = some y) (e : x = y) : xs.take (k + 1) = ys.take (k + 1) := by
  subst e
  obtain ⟨h1, rfl⟩ := List.getElem?_eq_some_iff.1 hx
  obtain ⟨h2, e2⟩ := List.getElem?_eq_some_iff.1 hy
  rw [List.take_succ_eq_append_getElem h1, List.take_succ_eq_append_getElem h2, h, e2]

end Go.Proofs.YtdgchinfanialaaDoor
