/- The walks of small functions over nodes: Size, GreatNodes. -/
import Derived.Test.YticpljjbnfimkaaNod
import Derived.Deep.QuietTactic
import Derived.BigQuiet
namespace Go.Proofs.Yticpljjbnfimkaa
open Go.RowKit

def sizeN (ns : List Nd) : Nat := (ns.map fun n => n.2.2.size).sum
theorem sizeN_app (a b : List Nd) : sizeN (a ++ b) = sizeN a + sizeN b := by simp [sizeN]
theorem sizeN_step {ns : List Nd} {k : Nat} {n : Nd} (h : ns[k]? = some n) : sizeN (ns.take (k + 1)) = sizeN (ns.take k) + n.2.2.size := by
  obtain ⟨hk, rfl⟩ := List.getElem?_eq_some_iff.1 h
  rw [List.take_succ_eq_append_getElem hk, sizeN_app]; simp [sizeN]
theorem sizeN_le (ns : List Nd) (m : Nat) (h : ∀ n ∈ ns, n.2.2.size ≤ m) : sizeN ns ≤ ns.length * m := by
  induction ns with
  | nil => simp [sizeN]
  | cons n r ih =>
    have h1 := ih (fun x hx => h x (by simp [hx]))
    have h2 := h n (by simp)
    simp [sizeN] at h1 ⊢
    rw [Nat.add_mul]; omega

theorem ret_int {a b : Int} (h : a = b) : Ending.returned (.int .i64 a) = .returned (.int .i64 b) := by rw [h]

end Go.Proofs.Yticpljjbnfimkaa
