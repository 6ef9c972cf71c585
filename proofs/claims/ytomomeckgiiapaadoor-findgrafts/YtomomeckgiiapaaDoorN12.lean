/- The walk of tree.Filter, whatever it asks. -/
import Derived.Test.YtomomeckgiiapaaDoorN11
namespace Go.Proofs.YtomomeckgiiapaaDoor
open Go.RowKit

theorem grown_refl (w : World) (row : Option Nat) : w.grownBy w row := ⟨rfl, rfl, rfl, Nat.le_refl _, fun _ _ _ => rfl⟩
theorem grown_trans {a b c : World} {row : Option Nat} (h : a.grownBy b row) (k : b.grownBy c row) : a.grownBy c row :=
  ⟨k.os.trans h.os, k.tape.trans h.tape, k.output.trans h.output, Nat.le_trans h.size k.size, fun i hi hr => (k.block i (Nat.lt_of_lt_of_le hi h.size) hr).trans (h.block i hi hr)⟩
theorem grown_below {a b c : World} {row : Option Nat} (h : a.grownBy b row) (k : Below a.heap.size b c) : a.grownBy c row :=
  ⟨k.os.trans h.os, k.tape.trans h.tape, k.output.trans h.output, Nat.le_trans h.size k.size, fun i hi hr => (k.block i hi).trans (h.block i hi hr)⟩
theorem below_grown {w w' : World} {row : Option Nat} {B : Nat} (h : w.grownBy w' row) (hB : B ≤ w.heap.size) (hr : ∀ k, row = some k → B ≤ k) : Below B w w' := (Below.refl _ _).grown h hB hr
theorem At.grown {w w' : World} {b o : Nat} {n : Nd} {row : Option Nat} (h : At w b o n) (hg : w.grownBy w' row) (hr : some b ≠ row) : At w' b o n :=
  ⟨hg.cell h.path hr, hg.cell h.kind hr, hg.cell h.data hr⟩
theorem Run.grown {w w' : World} {b o : Nat} {ns : List Nd} {row : Option Nat} (h : Run w b o ns) (hg : w.grownBy w' row) (hr : some b ≠ row) : Run w' b o ns :=
  ⟨Nat.lt_of_lt_of_le h.1 hg.size, fun j n hn => (h.2 j n hn).grown hg hr⟩
theorem OwnN.grown {base : Nat} {w w' : World} {v : Value} {ns : List Nd} {row : Option Nat} (h : OwnN base w v ns) (hg : w.grownBy w' row) (hr : ∀ g, row = some g → g < base) : OwnN base w' v ns := by
  refine World.ownsRow.kept h hg ?_
  cases hv : v.ownBlock with
  | none => exact .inl rfl
  | some k =>
    refine .inr fun e => ?_
    have h1 := (h.lt k hv).1
    have h2 := hr k e.symm
    omega
theorem filter_step {t : List Nd} {k : Nat} {n : Nd} {p : Nd → Bool} (hn : t[k]? = some n) : (t.take (k + 1)).filter p = (t.take k).filter p ++ if p n = true then [n] else [] := by
  obtain ⟨hk, rfl⟩ := List.getElem?_eq_some_iff.1 hn
  rw [List.take_succ_eq_append_getElem hk, List.filter_append, List.filter_cons, List.filter_nil]
theorem filter_len (t : List Nd) (k : Nat) (p : Nd → Bool) : ((t.take k).filter p).length ≤ k := Nat.le_trans (List.length_filter_le _ _) (List.length_take_le _ _)

end Go.Proofs.YtomomeckgiiapaaDoor
