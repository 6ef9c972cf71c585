/- One text appended onto texts of one's own, each answer under a name of its own. -/
import Derived.Test.YtmlkknbndglgaaaGreatDoorJ14
namespace Go.Proofs.YtmlkknbndglgaaaGreatDoor
open Go.RowKit

theorem wpList_append_one {w : World} {ops : Array Oper} {rest : List Oper} {o : Oper} {a : Act} {Q : Exit → Act → World → Prop} (hgd : o.guard = none) (s x : Operand)
    (ho : o.op = .call { callee := .builtin .append, args := #[s, x], argTypes := #[23, 23] })
    (base : Nat) (v : Value) (xs : List ByteArray) (hs : a.eval s = v) (hown : Own base w v xs) (ad : Addr) (y : ByteArray) (hx : a.eval x = .slice (some ad) 1 1) (hu : Arg w (some ad) 1 1 [y])
    (q : Nat) (hq : xs.length = q) (zs : List ByteArray) (hz : xs ++ [y] = zs) (hlen : q < 999999) (hbase : base ≤ w.heap.size)
    (h : ∀ b c w', Own base w' (.slice b (q + 1) c) zs → w.grownBy w' v.ownBlock → wpList Tryz.prog ops Q rest (a.put o.dst (.slice b (q + 1) c)) w') : wpList Tryz.prog ops Q (o :: rest) a w := by
  subst hz
  refine wpList_append_whereT hgd s x ho base v xs hs hown ad 1 1 [y] hx hu (by simp; omega) hbase ?_
  intro b c w' h1 h2 _
  rw [hq] at h1 ⊢
  exact h b c w' h1 h2

end Go.Proofs.YtmlkknbndglgaaaGreatDoor
