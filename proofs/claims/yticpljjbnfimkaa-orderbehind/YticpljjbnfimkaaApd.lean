/- An append of texts onto texts of one's own, as a law for a walk. -/
import Derived.Test.YticpljjbnfimkaaK8
import Derived.Laws.AppendOwnNone
namespace Go.Proofs.Yticpljjbnfimkaa
open Go.RowKit

theorem wpList_append_texts {w : World} {ops : Array Oper} {rest : List Oper} {o : Oper} {a : Act} {Q : Exit → Act → World → Prop} (hgd : o.guard = none) (s x : Operand)
    (ho : o.op = .call { callee := .builtin .append, args := #[s, x], argTypes := #[25, 25] })
    (base base' : Nat) (v u : Value) (xs ys : List ByteArray) (hs : a.eval s = v) (hown : Own base w v xs) (hx : a.eval x = u) (hu : Own base' w u ys)
    (hlen : xs.length + ys.length < 1000000) (hbase : base ≤ w.heap.size)
    (h : ∀ b c w', Own base w' (.slice b (xs.length + ys.length) c) (xs ++ ys) → Below base w w' → wpList Try.prog ops Q rest (a.put o.dst (.slice b (xs.length + ys.length) c)) w') : wpList Try.prog ops Q (o :: rest) a w := by
  obtain ⟨i0, hi, hz0, hz1, hz2⟩ := info_parts A9
  have hu0 := hu
  obtain ⟨_, hu2⟩ := hu
  rcases hu2 with ⟨rfl, h0⟩ | ⟨g, cap, cur, rfl, hb, hg, hn, hm, hsz, ht⟩
  · have hy : ys = [] := List.eq_nil_of_length_eq_zero h0
    subst hy
    obtain ⟨b, c, e⟩ := hown.form
    subst e
    refine wpList_append_own_none hgd s x 25 ho base 9 i0 1 Try.underlying25 hi _ _ _ hs hown hx ?_
    exact h b c w (by simpa using hown) (Below.refl _ _)
  · refine wpList_append_own w hgd s x 25 ho base 9 i0 (.string ByteArray.empty) 1 16 Try.underlying25 hi hz0 hz1 hz2 rfl (by decide) v xs.length (xs.map Value.string) hs hown ⟨g, 0, none⟩ ys.length cap (ys.map Value.string) hx (by simp) ?_ ?_ (by unfold maxLen; omega) (by omega) hbase ?_
    · exact hu0.cells (g := g) rfl
    · intro z hz
      obtain ⟨y, _, rfl⟩ := List.mem_map.1 hz
      rfl
    · intro v' w' h1 h2 _
      have h3 : Own base w' v' (xs ++ ys) := Own.joined h1
      obtain ⟨b, c, e⟩ := h3.form
      rw [List.length_append] at e
      subst e
      exact h b c w' h3 (Own.grownBelow hown h2 hbase)

end Go.Proofs.Yticpljjbnfimkaa
