/- Texts that stand together, joined: N11. -/
import Derived.Test.YticpljjbnfimkaaK8
import Derived.Laws.AppendOwnNone
/- Nodes that were handed in; an append of nodes onto nodes of one's own, as a law for a walk; slices.Clone. -/
namespace Go.Proofs.Yticpljjbnfimkaa
open Go.RowKit

theorem addrN_plain {w : World} {ad : Addr} {v : Value} (h : w.cell? ad = some v) : ad = ⟨ad.block, ad.off, none⟩ ∧ ad.block < w.heap.size := by
  unfold World.cell? at h
  split at h
  · rename_i c _ _ hb
    split at h
    · cases h
    · rename_i hs
      refine ⟨?_, (Array.getElem?_eq_some_iff.1 hb).1⟩
      obtain ⟨b, o, s⟩ := ad
      simp at hs
      simp [hs]
  · cases h
theorem addN_zero (ad : Addr) : ad.add 0 = ad := by unfold Addr.add; obtain ⟨b, o, s⟩ := ad; cases s <;> rfl
theorem addN_plain (b o j : Nat) : (⟨b, o, none⟩ : Addr).add j = ⟨b, o + j, none⟩ := by unfold Addr.add; split <;> simp_all

/-- A slice of nodes that may be read. -/
structure ArgN (w : World) (ao : Option Addr) (n c : Nat) (ns : List Nd) : Prop where
  len : ns.length = n
  none : ao = none → n = 0 ∧ c = 0
  cap : n ≤ c
  cell : ∀ ad, ao = some ad → ∀ (j : Nat) u, (flat ns)[j]? = some u → w.cell? (ad.add j) = some u

theorem Run.flat {w : World} {b o : Nat} {ns : List Nd} (h : Run w b o ns) (j : Nat) (u : Value) (hu : (flat ns)[j]? = some u) : w.cell? ⟨b, o + j, none⟩ = some u := by
  have hj := (List.getElem?_eq_some_iff.1 hu).1
  rw [flat_len] at hj
  have hq : j / 3 < ns.length := by omega
  have hn : ns[j / 3]? = some ns[j / 3] := List.getElem?_eq_getElem hq
  obtain ⟨e1, e2, e3⟩ := flat_get hn
  obtain ⟨g1, g2, g3⟩ := h.2 _ _ hn
  have hr : j = j / 3 * 3 ∨ j = j / 3 * 3 + 1 ∨ j = j / 3 * 3 + 2 := by omega
  rcases hr with hr | hr | hr
  · rw [hr] at hu ⊢; rw [e1] at hu; rw [← hu]; exact g1
  · rw [hr] at hu ⊢; rw [e2] at hu; rw [← hu]; exact g2
  · rw [hr] at hu ⊢; rw [e3] at hu; rw [← hu]; exact g3
theorem Run.arg {w : World} {b o c : Nat} {ns : List Nd} (h : Run w b o ns) (hc : ns.length ≤ c) : ArgN w (some ⟨b, o, none⟩) ns.length c ns :=
  ⟨rfl, by simp, hc, fun ad e j u hu => by cases e; rw [addN_plain]; exact h.flat j u hu⟩
theorem ArgN.nods {w : World} {ao : Option Addr} {n c : Nat} {ns : List Nd} (h : ArgN w ao n c ns) : Nods w (.slice ao n c) ns := by
  cases ns with
  | nil => exact .inl ⟨rfl, ao, c, by rw [← h.len]; rfl⟩
  | cons x r =>
    cases ao with
    | none => have h1 := (h.none rfl).1; have h2 := h.len; rw [h1] at h2; simp at h2
    | some ad =>
      have h0 := h.cell ad rfl 0 (.string x.1) rfl
      rw [addN_zero] at h0
      obtain ⟨e, hlt⟩ := addrN_plain h0
      refine .inr ⟨ad.block, ad.off, c, by rw [h.len, ← e], by rw [h.len]; exact h.cap, hlt, fun j y hy => ?_⟩
      obtain ⟨e1, e2, e3⟩ := flat_get hy
      have c1 := h.cell ad rfl _ _ e1
      have c2 := h.cell ad rfl _ _ e2
      have c3 := h.cell ad rfl _ _ e3
      rw [e, addN_plain] at c1 c2 c3
      exact ⟨c1, c2, c3⟩
theorem ArgN.below {w w' : World} {ao : Option Addr} {n c : Nat} {ns : List Nd} (h : ArgN w ao n c ns) (hb : Below w.heap.size w w') : ArgN w' ao n c ns :=
  ⟨h.len, h.none, h.cap, fun ad e j u hu => by
    have h1 := h.cell ad e j u hu
    rw [hb.cell (addrN_plain h1).2]; exact h1⟩
theorem OwnN.arg {base : Nat} {w : World} {v : Value} {ns : List Nd} (h : OwnN base w v ns) : ∃ ao c, v = .slice ao ns.length c ∧ ArgN w ao ns.length c ns := by
  have h' := h
  obtain ⟨_, h2⟩ := h
  rcases h2 with ⟨rfl, h0⟩ | ⟨g, cap, cur, rfl, hb, hg, hn, hm, hs, ht⟩
  · have e := List.eq_nil_of_length_eq_zero h0
    subst e
    exact ⟨none, 0, rfl, rfl, fun _ => ⟨rfl, rfl⟩, by simp, fun ad e => by cases e⟩
  · exact ⟨_, cap, rfl, rfl, by simp, hn, fun ad e j u hu => by cases e; exact h'.cells (g := g) rfl j u hu⟩

theorem wpList_append_nodes {w : World} {ops : Array Oper} {rest : List Oper} {o : Oper} {a : Act} {Q : Exit → Act → World → Prop} (hgd : o.guard = none) (s x : Operand)
    (ho : o.op = .call { callee := .builtin .append, args := #[s, x], argTypes := #[31, 31] })
    (base : Nat) (v : Value) (xs : List Nd) (hs : a.eval s = v) (hown : OwnN base w v xs) (ao : Option Addr) (m c : Nat) (ys : List Nd) (hx : a.eval x = .slice ao m c) (hu : ArgN w ao m c ys)
    (hlen : xs.length + ys.length < 1000000) (hbase : base ≤ w.heap.size)
    (h : ∀ b c w', OwnN base w' (.slice b (xs.length + ys.length) c) (xs ++ ys) → Below base w w' → wpList Try.prog ops Q rest (a.put o.dst (.slice b (xs.length + ys.length) c)) w') : wpList Try.prog ops Q (o :: rest) a w := by
  obtain ⟨i0, hi, hz0, hz1, hz2⟩ := info_parts A24
  cases ao with
  | none =>
    obtain ⟨rfl, rfl⟩ := hu.none rfl
    have hy : ys = [] := List.eq_nil_of_length_eq_zero hu.len
    subst hy
    obtain ⟨b, c, e⟩ := hown.form
    subst e
    refine wpList_append_own_none hgd s x 31 ho base 49 i0 3 Try.underlying31 hi _ _ _ hs hown hx ?_
    exact h b c w (by simpa using hown) (Below.refl _ _)
  | some ad =>
    obtain rfl := hu.len
    refine wpList_append_own w hgd s x 31 ho base 49 i0 (.agg #[.string ByteArray.empty, .int .i64 0, .string ByteArray.empty]) 3 40 Try.underlying31 hi hz0 hz1 hz2 rfl (by decide) v xs.length (flat xs) hs hown ad ys.length c (flat ys) hx (flat_len ys) (hu.cell ad rfl) (flat_one ys) (by unfold maxLen; omega) (by omega) hbase ?_
    intro v' w' h1 h2 _
    have h3 : OwnN base w' v' (xs ++ ys) := OwnN.joined h1
    obtain ⟨b, c, e⟩ := h3.form
    rw [List.length_append] at e
    subst e
    exact h b c w' h3 (OwnN.grownBelow hown h2 hbase)

theorem equalIn_slice_some (d : Nat) (t e : TypeId) (ad : Addr) (n c : Nat) (w : World) (ht : Try.prog.underlying t = some (.slice e)) : (Op.equalIn (d + 1) t (.slice (some ad) n c) (.slice none 0 0)).run Try.prog w = .ok false w := by
  simp [Op.equalIn, run_underlying ht]
theorem equalIn_slice_none (d : Nat) (t e : TypeId) (n c : Nat) (w : World) (ht : Try.prog.underlying t = some (.slice e)) : (Op.equalIn (d + 1) t (.slice none n c) (.slice none 0 0)).run Try.prog w = .ok true w := by
  simp [Op.equalIn, run_underlying ht]
theorem eql_slice_some (t e : TypeId) (ad : Addr) (n c : Nat) (w : World) (ht : Try.prog.underlying t = some (.slice e)) : (binOp .eql t (.slice (some ad) n c) (.slice none 0 0)).run Try.prog w = .ok (.bool false) w := by
  simp only [binOp]
  simp [Op.equal, Op.maxDepth, equalIn_slice_some 9999 t e ad n c w ht]
theorem eql_slice_none (t e : TypeId) (n c : Nat) (w : World) (ht : Try.prog.underlying t = some (.slice e)) : (binOp .eql t (.slice none n c) (.slice none 0 0)).run Try.prog w = .ok (.bool true) w := by
  simp only [binOp]
  simp [Op.equal, Op.maxDepth, equalIn_slice_none 9999 t e n c w ht]

end Go.Proofs.Yticpljjbnfimkaa
