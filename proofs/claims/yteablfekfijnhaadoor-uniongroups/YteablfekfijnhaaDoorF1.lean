/- Rows of nodes of find's own type; the walks of find.placed and find.plain. -/
import Derived.Test.YteablfekfijnhaaDoorJ6
namespace Go.Proofs.YteablfekfijnhaaDoor
open Go.RowKit

/-- The slice v holds the nodes ns in a row of its own whose elements are of type ty. -/
def OwnT (ty : TypeId) (base : Nat) (w : World) (v : Value) (ns : List Nd) : Prop := w.ownsRow base ty 3 v ns.length (flat ns)
theorem OwnT.below {ty : TypeId} {base : Nat} {w w' : World} {v : Value} {ns : List Nd} (h : OwnT ty base w v ns) (hb : Below w.heap.size w w') : OwnT ty base w' v ns := by
  refine ⟨h.1, ?_⟩
  rcases h.2 with h2 | ⟨g, cap, cur, rfl, hbs, hg, r⟩
  · exact .inl h2
  · exact .inr ⟨g, cap, cur, rfl, hbs, by rw [hb.block g (Array.getElem?_eq_some_iff.1 hg).1]; exact hg, r⟩
theorem OwnT.base {ty : TypeId} {base base' : Nat} {w : World} {v : Value} {ns : List Nd} (h : OwnT ty base w v ns) (hb : base' ≤ base) : OwnT ty base' w v ns := by
  refine ⟨h.1, ?_⟩
  rcases h.2 with h2 | ⟨g, cap, cur, e, hbs, r⟩
  · exact .inl h2
  · exact .inr ⟨g, cap, cur, e, Nat.le_trans hb hbs, r⟩
theorem OwnT.alloc {ty : TypeId} {base : Nat} {w : World} {v : Value} {ns : List Nd} (h : OwnT ty base w v ns) (o : Obj) : OwnT ty base (w.alloc o) v ns :=
  h.below ((Below.refl _ _).alloc (Nat.le_refl _) _)
theorem OwnT.form {ty : TypeId} {base : Nat} {w : World} {v : Value} {ns : List Nd} (h : OwnT ty base w v ns) : ∃ a c, v = .slice a ns.length c := by
  obtain ⟨_, h2⟩ := h
  rcases h2 with ⟨rfl, h0⟩ | ⟨g, cap, cur, rfl, _⟩
  · exact ⟨none, 0, by rw [h0]⟩
  · exact ⟨_, _, rfl⟩
theorem OwnT.nods {ty : TypeId} {base : Nat} {w : World} {v : Value} {ns : List Nd} (h : OwnT ty base w v ns) : Nods w v ns := by
  have h' := h
  obtain ⟨_, h2⟩ := h
  rcases h2 with ⟨rfl, h0⟩ | ⟨g, cap, cur, rfl, hb, hg, hn, hm, hs, ht⟩
  · exact .inl ⟨List.eq_nil_of_length_eq_zero h0, _, _, rfl⟩
  · refine .inr ⟨g, 0, cap, rfl, hn, (Array.getElem?_eq_some_iff.1 hg).1, fun j n hj => ?_⟩
    have hjl := (List.getElem?_eq_some_iff.1 hj).1
    obtain ⟨e1, e2, e3⟩ := flat_get hj
    have c := fun i (hi : j * 3 + i < ns.length * 3) => World.ownsRow.cellAt h' (j * 3 + i) hi
    have c0 := c 0 (by omega); have c1 := c 1 (by omega); have c2 := c 2 (by omega)
    rw [Nat.zero_add]
    exact ⟨c0.trans e1, c1.trans e2, c2.trans e3⟩
theorem OwnT.joined {ty : TypeId} {base : Nat} {w : World} {v : Value} {n : Nat} {a b : List Nd} (h : w.ownsRow base ty 3 v n (flat a ++ flat b)) : OwnT ty base w v (a ++ b) := by
  have hn : n = (a ++ b).length := by have := h.1; simp [flat_len] at this; simp; omega
  subst hn
  rw [← flat_app] at h
  exact h
theorem OwnT.grownBelow {ty : TypeId} {base : Nat} {w w' : World} {v : Value} {ns : List Nd} (h : OwnT ty base w v ns) (hg : w.grownBy w' v.ownBlock) (hB : base ≤ w.heap.size) : Below base w w' :=
  (Below.refl base w).grown hg hB (fun k hk => (h.lt k hk).1)
theorem Run.oneT (ty : TypeId) (w : World) (n : Nd) : Run (w.alloc (.cells #[.string n.1, .int .i64 n.2.1, .string n.2.2] ty)) w.heap.size 0 [n] := by
  refine ⟨by simp, fun j m hm => ?_⟩
  match j, hm with
  | 0, hm => simp at hm; subst hm; exact ⟨by simp, by simp, by simp⟩
  | j + 1, hm => simp at hm
theorem A54 : (Tryd.prog.info? 53).map (fun i => (i.zero, i.size, i.bytes)) = some (some (.agg #[.string ByteArray.empty, .int .i64 0, .string ByteArray.empty]), 3, 40) := by kernel_rfl

/-- An append of nodes onto a row of one's own of either type. -/
theorem wpList_append_typed {ty sl : TypeId} (hi0 : (Tryd.prog.info? ty).map (fun i => (i.zero, i.size, i.bytes)) = some (some (.agg #[.string ByteArray.empty, .int .i64 0, .string ByteArray.empty]), 3, 40)) (hu0 : Tryd.prog.underlying sl = some (.slice ty))
    {w : World} {ops : Array Oper} {rest : List Oper} {o : Oper} {a : Act} {Q : Exit → Act → World → Prop} (hgd : o.guard = none) (s x : Operand)
    (ho : o.op = .call { callee := .builtin .append, args := #[s, x], argTypes := #[sl, sl] })
    (base : Nat) (v : Value) (xs : List Nd) (hs : a.eval s = v) (hown : OwnT ty base w v xs) (ad : Addr) (m c : Nat) (ys : List Nd) (hx : a.eval x = .slice (some ad) m c) (hu : ArgN w (some ad) m c ys)
    (hlen : xs.length + ys.length < 1000000) (hbase : base ≤ w.heap.size)
    (h : ∀ b c w', OwnT ty base w' (.slice b (xs.length + ys.length) c) (xs ++ ys) → Below base w w' → wpList Tryd.prog ops Q rest (a.put o.dst (.slice b (xs.length + ys.length) c)) w') : wpList Tryd.prog ops Q (o :: rest) a w := by
  obtain ⟨i0, hi, hz0, hz1, hz2⟩ := info_parts hi0
  obtain rfl := hu.len
  refine wpList_append_own w hgd s x sl ho base ty i0 (.agg #[.string ByteArray.empty, .int .i64 0, .string ByteArray.empty]) 3 40 hu0 hi hz0 hz1 hz2 rfl (by decide) v xs.length (flat xs) hs hown ad ys.length c (flat ys) hx (flat_len ys) (hu.cell ad rfl) (flat_one ys) (by unfold maxLen; omega) (by omega) hbase ?_
  intro v' w' h1 h2 _
  have h3 : OwnT ty base w' v' (xs ++ ys) := OwnT.joined h1
  obtain ⟨b, c, e⟩ := h3.form
  rw [List.length_append] at e
  subst e
  exact h b c w' h3 (OwnT.grownBelow hown h2 hbase)
theorem takeN_step {t : List Nd} {k : Nat} {n : Nd} (hn : t[k]? = some n) : t.take (k + 1) = t.take k ++ [n] := by
  obtain ⟨hk, rfl⟩ := List.getElem?_eq_some_iff.1 hn
  exact List.take_succ_eq_append_getElem hk
set_option maxRecDepth 100000 in
set_option maxHeartbeats 1000000 in
theorem placed_some (b o c : Nat) (t : List Nd) (w : World) (hr : Run w b o t) (hl : t.length < 900000) :
    Calls Tryd.prog 26 #[.slice (some ⟨b, o, none⟩) t.length c] w fun e w' => ∃ v, e = .returned v ∧ OwnT 53 w.heap.size w' v t ∧ Below w.heap.size w w' := by
  obtain ⟨m, hmt⟩ : ∃ m, m = t.length := ⟨_, rfl⟩
  have HMT := hide hmt
  have HR := hide hr
  rw [← hmt] at hl ⊢
  clear hmt hr
  obtain ⟨i0, hi, hz0, hz1, hz2⟩ := info_parts A54
  go_enter Tryd.func26, Tryd.ntmps26
  go_wp2_with (at_make; refine wpList_make_own w rfl _ _ 49 rfl w.heap.size 53 i0 (.agg #[.string ByteArray.empty, .int .i64 0, .string ByteArray.empty]) 3 Tryd.underlying49 hi hz0 hz1 .i64 .i64 _ m rfl rfl ?c1 ?c2 ?c3 (Nat.le_refl _) ?_)
  case c1 => simp
  case c2 => rw [hz2]; omega
  case c3 => unfold maxLen; omega
  intro w1 hown1 hgrow1
  have hb1 : Below w.heap.size w w1 := (Below.refl _ w).grown hgrow1 (Nat.le_refl _) (fun k hk => by cases hk)
  have HO1 : Hid (OwnT 53 w.heap.size w1 (.slice (some ⟨w.heap.size, 0, none⟩) 0 m) []) := hown1
  clear hown1 hgrow1
  go_wp2
  go_loopw [3, 5, 11] (fun s _ i wr => ∃ k : Nat, k ≤ m ∧ i = .int .i64 k ∧ Hid (OwnT 53 w.heap.size wr s (t.take k)) ∧ Below w.heap.size w wr) (fun _ _ i _ => m - (intOf i).toNat)
  case atStart => exact ⟨0, Nat.zero_le _, rfl, by rw [List.take_zero]; exact HO1, hb1⟩
  case round =>
    obtain ⟨k, hk, rfl, HO, hbl⟩ := hrel
    by_cases hlt : k < m
    · obtain ⟨n, hn⟩ : ∃ n, t[k]? = some n := ⟨t[k]'(by have := HMT.out; omega), List.getElem?_eq_some_iff.2 ⟨_, rfl⟩⟩
      obtain ⟨g1, g2, g3⟩ := (HR.out.2 k n hn).below hbl HR.out.1
      have HN := hide hn
      clear hn
      have hsz := hbl.size
      have HO2 := hide ((HO.out.alloc (.cells #[.string n.1, .int .i64 n.2.1, .string n.2.2] 37)).alloc (.cells #[.string n.1, .int .i64 n.2.1, .string n.2.2] 53))
      have HRN : Hid (ArgN ((wr.alloc (.cells #[.string n.1, .int .i64 n.2.1, .string n.2.2] 37)).alloc (.cells #[.string n.1, .int .i64 n.2.1, .string n.2.2] 53)) (some ⟨wr.heap.size + 1, 0, none⟩) 1 1 [n]) := by
        have h := (Run.oneT 53 (wr.alloc (.cells #[.string n.1, .int .i64 n.2.1, .string n.2.2] 37)) n).arg (c := 1) (by simp)
        rw [show (wr.alloc (.cells #[.string n.1, .int .i64 n.2.1, .string n.2.2] 37)).heap.size = wr.heap.size + 1 by simp] at h
        exact h
      have htl : (t.take k).length = k := by have := HMT.out; rw [List.length_take]; omega
      have HTL := hide htl
      clear htl
      go_wp2_with (at_builtin; refine wpList_append_typed A54 Tryd.underlying49 rfl _ _ rfl w.heap.size _ (t.take k) rfl HO2.out _ _ _ [n] rfl HRN.out (by have := HTL.out; simp; omega) (by simp; omega) ?_)
      intro b4 c4 w4 ho4 hb4
      have hb4' : Below w.heap.size w w4 := ((hbl.alloc hsz _).alloc (by simp; omega) _).trans hb4
      have HO4 : Hid (OwnT 53 w.heap.size w4 (.slice b4 (min k t.length + 1) c4) (t.take (k + 1))) := by
        show OwnT _ _ _ _ _
        rw [takeN_step HN.out]
        exact ho4
      clear ho4 hb4
      go_wp2
      go_roundw
      case rel => exact ⟨k + 1, by omega, by go_num, HO4, hb4'⟩
      case measure => simp [intOf]; omega
    · go_wp2
      go_ret
      have e : k = t.length := by have := HMT.out; omega
      have h1 := HO.out
      rw [e, List.take_length] at h1
      exact ⟨_, rfl, h1, hbl⟩
set_option maxHeartbeats 1000000 in
theorem placed_none (a : Option Addr) (c : Nat) (w : World) :
    Calls Tryd.prog 26 #[.slice a 0 c] w fun e w' => ∃ v, e = .returned v ∧ OwnT 53 w.heap.size w' v [] ∧ Below w.heap.size w w' := by
  obtain ⟨i0, hi, hz0, hz1, hz2⟩ := info_parts A54
  go_enter Tryd.func26, Tryd.ntmps26
  go_wp2_with (at_make; refine wpList_make_own w rfl _ _ 49 rfl w.heap.size 53 i0 (.agg #[.string ByteArray.empty, .int .i64 0, .string ByteArray.empty]) 3 Tryd.underlying49 hi hz0 hz1 .i64 .i64 _ 0 rfl rfl ?c1 ?c2 ?c3 (Nat.le_refl _) ?_)
  case c1 => simp
  case c2 => rw [hz2]; omega
  case c3 => unfold maxLen; omega
  intro w1 hown1 hgrow1
  have hb1 : Below w.heap.size w w1 := (Below.refl _ w).grown hgrow1 (Nat.le_refl _) (fun k hk => by cases hk)
  have HO1 : Hid (OwnT 53 w.heap.size w1 (.slice (some ⟨w.heap.size, 0, none⟩) 0 0) []) := hown1
  clear hown1 hgrow1
  go_wp2
  go_loopw [3, 5, 11] (fun s _ i wr => s = .slice (some ⟨w.heap.size, 0, none⟩) 0 0 ∧ i = .int .i64 0 ∧ wr = w1) (fun _ _ _ _ => 0)
  case atStart => exact ⟨rfl, rfl, rfl⟩
  case round =>
    obtain ⟨rfl, rfl, rfl⟩ := hrel
    go_wp2
    go_ret
    exact ⟨_, rfl, HO1.out, hb1⟩
theorem placed_any (v : Value) (t : List Nd) (w : World) (h : Nods w v t) (hl : t.length < 900000) :
    Calls Tryd.prog 26 #[v] w fun e w' => ∃ v, e = .returned v ∧ OwnT 53 w.heap.size w' v t ∧ Below w.heap.size w w' := by
  rcases h with ⟨rfl, a, c, rfl⟩ | ⟨b, o, c, rfl, hc, hr⟩
  · exact placed_none a c w
  · exact placed_some b o c t w hr hl
end Go.Proofs.YteablfekfijnhaaDoor
