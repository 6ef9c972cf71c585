/- What FindTells wants besides: OverTexts told by its own block; nodes held alike; both sides' List, Sub and Graft of whatever is handed in. -/
import Derived.Test.YtomomeckgiiapaaDoorU2
import Derived.Test.YtomomeckgiiapaaDoorU3
import Derived.Test.YtomomeckgiiapaaDoorJ5
namespace Go.Proofs.YtomomeckgiiapaaDoor
open Go.RowKit

theorem wpList_append_textsG {w : World} {ops : Array Oper} {rest : List Oper} {o : Oper} {a : Act} {Q : Exit → Act → World → Prop} (hgd : o.guard = none) (s x : Operand)
    (ho : o.op = .call { callee := .builtin .append, args := #[s, x], argTypes := #[30, 30] })
    (base base' : Nat) (v u : Value) (xs ys : List ByteArray) (hs : a.eval s = v) (hown : Own base w v xs) (hx : a.eval x = u) (hu : Own base' w u ys)
    (hlen : xs.length + ys.length < 1000000) (hbase : base ≤ w.heap.size)
    (h : ∀ b c w', Own base w' (.slice b (xs.length + ys.length) c) (xs ++ ys) → w.grownBy w' v.ownBlock → wpList Tryd.prog ops Q rest (a.put o.dst (.slice b (xs.length + ys.length) c)) w') : wpList Tryd.prog ops Q (o :: rest) a w := by
  obtain ⟨i0, hi, hz0, hz1, hz2⟩ := info_parts A9
  have hu0 := hu
  obtain ⟨_, hu2⟩ := hu
  rcases hu2 with ⟨rfl, h0⟩ | ⟨g, cap, cur, rfl, hb, hg, hn, hm, hsz, ht⟩
  · have hy : ys = [] := List.eq_nil_of_length_eq_zero h0
    subst hy
    obtain ⟨b, c, e⟩ := hown.form
    subst e
    refine wpList_append_own_none hgd s x 30 ho base 9 i0 1 Tryd.underlying30 hi _ _ _ hs hown hx ?_
    exact h b c w (by simpa using hown) (grown_refl _ _)
  · refine wpList_append_own w hgd s x 30 ho base 9 i0 (.string ByteArray.empty) 1 16 Tryd.underlying30 hi hz0 hz1 hz2 rfl (by decide) v xs.length (xs.map Value.string) hs hown ⟨g, 0, none⟩ ys.length cap (ys.map Value.string) hx (by simp) ?_ ?_ (by unfold maxLen; omega) (by omega) hbase ?_
    · exact hu0.cells (g := g) rfl
    · intro z hz
      obtain ⟨y, _, rfl⟩ := List.mem_map.1 hz
      rfl
    · intro v' w' h1 h2 _
      have h3 : Own base w' v' (xs ++ ys) := Own.joined h1
      obtain ⟨b, c, e⟩ := h3.form
      rw [List.length_append] at e
      subst e
      exact h b c w' h3 h2

set_option maxRecDepth 100000 in
set_option maxHeartbeats 800000 in
theorem overG_none (w : World) :
    Calls Tryd.prog 20 #[.slice none 0 0] w fun e w' => e = .returned (.tuple #[]) ∧ w.grownBy w' none := by
  go_enter Tryd.func20, Tryd.ntmps20
  go_wp2
  go_loop [2] (fun i => i = .int .i64 0) (fun _ => 0)
  case atStart => rfl
  case round =>
    subst hrel
    go_wp2_with (at_builtin; refine wpList_append_textsG rfl _ _ rfl 0 w.heap.size _ _ [] [⟨#[111, 118, 101, 114]⟩] rfl (Own.nil _ _) rfl (Own.one w _) (by simp) (by simp) ?_)
    intro b c w1 _ hb1
    go_wp2
    go_end0
    exact ⟨rfl, grown_trans (grown_box _ _ _) hb1⟩
set_option maxRecDepth 100000 in
set_option maxHeartbeats 800000 in
theorem overG_some (base g cap : Nat) (xs : List ByteArray) (w : World) (hb : base ≤ w.heap.size) (h : Own base w (.slice (some ⟨g, 0, none⟩) xs.length cap) xs) (hl : xs.length < 900000) :
    Calls Tryd.prog 20 #[.slice (some ⟨g, 0, none⟩) xs.length cap] w fun e w' => e = .returned (.tuple #[]) ∧ w.grownBy w' (some g) := by
  obtain ⟨n, hn⟩ : ∃ n, n = xs.length := ⟨_, rfl⟩
  have HO := hide h
  have HN := hide hn
  rw [← hn] at hl ⊢
  clear h hn
  go_enter Tryd.func20, Tryd.ntmps20
  go_wp2
  go_loopw [2] (fun i wr => ∃ k : Nat, k ≤ n ∧ i = .int .i64 k ∧ Hid (∃ ys : List ByteArray, ys.length = n ∧ Own base wr (.slice (some ⟨g, 0, none⟩) ys.length cap) ys) ∧ Hid (w.grownBy wr (some g))) (fun i _ => n - (intOf i).toNat)
  case atStart => exact ⟨0, Nat.zero_le _, rfl, ⟨xs, HN.out.symm, HO.out⟩, grown_refl _ _⟩
  case round =>
    obtain ⟨k, hk, rfl, hys, hbl⟩ := hrel
    obtain ⟨ys, hyn, hown⟩ := hys.out
    have HO2 := hide hown
    have HY := hide hyn
    clear hys hown hyn
    have hbs := hbl.out.size
    by_cases hlt : k < n
    · have hf : wr.frozen? ⟨g, k, none⟩ = false := World.ownsRow.frozenAt HO2.out k
      obtain ⟨y, hy⟩ : ∃ y, ys[k]? = some y := ⟨ys[k]'(by have := HY.out; omega), List.getElem?_eq_some_iff.2 ⟨_, rfl⟩⟩
      have hc : wr.cell? ⟨g, k, none⟩ = some (.string y) := by
        have h1 := World.ownsRow.cellAt HO2.out k (by have := HY.out; omega)
        rw [h1]; simp [hy]
      clear hy
      go_wp2
      go_roundw
      case rel =>
        refine ⟨k + 1, by omega, by go_num, ⟨ys.set k ⟨#[111, 118, 101, 114]⟩, by rw [List.length_set]; exact HY.out, HO2.out.stored k _⟩, grown_trans hbl.out (grown_setCell _ _ _ _)⟩
      case measure => simp [intOf]; omega
    · have HO3 := hide (HO2.out.alloc (.cells #[.string ⟨#[111, 118, 101, 114]⟩] 9))
      rw [HY.out] at HO3
      go_wp2_with (at_builtin; refine wpList_append_textsG rfl _ _ rfl base wr.heap.size _ _ ys [⟨#[111, 118, 101, 114]⟩] rfl HO3.out rfl (Own.one wr _) (by simp; have := HY.out; omega) (by simp; omega) ?_)
      intro b c w1 _ hb1
      go_wp2
      go_end0
      exact ⟨rfl, grown_trans hbl.out (grown_trans (grown_box _ _ _) hb1)⟩
theorem overG_ok (v : Value) (xs : List ByteArray) (base : Nat) (w : World) (ho : Own base w v xs) (hbw : base ≤ w.heap.size) (hl : xs.length < 900000) :
    Calls Tryd.prog 20 #[v] w fun e w' => e = .returned (.tuple #[]) ∧ w.grownBy w' v.ownBlock := by
  obtain ⟨_, h2⟩ := id ho
  rcases h2 with ⟨rfl, _⟩ | ⟨g, cap, cur, rfl, _⟩
  · exact overG_none w
  · exact overG_some base g cap xs w hbw ho hl
theorem eql_node (x y : Nd) (w : World) : (binOp .eql 27 (.agg #[.string x.1, .int .i64 x.2.1, .string x.2.2]) (.agg #[.string y.1, .int .i64 y.2.1, .string y.2.2])).run Tryd.prog w = .ok (.bool (decide (x = y))) w := by
  rw [run_eql_struct, equal_node]
  simp
theorem LentN.run {w : World} {g k : Nat} {ns : List Nd} (h : LentN w g k ns) : Run w g 0 ns := by
  rcases (h.arg rfl).nods with ⟨e, _⟩ | ⟨b, o, c, e, _, hr⟩
  · rw [e]; exact ⟨h.lt, fun j n hn => by simp at hn⟩
  · simp only [Value.slice.injEq, Option.some.injEq, Addr.mk.injEq, and_true] at e
    obtain ⟨⟨rfl, rfl⟩, _⟩ := e
    exact hr
theorem LentN.grown {w w' : World} {g k : Nat} {ns : List Nd} {row : Option Nat} (h : LentN w g k ns) (hg : w.grownBy w' row) (hr : ∀ x, row = some x → g ≠ x) : LentN w' g k ns := by
  unfold LentN at h ⊢
  rw [hg.block g (by obtain ⟨cur, hc, _⟩ := h; exact (Array.getElem?_eq_some_iff.1 hc).1) (fun e => hr g e.symm rfl)]
  exact h
theorem Own.grownT {base : Nat} {w w' : World} {v : Value} {xs : List ByteArray} {row : Option Nat} (h : Own base w v xs) (hg : w.grownBy w' row) (hr : ∀ g, row = some g → g < base) : Own base w' v xs := by
  refine World.ownsRow.kept h hg ?_
  cases hv : v.ownBlock with
  | none => exact .inl rfl
  | some k =>
    refine .inr fun e => ?_
    have h1 := (h.lt k hv).1
    have h2 := hr k e.symm
    omega
end Go.Proofs.YtomomeckgiiapaaDoor
