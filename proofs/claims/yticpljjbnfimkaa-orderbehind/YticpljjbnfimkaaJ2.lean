/- Texts that stand together, joined: Apd, W6. -/
import Derived.Test.YticpljjbnfimkaaK8
import Derived.Laws.AppendOwnNone
import Derived.Deep.QuietTactic
import Derived.BigQuiet
/- An append of texts onto texts of one's own, as a law for a walk. -/
namespace Go.Proofs.Yticpljjbnfimkaa
open Go.RowKit

theorem wpList_append_texts {w : World} {ops : Array Oper} {rest : List Oper} {o : Oper} {a : Act} {Q : Exit → Act → World → Prop} (hgd : o.guard = none) (s x : Operand)
    (ho : o.op = .call { callee := .builtin .append, args := #[s, x], argTypes := #[25, 25] })
    (base base' : Nat) (v u : Value) (xs ys : List ByteArray) (hs : a.eval s = v) (hown : Own base w v xs) (hx : a.eval x = u) (hu : Own base' w u ys)
    (hlen : xs.length + ys.length < 1000000) (hbase : base ≤ w.heap.size)
    (h : ∀ b c w', Own base w' (.slice b (xs.length + ys.length) c) (xs ++ ys) → Below base w w' → wpList Try.prog ops Q rest (a.put o.dst (.slice b (xs.length + ys.length) c)) w') : wpList Try.prog ops Q (o :: rest) a w := by
  obtain ⟨i0, hi, hz0, hz1, hz2⟩ := info_parts A9
  have hu0 := hu
  obtain ⟨_, hu2⟩ := hu
  rcases hu2 with ⟨rfl, h0⟩ | ⟨g, cap, cur, rfl, hb, hg, hn, hm, hsz, ht⟩
  · have hy : ys = [] := List.eq_nil_of_length_eq_zero h0
    subst hy
    obtain ⟨b, c, e⟩ := hown.form
    subst e
    refine wpList_append_own_none hgd s x 25 ho base 9 i0 1 Try.underlying25 hi _ _ _ hs hown hx ?_
    exact h b c w (by simpa using hown) (Below.refl _ _)
  · refine wpList_append_own w hgd s x 25 ho base 9 i0 (.string ByteArray.empty) 1 16 Try.underlying25 hi hz0 hz1 hz2 rfl (by decide) v xs.length (xs.map Value.string) hs hown ⟨g, 0, none⟩ ys.length cap (ys.map Value.string) hx (by simp) ?_ ?_ (by unfold maxLen; omega) (by omega) hbase ?_
    · exact hu0.cells (g := g) rfl
    · intro z hz
      obtain ⟨y, _, rfl⟩ := List.mem_map.1 hz
      rfl
    · intro v' w' h1 h2 _
      have h3 : Own base w' v' (xs ++ ys) := Own.joined h1
      obtain ⟨b, c, e⟩ := h3.form
      rw [List.length_append] at e
      subst e
      exact h b c w' h3 (Own.grownBelow hown h2 hbase)

end Go.Proofs.Yticpljjbnfimkaa
/- The walk of the statements' own SameTexts. -/
namespace Go.Proofs.Yticpljjbnfimkaa
open Go.RowKit

theorem same_less (a b : Option Addr) (n m c d : Nat) (w : World) (h : n ≠ m) :
    Calls Try.prog 12 #[.slice a n c, .slice b m d] w fun e w' => e = .returned (.bool false) ∧ w' = w := by
  have h1 : ((n : Int) != (m : Int)) = true := by rw [bne_iff_ne]; omega
  go_enter Try.func12, Try.ntmps12
  go_wp2
  go_ret
  exact ⟨rfl, rfl⟩
theorem same_none (a b : Option Addr) (c d : Nat) (w : World) :
    Calls Try.prog 12 #[.slice a 0 c, .slice b 0 d] w fun e w' => e = .returned (.bool true) ∧ w' = w := by
  go_enter Try.func12, Try.ntmps12
  go_wp2
  go_loop [5] (fun i => i = .int .i64 0) (fun _ => 0)
  case atStart => rfl
  case round =>
    subst hrel
    go_wp2
    go_ret
    exact ⟨rfl, rfl⟩
theorem take_same {xs ys : List ByteArray} {k : Nat} {x y : ByteArray} (h : xs.take k = ys.take k) (hx : xs[k]? = some x) (hy : ys[k]? = some y) (e : x = y) : xs.take (k + 1) = ys.take (k + 1) := by
  subst e
  obtain ⟨h1, rfl⟩ := List.getElem?_eq_some_iff.1 hx
  obtain ⟨h2, e2⟩ := List.getElem?_eq_some_iff.1 hy
  rw [List.take_succ_eq_append_getElem h1, List.take_succ_eq_append_getElem h2, h, e2]

set_option maxHeartbeats 800000 in
theorem same_some (b o c b' o' c' n : Nat) (xs ys : List ByteArray) (w : World) (hn : n < 1000000) (hnx : n = xs.length) (hny : n = ys.length)
    (hb : b < w.heap.size) (hb' : b' < w.heap.size)
    (hx : ∀ (j : Nat) x, xs[j]? = some x → w.cell? ⟨b, o + j, none⟩ = some (.string x)) (hy : ∀ (j : Nat) x, ys[j]? = some x → w.cell? ⟨b', o' + j, none⟩ = some (.string x)) :
    Calls Try.prog 12 #[.slice (some ⟨b, o, none⟩) n c, .slice (some ⟨b', o', none⟩) n c'] w fun e w' => e = .returned (.bool (decide (xs = ys))) ∧ Below w.heap.size w w' := by
  have HX := hx
  have HCX : Hid (∀ (j : Nat) x, xs[j]? = some x → w.cell? ⟨b, o + j, none⟩ = some (.string x)) := hx
  have HCY : Hid (∀ (j : Nat) x, ys[j]? = some x → w.cell? ⟨b', o' + j, none⟩ = some (.string x)) := hy
  have HNX : Hid (n = xs.length) := hnx
  have HNY : Hid (n = ys.length) := hny
  clear hx hy hnx hny HX
  have hne : ((n : Int) != (n : Int)) = false := by simp
  go_enter Try.func12, Try.ntmps12
  go_wp2
  go_loopw [5] (fun i wr => ∃ k : Nat, k ≤ n ∧ i = .int .i64 k ∧ Hid (xs.take k = ys.take k) ∧ Below w.heap.size w wr) (fun i _ => n - (intOf i).toNat)
  case atStart => exact ⟨0, Nat.zero_le _, rfl, rfl, Below.refl _ _⟩
  case round =>
    obtain ⟨k, hk, rfl, hsame, hbl⟩ := hrel
    by_cases hlt : k < n
    · obtain ⟨x, hx⟩ : ∃ x, xs[k]? = some x := ⟨xs[k]'(by have := HNX.out; omega), List.getElem?_eq_some_iff.2 ⟨_, rfl⟩⟩
      obtain ⟨y, hy⟩ : ∃ y, ys[k]? = some y := ⟨ys[k]'(by have := HNY.out; omega), List.getElem?_eq_some_iff.2 ⟨_, rfl⟩⟩
      have hcx : wr.cell? ⟨b, o + k, none⟩ = some (.string x) := (hbl.cell (p := ⟨b, o + k, none⟩) hb).trans (HCX.out k x hx)
      have hcy : wr.cell? ⟨b', o' + k, none⟩ = some (.string y) := (hbl.cell (p := ⟨b', o' + k, none⟩) hb').trans (HCY.out k y hy)
      have hki : (k : Int) < (n : Int) := by omega
      have HXK : Hid (xs[k]? = some x) := hx
      have HYK : Hid (ys[k]? = some y) := hy
      clear hx hy
      go_wp2
      go_quiet (fail)
      go_wp2
      · have hne : (!x.toList == y.toList) = true := by assumption
        go_ret
        refine ⟨ret_bool ?_, below_drewN hbl nq⟩
        symm
        rw [decide_eq_false_iff_not]
        intro e
        have h3 : x = y := Option.some.inj (HXK.out.symm.trans ((congrArg (fun l => l[k]?) e).trans HYK.out))
        rw [h3] at hne
        simp at hne
      · have heq : (!x.toList == y.toList) = false := by assumption
        have he : x = y := by
          have h3 : x.toList = y.toList := by simpa using heq
          rw [Lib.toList_data, Lib.toList_data] at h3
          rw [← Hog.data_mk x, ← Hog.data_mk y, h3]
        go_roundw
        case rel => exact ⟨k + 1, by omega, by go_num, take_same hsame.out HXK.out HYK.out he, below_drewN hbl nq⟩
        case measure => simp [intOf]; omega
    · go_wp2
      go_ret
      refine ⟨ret_bool ?_, hbl⟩
      have e : k = n := by omega
      have h1 := hsame.out
      rw [e] at h1
      have h2 : xs = ys := by
        rw [HNX.out] at h1
        have h3 := HNX.out.symm.trans HNY.out
        rw [List.take_length] at h1
        rw [h1, h3, List.take_length]
      rw [h2]; simp
theorem same_any (v u : Value) (xs ys : List ByteArray) (w : World) (hv : Txt w v xs) (hu : Txt w u ys) (hx : xs.length < 1000000) :
    Calls Try.prog 12 #[v, u] w fun e w' => e = .returned (.bool (decide (xs = ys))) ∧ Below w.heap.size w w' := by
  by_cases hl : xs.length = ys.length
  · rcases hv with ⟨rfl, a, c, rfl⟩ | ⟨b, o, c, rfl, hc, hb, hcell⟩
    · have hy : ys = [] := List.eq_nil_of_length_eq_zero hl.symm
      subst hy
      rcases hu with ⟨_, a', c', rfl⟩ | ⟨b', o', c', rfl, _, _, _⟩
      · refine (same_none a a' c c' w).mono ?_
        rintro e w' ⟨rfl, rfl⟩
        exact ⟨rfl, Below.refl _ _⟩
      · refine (same_none a (some ⟨b', o', none⟩) c c' w).mono ?_
        rintro e w' ⟨rfl, rfl⟩
        exact ⟨rfl, Below.refl _ _⟩
    · rcases hu with ⟨rfl, a', c', rfl⟩ | ⟨b', o', c', rfl, _, hb', hcell'⟩
      · have hx0 : xs = [] := List.eq_nil_of_length_eq_zero hl
        subst hx0
        refine (same_none (some ⟨b, o, none⟩) a' c c' w).mono ?_
        rintro e w' ⟨rfl, rfl⟩
        exact ⟨rfl, Below.refl _ _⟩
      · rw [← hl]
        exact same_some b o c b' o' c' xs.length xs ys w hx rfl hl hb hb' hcell hcell'
  · have he : decide (xs = ys) = false := by rw [decide_eq_false_iff_not]; intro e; exact hl (congrArg List.length e)
    rw [he]
    have hv' : ∃ a c, v = .slice a xs.length c := by
      rcases hv with ⟨rfl, a, c, rfl⟩ | ⟨b, o, c, rfl, _⟩
      · exact ⟨a, c, rfl⟩
      · exact ⟨_, c, rfl⟩
    have hu' : ∃ a c, u = .slice a ys.length c := by
      rcases hu with ⟨rfl, a, c, rfl⟩ | ⟨b, o, c, rfl, _⟩
      · exact ⟨a, c, rfl⟩
      · exact ⟨_, c, rfl⟩
    obtain ⟨a, c, rfl⟩ := hv'
    obtain ⟨a', c', rfl⟩ := hu'
    refine (same_less a a' xs.length ys.length c c' w hl).mono ?_
    rintro e w' ⟨rfl, rfl⟩
    exact ⟨rfl, Below.refl _ _⟩
end Go.Proofs.Yticpljjbnfimkaa
