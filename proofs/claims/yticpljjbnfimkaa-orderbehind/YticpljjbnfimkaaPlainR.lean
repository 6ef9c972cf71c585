/- Texts that rise, each once: what sorting and passing over likes leaves, plainly. Nothing here names the program. -/
import Derived.Test.YticpljjbnfimkaaPlainT
import Derived.Lib.SlicesCompact
import Derived.Sort.Walk0
namespace Go.Proofs.Yticpljjbnfimkaa.Hog
open Go

abbrev Tx := List UInt8
def lt (x y : Tx) : Prop := Op.bytesLess x y = true
theorem lt_iff {x y : Tx} : lt x y ↔ x < y := by unfold lt; rw [Go.Proofs.bytesLess_eq, decide_eq_true_eq]
theorem lt_irr (x : Tx) : ¬ lt x x := by unfold lt; rw [less_irr]; decide
theorem lt_trans {x y z : Tx} (h : lt x y) (k : lt y z) : lt x z := less_trans h k
theorem lt_asymm {x y : Tx} (h : lt x y) : ¬ lt y x := fun k => lt_irr x (lt_trans h k)
/-- They rise, each once. -/
def rise (l : List Tx) : Prop := l.Pairwise lt
theorem rise_one : ∀ {l m : List Tx}, rise l → rise m → (∀ x, x ∈ l ↔ x ∈ m) → l = m
  | [], [], _, _, _ => rfl
  | [], b :: m, _, _, h => by have := (h b).2 (by simp); simp at this
  | a :: l, [], _, _, h => by have := (h a).1 (by simp); simp at this
  | a :: l, b :: m, hl, hm, h => by
    have hl2 := List.pairwise_cons.1 hl
    have hm2 := List.pairwise_cons.1 hm
    have e : a = b := by
      have h1 := (h a).1 (by simp)
      have h2 := (h b).2 (by simp)
      rcases List.mem_cons.1 h1 with e | h1
      · exact e
      · rcases List.mem_cons.1 h2 with e | h2
        · exact e.symm
        · exact absurd (hl2.1 b h2) (lt_asymm (hm2.1 a h1))
    subst e
    rw [rise_one hl2.2 hm2.2 fun x => ?_]
    constructor
    · intro hx
      rcases List.mem_cons.1 ((h x).1 (List.mem_cons_of_mem _ hx)) with e | k
      · subst e; exact absurd (hl2.1 x hx) (lt_irr x)
      · exact k
    · intro hx
      rcases List.mem_cons.1 ((h x).2 (List.mem_cons_of_mem _ hx)) with e | k
      · subst e; exact absurd (hm2.1 x hx) (lt_irr x)
      · exact k
theorem rise_nodup {l : List Tx} (h : rise l) : l.Nodup := h.imp fun {a b} k e => by subst e; exact lt_irr a k
theorem rise_nil : rise [] := List.Pairwise.nil
theorem rise_snoc {l : List Tx} {x : Tx} (h : rise l) (k : ∀ y ∈ l, lt y x) : rise (l ++ [x]) := by
  refine List.pairwise_append.2 ⟨h, List.pairwise_singleton _ _, fun a ha b hb => ?_⟩
  rw [List.mem_singleton] at hb
  subst hb
  exact k a ha

/-- x is not behind y. -/
def le (x y : Tx) : Prop := ¬ lt y x
theorem le_trans {x y z : Tx} (h : le x y) (k : le y z) : le x z := fun hzx => by
  rcases less_three x y with e | e | e
  · rcases less_three y z with f | f | f
    · exact lt_asymm (lt_trans e f) hzx
    · subst f; exact lt_asymm e hzx
    · exact k f
  · subst e; exact k hzx
  · exact h e
theorem le_lt {x y : Tx} (h : le x y) (e : x ≠ y) : lt x y := by
  rcases less_three x y with k | k | k
  · exact k
  · exact absurd k e
  · exact absurd k h
theorem le_lt_trans {x y z : Tx} (h : le x y) (k : lt y z) : lt x z := by
  by_cases e : x = y
  · subst e; exact k
  · exact lt_trans (le_lt h e) k

theorem compact_rise (d : Array Tx) (hd : ∀ i j, i ≤ j → j < d.size → le d[i]! d[j]!) : ∀ m, m ≤ d.size → rise (Lib.compactUpTo d m) ∧ ∀ x, x ∈ Lib.compactUpTo d m ↔ ∃ j, j < m ∧ d[j]! = x := by
  intro m
  induction m with
  | zero => intro _; exact ⟨by simpa [Lib.compactUpTo] using rise_nil, by simp [Lib.compactUpTo]⟩
  | succ m ih =>
    intro hm
    obtain ⟨h1, h2⟩ := ih (by omega)
    rw [Lib.compactUpTo_succ]
    by_cases hk : m = 0 ∨ d[m]! ≠ d[m - 1]!
    · have e : Lib.keeps d m = true := by unfold Lib.keeps; exact decide_eq_true hk
      rw [if_pos e]
      refine ⟨rise_snoc h1 fun y hy => ?_, fun x => ?_⟩
      · obtain ⟨j, hj, rfl⟩ := (h2 y).1 hy
        rcases hk with hk | hk
        · omega
        · exact le_lt_trans (hd j (m - 1) (by omega) (by omega)) (le_lt (hd (m - 1) m (by omega) (by omega)) (fun e => hk e.symm))
      · rw [List.mem_append, List.mem_singleton, h2]
        constructor
        · rintro (⟨j, hj, e⟩ | e)
          · exact ⟨j, by omega, e⟩
          · exact ⟨m, by omega, e.symm⟩
        · rintro ⟨j, hj, ex⟩
          by_cases ej : j = m
          · subst ej; exact .inr ex.symm
          · exact .inl ⟨j, by omega, ex⟩
    · have e : Lib.keeps d m = false := by unfold Lib.keeps; exact decide_eq_false hk
      have h0 : m ≠ 0 := fun e => hk (.inl e)
      have he : d[m]! = d[m - 1]! := Classical.byContradiction fun e => hk (.inr e)
      rw [if_neg (by rw [e]; decide), List.append_nil]
      refine ⟨h1, fun x => ?_⟩
      rw [h2]
      constructor
      · rintro ⟨j, hj, e⟩
        exact ⟨j, by omega, e⟩
      · rintro ⟨j, hj, ex⟩
        by_cases ej : j = m
        · subst ej; exact ⟨j - 1, by omega, by rw [← he]; exact ex⟩
        · exact ⟨j, by omega, ex⟩

/-- Texts sorted, each once. -/
def pickT (l : List Tx) : List Tx := Lib.compact (l.mergeSort fun x y => decide (x ≤ y))
theorem le_iff {x y : Tx} : decide (x ≤ y) = true ↔ le x y := by
  rw [decide_eq_true_eq]
  unfold le
  rw [lt_iff]
  exact List.not_lt.symm
theorem sorted_T (l : List Tx) : (l.mergeSort fun x y => decide (x ≤ y)).Pairwise le := by
  have h := List.pairwise_mergeSort (le := fun x y : Tx => decide (x ≤ y)) (fun a b c h k => le_iff.2 (le_trans (le_iff.1 h) (le_iff.1 k))) (fun a b => by
    rw [Bool.or_eq_true, le_iff, le_iff]
    by_cases h : lt b a
    · exact .inr (lt_asymm h)
    · exact .inl h) l
  exact h.imp fun {a b} k => le_iff.1 k
theorem pick_both (l : List Tx) : rise (pickT l) ∧ ∀ x, x ∈ pickT l ↔ x ∈ l := by
  have hs := sorted_T l
  obtain ⟨s, hss⟩ : ∃ s, s = l.mergeSort fun x y => decide (x ≤ y) := ⟨_, rfl⟩
  have hm : ∀ x, x ∈ s ↔ x ∈ l := fun x => by rw [hss]; exact (List.mergeSort_perm l _).mem_iff
  unfold pickT Lib.compact
  rw [← hss] at hs ⊢
  have hd : ∀ i j, i ≤ j → j < s.toArray.size → le s.toArray[i]! s.toArray[j]! := fun i j hij hj => by
    have hj' : j < s.length := by simpa using hj
    have hi' : i < s.length := by omega
    have e1 : s.toArray[i]! = s[i] := by simp [hi']
    have e2 : s.toArray[j]! = s[j] := by simp [hj']
    rw [e1, e2]
    by_cases e : i = j
    · subst e; exact lt_irr _
    · exact List.pairwise_iff_getElem.1 hs i j hi' hj' (by omega)
  obtain ⟨h1, h2⟩ := compact_rise s.toArray hd s.length (by simp)
  refine ⟨h1, fun x => ?_⟩
  rw [h2, ← hm]
  constructor
  · rintro ⟨j, hj, e⟩
    have e2 : s.toArray[j]! = s[j] := by simp [hj]
    rw [← e, e2]
    exact List.getElem_mem hj
  · intro hx
    obtain ⟨j, hj, e⟩ := List.getElem_of_mem hx
    exact ⟨j, hj, by have e2 : s.toArray[j]! = s[j] := by simp [hj]
                     rw [e2, e]⟩
theorem pick_rise (l : List Tx) : rise (pickT l) := (pick_both l).1
theorem pick_mem (l : List Tx) (x : Tx) : x ∈ pickT l ↔ x ∈ l := (pick_both l).2 x
theorem pick_one {l m : List Tx} (h : rise m) (k : ∀ x, x ∈ m ↔ x ∈ l) : pickT l = m := rise_one (pick_rise l) h fun x => by rw [pick_mem, k]
theorem pick_nil : pickT [] = [] := pick_one rise_nil (fun _ => Iff.rfl)
theorem pick_len (l : List Tx) : (pickT l).length ≤ l.length := by
  unfold pickT Lib.compact Lib.compactUpTo
  rw [List.length_map]
  refine Nat.le_trans (List.length_filter_le _ _) ?_
  rw [List.length_range, List.length_mergeSort]
  exact Nat.le_refl _
end Go.Proofs.Yticpljjbnfimkaa.Hog
