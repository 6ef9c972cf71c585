/- The walks of slices.stableCmpFunc, SortStableFunc, and of tree.Sort. -/
import Derived.Test.YteablfekfijnhaaDoorS6
namespace Go.Proofs.YteablfekfijnhaaDoor
open Go.RowKit

theorem sym_all (base g cap n : Nat) (hn : n < 1000) : ∀ k, SymSaid base g cap n k := by
  intro k
  induction k with
  | zero =>
    intro P A B Q w a m b h ha hA hB hA0 hB0 hsA hsB hk
    have := List.length_pos_iff.2 hA0
    omega
  | succ k ih =>
    intro P A B Q w a m b h ha hA hB hA0 hB0 hsA hsB hk
    have la := List.length_pos_iff.2 hA0
    have lb := List.length_pos_iff.2 hB0
    by_cases h1 : A.length = 1
    · obtain ⟨x, rfl⟩ := List.length_eq_one_iff.1 h1
      have e : m = a + 1 := by simpa using hA.symm
      subst e
      exact sym_one base g cap n a b w P B Q x (by simpa using h) hn ha hB hsB
    · by_cases h2 : B.length = 1
      · obtain ⟨y, rfl⟩ := List.length_eq_one_iff.1 h2
        have e : b = m + 1 := by simpa using hB.symm
        subst e
        exact sym_last base g cap n a m w P A Q y (by simpa using h) hn ha hA (by omega) hsA
      · exact sym_main base g cap n k ih hn P A B Q w a m b h ha hA hB (by omega) (by omega) hsA hsB hk

/-- Each block of s nodes is sorted, from place lo to place hi. -/
def BlkS (s lo hi : Nat) (l : List Nd) : Prop := ∀ (i j : Nat) x y, lo ≤ i → i < j → j < hi → i / s = j / s → l[i]? = some x → l[j]? = some y → ltN y x = false

theorem seg_get {P M Q : List Nd} {i : Nat} : (P ++ (M ++ Q))[i]? = if i < P.length then P[i]? else if i < P.length + M.length then M[i - P.length]? else Q[i - P.length - M.length]? := by
  by_cases h1 : i < P.length
  · rw [if_pos h1, List.getElem?_append_left h1]
  · rw [if_neg h1, List.getElem?_append_right (by omega)]
    by_cases h2 : i < P.length + M.length
    · rw [if_pos h2, List.getElem?_append_left (by omega)]
    · rw [if_neg h2, List.getElem?_append_right (by omega)]

/-- Nodes, parted at two places. -/
theorem part3 {l : List Nd} {a b : Nat} (hab : a ≤ b) (hb : b ≤ l.length) : ∃ P M Q, l = P ++ (M ++ Q) ∧ P.length = a ∧ a + M.length = b :=
  ⟨l.take a, (l.drop a).take (b - a), (l.drop a).drop (b - a), by rw [List.take_append_drop, List.take_append_drop], by rw [List.length_take]; omega, by rw [List.length_take, List.length_drop]; omega⟩
theorem part4 {l : List Nd} {a m b : Nat} (ham : a ≤ m) (hmb : m ≤ b) (hb : b ≤ l.length) : ∃ P A B Q, l = P ++ (A ++ (B ++ Q)) ∧ P.length = a ∧ a + A.length = m ∧ m + B.length = b := by
  obtain ⟨P, M, Q, e, l1, l2⟩ := part3 (Nat.le_trans ham hmb) hb
  obtain ⟨A, B, e2, l3, l4⟩ := split_at (l := M) (k := m - a) (by omega)
  exact ⟨P, A, B, Q, by rw [e, e2]; simp, l1, by omega, by omega⟩
theorem blk_srtd {s lo hi a b : Nat} {P M Q : List Nd} (h : BlkS s lo hi (P ++ (M ++ Q))) (ha : P.length = a) (hb : a + M.length = b) (hlo : lo ≤ a) (hhi : b ≤ hi) (hs : ∀ i, a ≤ i → i < b → i / s = a / s) : Srtd M := by
  rw [srtd_get]
  intro i j x y hij hx hy
  have hil := (List.getElem?_eq_some_iff.1 hx).1
  have hjl := (List.getElem?_eq_some_iff.1 hy).1
  refine h (a + i) (a + j) x y (by omega) (by omega) (by omega) ?_ ?_ ?_
  · rw [hs (a + i) (by omega) (by omega), hs (a + j) (by omega) (by omega)]
  · rw [get_mid ha hil]; exact hx
  · rw [get_mid ha hjl]; exact hy
theorem alike_seg {P M M' Q : List Nd} (h : Alike M M') : Alike (P ++ (M ++ Q)) (P ++ (M' ++ Q)) := (Alike.refl P).app (h.app (Alike.refl Q))

/-- A block was sorted, the blocks ahead of it stay. -/
theorem blk_step {s a b : Nat} {P M M' Q : List Nd} (hl : M'.length = M.length) (ha : P.length = a) (hb : a + M.length = b) (hs : Srtd M') (h0 : BlkS s 0 a (P ++ (M ++ Q))) (hdiv : ∀ i, i < a → i / s < a / s) : BlkS s 0 b (P ++ (M' ++ Q)) := by
  intro i j x y _ hij hj he hx hy
  rw [seg_get, ha, hl] at hx hy
  by_cases hja : j < a
  · rw [if_pos (by omega)] at hx
    rw [if_pos hja] at hy
    refine h0 i j x y (Nat.zero_le _) hij hja he ?_ ?_
    · rw [seg_get, ha, if_pos (by omega)]; exact hx
    · rw [seg_get, ha, if_pos hja]; exact hy
  · have hia : ¬ i < a := fun h => by
      have h1 := hdiv i h
      have h2 : a / s ≤ j / s := Nat.div_le_div_right (by omega)
      omega
    rw [if_neg hia, if_pos (by omega)] at hx
    rw [if_neg hja, if_pos (by omega)] at hy
    exact srtd_get.1 hs (i - a) (j - a) x y (by omega) hx hy
theorem blk_rest {s a b hi : Nat} {P M M' Q : List Nd} (hl : M'.length = M.length) (ha : P.length = a) (hb : a + M.length = b) (h0 : BlkS s a hi (P ++ (M ++ Q))) : BlkS s b hi (P ++ (M' ++ Q)) := by
  intro i j x y hi' hij hj he hx hy
  refine h0 i j x y (by omega) hij hj he ?_ ?_
  · rw [seg_get, if_neg (by omega), if_neg (by omega)] at hx ⊢
    rw [hl] at hx; exact hx
  · rw [seg_get, if_neg (by omega), if_neg (by omega)] at hy ⊢
    rw [hl] at hy; exact hy
end Go.Proofs.YteablfekfijnhaaDoor
