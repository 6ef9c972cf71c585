/- Where one list of bytes stands in another: plainly, and by the longest beginning that was just seen. Nothing here names the program. -/
import Derived.Test.YticpljjbnfimkaaPlainI
namespace Go.Proofs.Yticpljjbnfimkaa.Hog
open Go

/-- Does P stand in s at place i? -/
def occ (P s : List UInt8) (i : Nat) : Bool := decide ((s.drop i).take P.length = P)
/-- The places at which P stands in s, among those that k bytes decide. -/
def uptoL (P s : List UInt8) (k : Nat) : List Nat := (List.range (k + 1 - P.length)).filter (occ P s)
/-- The places at which P stands in s; none, if it is empty. -/
def placesL (P s : List UInt8) : List Nat := if P = [] then [] else uptoL P s s.length

/-- The first b bytes of P stand at t's end. -/
def bord (P t : List UInt8) (b : Nat) : Prop := b ≤ P.length ∧ P.take b <:+ t
/-- b is the most of which that is true. -/
def best (P t : List UInt8) (b : Nat) : Prop := bord P t b ∧ ∀ c, bord P t c → c ≤ b

theorem bord_len {P t : List UInt8} {b : Nat} (h : bord P t b) : b ≤ t.length := by
  have := h.2.length_le
  rw [List.length_take] at this
  have := h.1
  omega
theorem best_nil (P : List UInt8) : best P [] 0 := by
  refine ⟨⟨Nat.zero_le _, by simp⟩, fun c h => ?_⟩
  have := bord_len h
  simpa using this
theorem best_one {P t : List UInt8} {a b : Nat} (h : best P t a) (k : best P t b) : a = b := Nat.le_antisymm (k.2 a h.1) (h.2 b k.1)

theorem best_ex (P t : List UInt8) : ∃ b, best P t b := by
  have h : ∀ n, ∃ b, b ≤ n ∧ bord P t b ∧ ∀ c, c ≤ n → bord P t c → c ≤ b := by
    intro n
    induction n with
    | zero => exact ⟨0, Nat.le_refl _, ⟨Nat.zero_le _, by simp⟩, fun c h _ => h⟩
    | succ n ih =>
      obtain ⟨b, h1, h2, h3⟩ := ih
      by_cases h : bord P t (n + 1)
      · exact ⟨n + 1, Nat.le_refl _, h, fun c h _ => h⟩
      · refine ⟨b, by omega, h2, fun c hc hb => ?_⟩
        by_cases e : c = n + 1
        · subst e; exact absurd hb h
        · exact h3 c (by omega) hb
  obtain ⟨b, _, h2, h3⟩ := h P.length
  exact ⟨b, h2, fun c hc => h3 c hc.1 hc⟩

theorem suffix_snoc {a t : List UInt8} {x y : UInt8} (h : a ++ [y] <:+ t ++ [x]) : y = x ∧ a <:+ t := by
  obtain ⟨r, hr⟩ := h
  rw [← List.append_assoc] at hr
  have h1 := List.append_inj' hr rfl
  refine ⟨by simpa using h1.2, ⟨r, h1.1⟩⟩
theorem take_snoc {P : List UInt8} {c : Nat} (h : c < P.length) : P.take (c + 1) = P.take c ++ [P[c]] := List.take_succ_eq_append_getElem h
theorem bord_snoc {P t : List UInt8} {x : UInt8} {c : Nat} (h : bord P (t ++ [x]) (c + 1)) : bord P t c ∧ P[c]? = some x := by
  have hc : c < P.length := h.1
  have h2 := h.2
  rw [take_snoc hc] at h2
  obtain ⟨e, hs⟩ := suffix_snoc h2
  exact ⟨⟨by omega, hs⟩, by rw [List.getElem?_eq_getElem hc, e]⟩
theorem bord_add {P t : List UInt8} {x : UInt8} {c : Nat} (h : bord P t c) (hx : P[c]? = some x) : bord P (t ++ [x]) (c + 1) := by
  obtain ⟨hc, e⟩ := List.getElem?_eq_some_iff.1 hx
  refine ⟨hc, ?_⟩
  rw [take_snoc hc, e]
  obtain ⟨r, hr⟩ := h.2
  exact ⟨r, by rw [← List.append_assoc, hr]⟩

/-- What is asked of the number that is being lowered. -/
def low (P t : List UInt8) (x : UInt8) (b : Nat) : Prop := bord P t b ∧ ∀ c, bord P (t ++ [x]) (c + 1) → c ≤ b
theorem low_start {P t : List UInt8} {x : UInt8} {b : Nat} (h : best P t b) : low P t x b := ⟨h.1, fun c hc => h.2 c (bord_snoc hc).1⟩
theorem take_tail (P : List UInt8) (b : Nat) : (P.take (b + 1)).tail = P.tail.take b := by cases P <;> simp
theorem low_step {P t : List UInt8} {x : UInt8} {b r : Nat} (h : low P t x (b + 1)) (hr : best P (P.tail.take b) r) (hx : P[b + 1]? ≠ some x) : low P t x r ∧ r ≤ b := by
  have hb : (P.tail.take b).length ≤ b := List.length_take_le _ _
  have hrb : r ≤ b := Nat.le_trans (bord_len hr.1) hb
  have hsuf : P.tail.take b <:+ P.take (b + 1) := by rw [← take_tail]; exact List.tail_suffix _
  refine ⟨⟨⟨hr.1.1, (hr.1.2.trans hsuf).trans h.1.2⟩, fun c hc => ?_⟩, hrb⟩
  obtain ⟨k1, k2⟩ := bord_snoc hc
  have h1 := h.2 c hc
  have hne : c ≠ b + 1 := fun e => hx (by rw [← e]; exact k2)
  refine hr.2 c ⟨k1.1, ?_⟩
  have hcl : (P.take c).length = c := by rw [List.length_take]; have := k1.1; omega
  have hbl : (P.take (b + 1)).length = b + 1 := by rw [List.length_take]; have := h.1.1; omega
  have h2 : P.take c <:+ P.take (b + 1) := List.suffix_of_suffix_length_le k1.2 h.1.2 (by omega)
  rw [← take_tail]
  obtain ⟨q, hq⟩ := h2
  cases q with
  | nil => rw [List.nil_append] at hq; rw [hq] at hcl; omega
  | cons u q => rw [← hq]; exact ⟨q, rfl⟩
theorem low_hit {P t : List UInt8} {x : UInt8} {b : Nat} (h : low P t x b) (hx : P[b]? = some x) : best P (t ++ [x]) (b + 1) := by
  refine ⟨bord_add h.1 hx, fun d hd => ?_⟩
  cases d with
  | zero => omega
  | succ c => have := h.2 c hd; omega
theorem low_miss {P t : List UInt8} {x : UInt8} (h : low P t x 0) (hx : P[0]? ≠ some x) : best P (t ++ [x]) 0 := by
  refine ⟨⟨Nat.zero_le _, by simp⟩, fun d hd => ?_⟩
  cases d with
  | zero => omega
  | succ c =>
    have h0 := h.2 c hd
    obtain rfl : c = 0 := by omega
    exact absurd (bord_snoc hd).2 hx

/-- The table: for each beginning, the longest shorter one that it ends with, as far as n. -/
def table (P : List UInt8) (zs : List Int) (n : Nat) : Prop := ∀ j, j < n → ∃ r : Nat, zs[j]? = some (r : Int) ∧ best P (P.tail.take j) r
theorem table_less {P : List UInt8} {zs : List Int} {n m : Nat} (h : table P zs n) (hm : m ≤ n) : table P zs m := fun j hj => h j (by omega)
theorem table_set {P : List UInt8} {zs : List Int} {n r : Nat} (h : table P zs n) (hn : n < zs.length) (hr : best P (P.tail.take n) r) : table P (zs.set n (r : Int)) (n + 1) := fun j hj => by
  by_cases e : j = n
  · subst e
    exact ⟨r, by rw [List.getElem?_set_self hn], hr⟩
  · obtain ⟨q, h1, h2⟩ := h j (by omega)
    exact ⟨q, by rw [List.getElem?_set_ne (by omega)]; exact h1, h2⟩

theorem seen_whole {P s : List UInt8} {k b : Nat} (hk : k ≤ s.length) (h : best P (s.take k) b) : b = P.length ↔ P.length ≤ k ∧ occ P s (k - P.length) = true := by
  have hl : (s.take k).length = k := by rw [List.length_take]; omega
  unfold occ
  rw [decide_eq_true_eq]
  constructor
  · intro e
    have h1 := bord_len h.1
    rw [hl, e] at h1
    refine ⟨h1, ?_⟩
    have h2 := h.1.2
    rw [e, List.take_length] at h2
    have h3 := List.suffix_iff_eq_drop.1 h2
    rw [hl, List.drop_take] at h3
    rw [show k - (k - P.length) = P.length by omega] at h3
    exact h3.symm
  · rintro ⟨h1, h2⟩
    have h3 : bord P (s.take k) P.length := by
      refine ⟨Nat.le_refl _, ?_⟩
      rw [List.take_length]
      refine List.suffix_iff_eq_drop.2 ?_
      rw [hl, List.drop_take, show k - (k - P.length) = P.length by omega]
      exact h2.symm
    exact Nat.le_antisymm h.1.1 (h.2 _ h3)

theorem upto_zero {P : List UInt8} (s : List UInt8) (hP : P ≠ []) : uptoL P s 0 = [] := by
  unfold uptoL
  have : 0 < P.length := List.length_pos_iff.2 hP
  rw [show 0 + 1 - P.length = 0 by omega]
  rfl
theorem upto_hit {P s : List UInt8} {k : Nat} (h1 : P.length ≤ k + 1) (h2 : occ P s (k + 1 - P.length) = true) : uptoL P s (k + 1) = uptoL P s k ++ [k + 1 - P.length] := by
  unfold uptoL
  rw [show k + 1 + 1 - P.length = (k + 1 - P.length) + 1 by omega, List.range_succ, List.filter_append]
  simp [h2]
theorem upto_miss {P s : List UInt8} {k : Nat} (h : ¬ (P.length ≤ k + 1 ∧ occ P s (k + 1 - P.length) = true)) : uptoL P s (k + 1) = uptoL P s k := by
  unfold uptoL
  by_cases h1 : P.length ≤ k + 1
  · have h2 : occ P s (k + 1 - P.length) = false := by
      cases e : occ P s (k + 1 - P.length) with
      | false => rfl
      | true => exact absurd ⟨h1, e⟩ h
    rw [show k + 1 + 1 - P.length = (k + 1 - P.length) + 1 by omega, List.range_succ, List.filter_append]
    simp [h2]
  · rw [show k + 1 + 1 - P.length = 0 by omega, show k + 1 - P.length = 0 by omega]
theorem upto_len (P s : List UInt8) (k : Nat) : (uptoL P s k).length ≤ k + 1 := by
  unfold uptoL
  have := List.length_filter_le (occ P s) (List.range (k + 1 - P.length))
  rw [List.length_range] at this
  omega
theorem places_none {P s : List UInt8} (h : P = [] ∨ s.length < P.length) : placesL P s = [] := by
  unfold placesL
  split
  · rfl
  · rename_i hP
    rcases h with h | h
    · exact absurd h hP
    · unfold uptoL
      rw [show s.length + 1 - P.length = 0 by omega]
      rfl
theorem places_upto {P s : List UInt8} (h : P ≠ []) : placesL P s = uptoL P s s.length := by unfold placesL; rw [if_neg h]
theorem upto_prefix (P s : List UInt8) {k m : Nat} (h : k ≤ m) : uptoL P s k <+: uptoL P s m := by
  unfold uptoL
  obtain ⟨d, hd⟩ : ∃ d, m + 1 - P.length = (k + 1 - P.length) + d := ⟨m + 1 - P.length - (k + 1 - P.length), by omega⟩
  rw [hd, List.range_add, List.filter_append]
  exact List.prefix_append _ _
/-- Does P stand in s? -/
def hasL (P s : List UInt8) : Bool := !(placesL P s).isEmpty
theorem hasL_not {P s : List UInt8} (h : placesL P s = []) : hasL P s = false := by unfold hasL; rw [h]; rfl
theorem hasL_is {P s : List UInt8} (h : placesL P s ≠ []) : hasL P s = true := by
  unfold hasL
  cases e : placesL P s with
  | nil => exact absurd e h
  | cons a r => rfl
/-- Is q one of the first n pieces of eight bytes of s? -/
def metL (q s : List UInt8) (n : Nat) : Bool := decide (q.length = 8) && (List.range n).any (occ q s)
theorem metL_zero (q s : List UInt8) : metL q s 0 = false := by unfold metL; simp
theorem metL_step {q s : List UInt8} {n : Nat} (hn : n + 8 ≤ s.length) : metL q s (n + 1) = (metL q s n || decide (q = (s.drop n).take 8)) := by
  have hl : ((s.drop n).take 8).length = 8 := by rw [List.length_take, List.length_drop]; omega
  unfold metL
  by_cases h8 : q.length = 8
  · rw [decide_eq_true h8, Bool.true_and, Bool.true_and, List.range_succ, List.any_append]
    congr 1
    unfold occ
    simp only [List.any_cons, List.any_nil, Bool.or_false]
    rw [h8, Bool.eq_iff_iff, decide_eq_true_eq, decide_eq_true_eq]
    exact ⟨fun h => h.symm, fun h => h.symm⟩
  · rw [decide_eq_false h8, Bool.false_and, Bool.false_and, Bool.false_or]
    symm
    rw [decide_eq_false_iff_not]
    intro e
    rw [e] at h8
    exact h8 hl
theorem any_filter {α : Type} (p : α → Bool) : ∀ l : List α, l.any p = !(l.filter p).isEmpty
  | [] => rfl
  | a :: r => by
    rw [List.any_cons, List.filter_cons, any_filter p r]
    cases h : p a <;> simp
theorem metL_has (q s : List UInt8) : metL q s (s.length + 1 - 8) = (decide (q.length = 8) && hasL q s) := by
  unfold metL
  by_cases h8 : q.length = 8
  · rw [decide_eq_true h8, Bool.true_and, Bool.true_and, any_filter]
    unfold hasL placesL uptoL
    rw [if_neg (by intro e; rw [e] at h8; simp at h8), h8]
  · rw [decide_eq_false h8, Bool.false_and, Bool.false_and]
end Go.Proofs.Yticpljjbnfimkaa.Hog
