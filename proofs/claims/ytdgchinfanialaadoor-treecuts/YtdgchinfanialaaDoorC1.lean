/- Plain facts on trees: what is cut off, what is taken out. -/
import Derived.Test.YtdgchinfanialaaDoorS8
namespace Go.Proofs.YtdgchinfanialaaDoor
open Go.RowKit

theorem badFrom_neg : ∀ (r ahead : List Nd), badFrom ahead r < 0 ↔ ∀ (i : Nat) n, r[i]? = some n → refusesB (ahead ++ r.take i) n = false
  | [], ahead => by simp [badFrom]
  | x :: r, ahead => by
    rw [badFrom]
    cases hx : refusesB ahead x with
    | true =>
      rw [if_pos rfl]
      constructor
      · intro h; omega
      · intro h
        have := h 0 x rfl
        simp [hx] at this
    | false =>
      rw [if_neg (by decide), badFrom_neg r (ahead ++ [x])]
      constructor
      · intro h i n hn
        cases i with
        | zero => simp at hn; subst hn; simpa using hx
        | succ i => have := h i n (by simpa using hn); simpa using this
      · intro h i n hn
        have := h (i + 1) n (by simpa using hn)
        simpa using this
theorem may_iff {t : List Nd} : mayN t = true ↔ t ≠ [] ∧ ∀ (i : Nat) n, t[i]? = some n → refusesB (t.take i) n = false := by
  unfold mayN badN
  rw [decide_eq_true_eq]
  cases t with
  | nil => simp
  | cons x r =>
    have := badFrom_neg (x :: r) []
    simp only [List.nil_append] at this
    rw [show (x :: r).isEmpty = false from rfl]
    simp only [Bool.false_eq_true, if_false, ne_eq, reduceCtorEq, not_false_eq_true, true_and]
    exact this
theorem may_rising {t : List Nd} (h : mayN t = true) : Rising t := by
  have key : ∀ k, k ≤ t.length → Rising (t.take k) := by
    intro k
    induction k with
    | zero => intro _; rw [List.take_zero]; exact rising_nil
    | succ k ih =>
      intro hk
      have hg : t[k]? = some t[k] := List.getElem?_eq_getElem (by omega)
      exact rising_step hg ((may_iff.1 h).2 k _ hg) (ih (by omega))
  have := key t.length (Nat.le_refl _)
  rwa [List.take_length] at this
theorem may_take {t : List Nd} {k : Nat} (h : mayN t = true) (hk : 0 < k) (hl : k ≤ t.length) : mayN (t.take k) = true := by
  rw [may_iff]
  refine ⟨fun e => ?_, fun i n hn => ?_⟩
  · have : (t.take k).length = 0 := by rw [e]; rfl
    rw [List.length_take] at this
    omega
  · have hi : i < k := by
      have := (List.getElem?_eq_some_iff.1 hn).1
      rw [List.length_take] at this
      omega
    rw [List.getElem?_take, if_pos hi] at hn
    rw [List.take_take, Nat.min_eq_left (by omega)]
    exact (may_iff.1 h).2 i n hn
theorem refuses_parts {ahead : List Nd} {n z : Nd} (h : refusesB ahead n = false) (hz : ahead.getLast? = some z) : goodB n = true ∧ ahead.length ≠ 400 ∧ ltN z n = true ∧ standsB n ahead = true := by
  have hg : goodB n = true := by
    cases e : goodB n with
    | true => rfl
    | false => rw [refusesB_bad e] at h; cases h
  have hl : ahead.length ≠ 400 := fun e => by rw [refusesB_full e] at h; cases h
  rw [refusesB_next hg hl hz, Bool.or_eq_false_iff] at h
  exact ⟨hg, hl, by simpa using h.1, by simpa using h.2⟩

/-- What stands right under x has x's path and a stroke ahead. -/
theorem parent_pre {p x : ByteArray} (hok : Hog.parentOk p.data.toList = true) (he : parentP p = x) (hx : x.data.toList ≠ []) : x.data.toList ++ [47] <+: p.data.toList := by
  have hm : Hog.mayL p.data.toList = true := by unfold Hog.parentOk at hok; rw [Bool.and_eq_true] at hok; exact hok.2
  have hne : p.data.toList ≠ [] := by
    unfold Hog.parentOk at hok
    rw [Bool.and_eq_true] at hok
    intro e
    rw [e] at hok
    simp at hok
  obtain ⟨q, y, e1, _, _, hq, _, _, _, _, h9, h10, _⟩ := back_facts hne hm
  have hxq : x.data.toList = q := by rw [← he]; unfold parentP; rw [Hog.mk_data, e1]
  rw [hxq] at hx ⊢
  rcases ((Hog.under_iff _ _).1 h9).2.2 with e | e | e
  · rw [e] at h10
    have := Hog.under_self hq
    rw [this] at h10
    cases h10
  · exact absurd e hx
  · exact e

theorem path_ne {t : List Nd} {k : Nat} {x : Nd} (h : Rising t) (hk : 0 < k) (hx : t[k]? = some x) : x.1.data.toList ≠ [] := by
  have hl := (List.getElem?_eq_some_iff.1 hx).1
  have h0 : t[0]? = some t[0] := List.getElem?_eq_getElem (by omega)
  have := h 0 k _ x hk h0 hx
  intro e
  unfold ltN at this
  rw [e] at this
  cases hh : t[0].1.data.toList <;> rw [hh] at this <;> simp [Op.bytesLess] at this

theorem less_get {t : List Nd} {k i : Nat} (hk : k < t.length) : (t.take k ++ t.drop (k + 1))[i]? = if i < k then t[i]? else t[i + 1]? := by
  by_cases h : i < k
  · rw [if_pos h, List.getElem?_append_left (by rw [List.length_take]; omega), List.getElem?_take, if_pos h]
  · rw [if_neg h, List.getElem?_append_right (by rw [List.length_take]; omega), List.length_take, Nat.min_eq_left (by omega), List.getElem?_drop]
    congr 1
    omega
theorem may_less {t : List Nd} {k : Nat} {x : Nd} (h : mayN t = true) (hk : 0 < k) (hx : t[k]? = some x) (hlen : t.length ≤ 60)
    (hnu : ∀ (j : Nat) n, t[j]? = some n → ¬ x.1.data.toList ++ [47] <+: n.1.data.toList) : mayN (t.take k ++ t.drop (k + 1)) = true := by
  have hkl := (List.getElem?_eq_some_iff.1 hx).1
  have hr := may_rising h
  rw [may_iff]
  refine ⟨fun e => ?_, fun i n hn => ?_⟩
  · have := congrArg List.length e
    simp only [List.length_append, List.length_take, List.length_nil] at this
    omega
  · have hn0 := hn
    rw [less_get hkl] at hn
    by_cases hi : i < k
    · rw [if_pos hi] at hn
      rw [List.take_append_of_le_length (by rw [List.length_take]; omega), List.take_take, Nat.min_eq_left (by omega)]
      exact (may_iff.1 h).2 i n hn
    · rw [if_neg hi] at hn
      have hil := (List.getElem?_eq_some_iff.1 hn).1
      have hg : t[i]? = some t[i] := List.getElem?_eq_getElem (by omega)
      obtain ⟨p1, p2, p3, p4⟩ := refuses_parts ((may_iff.1 h).2 (i + 1) n hn) (take_last hg)
      obtain ⟨q, rfl⟩ : ∃ q, i = q + 1 := ⟨i - 1, by omega⟩
      obtain ⟨z, hz⟩ : ∃ z, (t.take k ++ t.drop (k + 1))[q]? = some z := ⟨(t.take k ++ t.drop (k + 1))[q]'(by simp; omega), List.getElem?_eq_some_iff.2 ⟨_, rfl⟩⟩
      have hzl := take_last hz
      have hzn : ltN z n = true := by
        rw [less_get hkl] at hz
        by_cases hq : q < k
        · rw [if_pos hq] at hz
          exact hr q (q + 1 + 1) z n (by omega) hz hn
        · rw [if_neg hq] at hz
          exact hr (q + 1) (q + 1 + 1) z n (by omega) hz hn
      rw [refusesB_next p1 (by rw [List.length_take]; simp; omega) hzl, hzn]
      have hst : standsB n ((t.take k ++ t.drop (k + 1)).take (q + 1)) = true := by
        unfold standsB at p4 ⊢
        rw [Bool.and_eq_true] at p4 ⊢
        refine ⟨p4.1, ?_⟩
        have hd := p4.2
        unfold dirAt at hd ⊢
        rw [List.any_eq_true] at hd ⊢
        obtain ⟨m, hm, hm2⟩ := hd
        refine ⟨m, ?_, hm2⟩
        obtain ⟨j, hj⟩ := List.mem_iff_getElem?.1 hm
        rw [List.getElem?_take] at hj
        split at hj
        · rename_i hjq
          have hjk : j ≠ k := by
            rintro rfl
            rw [hx] at hj
            cases hj
            rw [Bool.and_eq_true, decide_eq_true_eq] at hm2
            exact hnu _ n hn (parent_pre p4.1 hm2.1.symm (path_ne hr hk hx))
          by_cases hj2 : j < k
          · refine List.mem_iff_getElem?.2 ⟨j, ?_⟩
            rw [List.getElem?_take, if_pos (by omega), less_get hkl, if_pos hj2]
            exact hj
          · refine List.mem_iff_getElem?.2 ⟨j - 1, ?_⟩
            rw [List.getElem?_take, if_pos (by omega), less_get hkl, if_neg (by omega), show j - 1 + 1 = j by omega]
            exact hj
        · cases hj
      rw [hst]
      rfl
theorem size_less {t : List Nd} {k : Nat} {x : Nd} (hx : t[k]? = some x) : sizeN (t.take k ++ t.drop (k + 1)) + x.2.2.size = sizeN t := by
  obtain ⟨hk, rfl⟩ := List.getElem?_eq_some_iff.1 hx
  have e : sizeN t = sizeN (t.take k ++ t[k] :: t.drop (k + 1)) := by rw [← List.drop_eq_getElem_cons hk, List.take_append_drop]
  have e2 : ∀ (y : Nd) r, sizeN (y :: r) = y.2.2.size + sizeN r := fun y r => by simp [sizeN]
  rw [e, sizeN_app, sizeN_app, e2]
  omega
/-- The loop's test, read as: x's path and a stroke are a beginning. -/
theorem pre_test {p x : ByteArray} (h : ((p.extract 0 (x.size + 1)).toList == (x ++ ⟨#[47]⟩).toList) = false) : ¬ x.data.toList ++ [47] <+: p.data.toList := by
  intro hp
  rw [beq_eq_false_iff_ne] at h
  refine h ?_
  rw [Lib.toList_data, Lib.toList_data, Lib.extract_eq]
  have e : (x ++ ⟨#[47]⟩ : ByteArray).data.toList = x.data.toList ++ [47] := by simp
  rw [e]
  obtain ⟨r, hr⟩ := hp
  rw [← hr]
  have hz : x.size + 1 - 0 = (x.data.toList ++ [47]).length := by rw [List.length_append, ← Hog.size_len]; rfl
  rw [hz, List.drop_zero, List.take_left]
theorem pre_short2 {p x : ByteArray} (h : p.size ≤ x.size) : ¬ x.data.toList ++ [47] <+: p.data.toList := by
  intro hp
  have := hp.length_le
  rw [List.length_append, ← Hog.size_len, ← Hog.size_len] at this
  simp at this
  omega
end Go.Proofs.YtdgchinfanialaaDoor
