/- Plain facts on paths that stand under paths: what is left of them, what comes of one behind another. Nothing here names the program. -/
import Derived.Test.YtomomeckgiiapaaDoorPlainT
namespace Go.Proofs.YtomomeckgiiapaaDoor.Hog
open Go

theorem cutC_nil : cutC [] = [] := rfl
theorem cutC_ne {p : List UInt8} (h : p ≠ []) : cutC p ≠ [] := by unfold cutC; rw [if_neg h]; exact cut_ne p
theorem cutC_inj {p q : List UInt8} (h : cutC p = cutC q) : p = q := by rw [← join_cutC p, h, join_cutC]
theorem may_all {p : List UInt8} (h : mayL p = true) : (cutC p).all partL = true := (may_parts h).2.2
theorem all_drop {xs : List (List UInt8)} (k : Nat) (h : xs.all partL = true) : (xs.drop k).all partL = true :=
  List.all_eq_true.2 fun x hx => List.all_eq_true.1 h x (List.mem_of_mem_drop hx)
theorem join_tail_len (x : List UInt8) (r : List (List UInt8)) : (joinS r).length ≤ (joinS (x :: r)).length := by
  by_cases h : r = []
  · subst h; simp [join_nil]
  · rw [join_cons x r h]; simp; omega
theorem join_drop_len : ∀ (xs : List (List UInt8)) (k : Nat), (joinS (xs.drop k)).length ≤ (joinS xs).length
  | [], k => by simp
  | x :: r, 0 => by simp
  | x :: r, k + 1 => by rw [List.drop_succ_cons]; exact Nat.le_trans (join_drop_len r k) (join_tail_len x r)

/-- A path stands under another one just if its parts begin with the other's. -/
theorem in_cut {p d : List UInt8} : In p d → cutC d <+: cutC p := by
  rintro (rfl | rfl | ⟨r, hr⟩)
  · exact List.prefix_refl _
  · exact List.nil_prefix
  · by_cases hd : d = []
    · subst hd; exact List.nil_prefix
    · have hp : p ≠ [] := by rw [← hr]; simp
      have e : p = d ++ 47 :: r := by rw [← hr]; simp
      refine ⟨cutL r, ?_⟩
      unfold cutC
      rw [if_neg hd, if_neg hp, e, cut_app]
theorem cut_in {p d : List UInt8} (h : cutC d <+: cutC p) : In p d := by
  obtain ⟨r, hr⟩ := h
  by_cases h0 : r = []
  · subst h0; rw [List.append_nil] at hr; exact .inl (cutC_inj hr).symm
  · by_cases hd : d = []
    · exact .inr (.inl hd)
    · refine .inr (.inr ⟨joinS r, ?_⟩)
      rw [← join_cutC p, ← hr, join_app _ _ (cutC_ne hd) h0, join_cutC]; simp
theorem in_iff {p d : List UInt8} : In p d ↔ cutC d <+: cutC p := ⟨in_cut, cut_in⟩

/-- What is left of p behind d; p behind d. -/
def stripL (p d : List UInt8) : List UInt8 := joinS ((cutC p).drop (cutC d).length)
def behL (d q : List UInt8) : List UInt8 := joinS (cutC d ++ cutC q)
theorem beh_eq (d q : List UInt8) : behL d q = if q = [] then d else if d = [] then q else d ++ 47 :: q := by
  unfold behL
  by_cases h2 : q = []
  · subst h2; rw [if_pos rfl, cutC_nil, List.append_nil, join_cutC]
  · rw [if_neg h2]
    by_cases h1 : d = []
    · subst h1; rw [if_pos rfl, cutC_nil, List.nil_append, join_cutC]
    · rw [if_neg h1, join_app _ _ (cutC_ne h1) (cutC_ne h2), join_cutC, join_cutC]
theorem strip_cut {p d : List UInt8} (hp : mayL p = true) : cutC (stripL p d) = (cutC p).drop (cutC d).length := cutC_join (all_drop _ (may_all hp))
theorem strip_may {p d : List UInt8} (hp : mayL p = true) : mayL (stripL p d) = true := by
  obtain ⟨h1, h2, h3⟩ := may_parts hp
  unfold stripL
  rw [may_join (all_drop _ h3)]
  unfold joinOk allP
  rw [all_drop _ h3]
  have := join_drop_len (cutC p) (cutC d).length
  rw [join_cutC] at this
  simp only [Bool.and_true, Bool.and_eq_true, decide_eq_true_eq]
  exact ⟨by rw [List.length_drop]; omega, by omega⟩
theorem beh_cut {d q : List UInt8} (hd : mayL d = true) (hq : mayL q = true) : cutC (behL d q) = cutC d ++ cutC q :=
  cutC_join (by rw [List.all_append, may_all hd, may_all hq]; rfl)
theorem beh_strip {p d : List UInt8} (h : In p d) : behL d (stripL p d) = p ∨ mayL p = false := by
  cases hp : mayL p with
  | false => exact .inr rfl
  | true =>
    refine .inl ?_
    unfold behL
    rw [strip_cut hp]
    obtain ⟨r, hr⟩ := in_cut h
    rw [← hr, List.drop_left, hr, join_cutC]
theorem beh_strip' {p d : List UInt8} (hp : mayL p = true) (h : In p d) : behL d (stripL p d) = p := by
  rcases beh_strip h with e | e
  · exact e
  · rw [hp] at e; cases e
theorem strip_beh {d q : List UInt8} (hd : mayL d = true) (hq : mayL q = true) : stripL (behL d q) d = q := by
  unfold stripL
  rw [beh_cut hd hq, List.drop_left, join_cutC]
theorem beh_in {d q : List UInt8} (hd : mayL d = true) (hq : mayL q = true) : In (behL d q) d := cut_in (by rw [beh_cut hd hq]; exact List.prefix_append _ _)
theorem strip_self (p : List UInt8) : stripL p p = [] := by unfold stripL; rw [List.drop_length]; rfl
theorem strip_root {p : List UInt8} : stripL p [] = p := by unfold stripL; rw [cutC_nil]; exact join_cutC p
theorem strip_ne {p d : List UInt8} (hp : mayL p = true) (h : In p d) (hne : p ≠ d) : stripL p d ≠ [] := by
  intro e
  have := beh_strip' hp h
  rw [e, beh_eq, if_pos rfl] at this
  exact hne this.symm

theorem less_app : ∀ a x y : List UInt8, Op.bytesLess (a ++ x) (a ++ y) = Op.bytesLess x y
  | [], x, y => rfl
  | c :: a, x, y => by rw [List.cons_append, List.cons_append, Op.bytesLess]; simp [less_app a x y, UInt8.lt_irrefl]
theorem less_nil (x : List UInt8) : Op.bytesLess x [] = false := by cases x <;> rfl
theorem nil_less {x : List UInt8} (h : x ≠ []) : Op.bytesLess [] x = true := by cases x with | nil => exact absurd rfl h | cons _ _ => rfl
theorem beh_less (d s r : List UInt8) : Op.bytesLess (behL d s) (behL d r) = Op.bytesLess s r := by
  rw [beh_eq, beh_eq]
  by_cases h1 : s = []
  · subst h1
    by_cases h2 : r = []
    · subst h2; rw [if_pos rfl, less_irr, less_irr]
    · rw [if_pos rfl, if_neg h2, nil_less h2]
      by_cases h3 : d = []
      · rw [if_pos h3, h3, nil_less h2]
      · rw [if_neg h3]
        have := less_app d [] (47 :: r)
        rw [List.append_nil] at this
        rw [this]; rfl
  · rw [if_neg h1]
    by_cases h2 : r = []
    · subst h2
      rw [if_pos rfl, less_nil]
      by_cases h3 : d = []
      · rw [if_pos h3, h3, less_nil]
      · rw [if_neg h3]
        have := less_app d (47 :: s) []
        rw [List.append_nil] at this
        rw [this]; rfl
    · rw [if_neg h2]
      by_cases h3 : d = []
      · rw [if_pos h3, if_pos h3]
      · rw [if_neg h3, if_neg h3, less_app, Op.bytesLess]; simp [UInt8.lt_irrefl]
theorem strip_less {p q d : List UInt8} (hp : mayL p = true) (hq : mayL q = true) (h : In p d) (k : In q d) : Op.bytesLess (stripL p d) (stripL q d) = Op.bytesLess p q := by
  have := beh_less d (stripL p d) (stripL q d)
  rw [beh_strip' hp h, beh_strip' hq k] at this
  exact this.symm

/-- A path's parent. -/
theorem parent_ok {p : List UInt8} (hp : mayL p = true) (hne : p ≠ []) : parentOk p = true := by unfold parentOk; simp [hp, hne]
theorem parent_not {p : List UInt8} (h : parentOk p = true) : p ≠ [] ∧ mayL p = true := by
  unfold parentOk at h
  rw [Bool.and_eq_true] at h
  refine ⟨fun e => ?_, h.2⟩
  rw [e] at h; simp at h
theorem parent_cut {p : List UInt8} (hp : mayL p = true) (hne : p ≠ []) : cutC p = cutC (parentL p) ++ [baseL p] := by
  obtain ⟨q, x, h1, h2, _, _, h5⟩ := back_parts hne hp
  rw [h1, h2]; exact h5
theorem parent_may {p : List UInt8} (hp : mayL p = true) (hne : p ≠ []) : mayL (parentL p) = true := by
  obtain ⟨q, x, h1, h2, h3, _, _⟩ := back_parts hne hp
  rw [h1]; exact h3
theorem base_part {p : List UInt8} (hp : mayL p = true) (hne : p ≠ []) : partL (baseL p) = true := by
  obtain ⟨q, x, h1, h2, _, h4, _⟩ := back_parts hne hp
  rw [h2]; exact h4
theorem in_parent {p : List UInt8} (hp : mayL p = true) (hne : p ≠ []) : In p (parentL p) := cut_in (by rw [parent_cut hp hne]; exact List.prefix_append _ _)
theorem parent_ne {p : List UInt8} (hp : mayL p = true) (hne : p ≠ []) : parentL p ≠ p := by
  intro e
  have := congrArg List.length (parent_cut hp hne)
  rw [e] at this
  simp at this
theorem parent_less {p : List UInt8} (hp : mayL p = true) (hne : p ≠ []) : Op.bytesLess (parentL p) p = true := by
  rcases less_three (parentL p) p with h | h | h
  · exact h
  · exact absurd h (parent_ne hp hne)
  · rw [not_less p _ (in_parent hp hne).pre] at h; cases h
theorem up_in {p d : List UInt8} (hp : mayL p = true) (hne : p ≠ []) (h : In p d) (hd : p ≠ d) : In (parentL p) d := by
  obtain ⟨r, hr⟩ := in_cut h
  have hc := parent_cut hp hne
  have hr0 : r ≠ [] := by
    intro e
    rw [e, List.append_nil] at hr
    exact hd (cutC_inj hr).symm
  refine cut_in ⟨r.dropLast, ?_⟩
  have e : (cutC d ++ r).dropLast = (cutC (parentL p) ++ [baseL p]).dropLast := by rw [hr, hc]
  rw [List.dropLast_append_of_ne_nil hr0, List.dropLast_concat] at e
  exact e
theorem strip_parent {p d : List UInt8} (hp : mayL p = true) (hne : p ≠ []) (h : In p d) (hd : p ≠ d) :
    parentL (stripL p d) = stripL (parentL p) d ∧ baseL (stripL p d) = baseL p := by
  have hs := strip_ne hp h hd
  have hsm : mayL (stripL p d) = true := strip_may hp
  have c1 := parent_cut hsm hs
  have c2 := strip_cut (d := d) hp
  rw [parent_cut hp hne] at c2
  obtain ⟨r, hr⟩ := in_cut (up_in hp hne h hd)
  rw [← hr, List.append_assoc, List.drop_left] at c2
  rw [c2] at c1
  have e := List.append_inj' c1 rfl
  refine ⟨?_, by simpa using e.2.symm⟩
  apply cutC_inj
  rw [← e.1, strip_cut (parent_may hp hne), ← hr, List.drop_left]
theorem cutC_part {x : List UInt8} (h : partL x = true) : cutC x = [x] := by
  have := cutC_join (xs := [x]) (by simp [h])
  rwa [join_one] at this
theorem base_beh {p : List UInt8} (hp : mayL p = true) (hne : p ≠ []) : behL (parentL p) (baseL p) = p := by
  unfold behL
  rw [cutC_part (base_part hp hne), ← parent_cut hp hne, join_cutC]
theorem base_less {p q : List UInt8} (hp : mayL p = true) (h1 : p ≠ []) (hq : mayL q = true) (h2 : q ≠ []) (e : parentL p = parentL q) : Op.bytesLess (baseL p) (baseL q) = Op.bytesLess p q := by
  have := beh_less (parentL p) (baseL p) (baseL q)
  rw [base_beh hp h1, e, base_beh hq h2] at this
  exact this.symm
/-- What stands under what is left of a path. -/
theorem in_strip {p d q : List UInt8} (hp : mayL p = true) (hd : mayL d = true) (hq : mayL q = true) (h : In p d) : In (stripL p d) q ↔ In p (behL d q) := by
  rw [in_iff, in_iff, strip_cut hp, beh_cut hd hq]
  obtain ⟨r, hr⟩ := in_cut h
  rw [← hr, List.drop_left, List.prefix_append_right_inj]
theorem strip_strip {p d q : List UInt8} (hp : mayL p = true) (hd : mayL d = true) (hq : mayL q = true) : stripL (stripL p d) q = stripL p (behL d q) := by
  unfold stripL
  rw [show cutC (joinS ((cutC p).drop (cutC d).length)) = (cutC p).drop (cutC d).length from strip_cut hp, beh_cut hd hq, List.drop_drop, List.length_append]
theorem beh_root (q : List UInt8) : behL [] q = q := by
  rw [beh_eq]
  by_cases h : q = []
  · rw [if_pos h, h]
  · rw [if_neg h, if_pos rfl]
theorem beh_end (d : List UInt8) : behL d [] = d := by rw [beh_eq, if_pos rfl]
theorem beh_inj {d q r : List UInt8} (hd : mayL d = true) (hq : mayL q = true) (hr : mayL r = true) (h : behL d q = behL d r) : q = r := by
  rw [← strip_beh hd hq, h, strip_beh hd hr]
/-- A path does not begin with a stroke. -/
theorem may_front {p : List UInt8} (hp : mayL p = true) : ¬ [47] <+: p := by
  rintro ⟨r, hr⟩
  have hne : p ≠ [] := by rw [← hr]; simp
  have h3 := may_all hp
  have e : cutC p = [] :: cutL r := by
    unfold cutC
    rw [if_neg hne, ← hr]
    exact cut_stroke r
  rw [e] at h3
  have := (part_parts (List.all_eq_true.1 h3 [] (by simp))).1
  exact this rfl
/-- What is left, as it is reckoned: p's bytes behind d's, a stroke at the front passed over. -/
theorem strip_code {p d : List UInt8} (hp : mayL p = true) (h : In p d) : (if [47] <+: p.drop d.length then (p.drop d.length).drop 1 else p.drop d.length) = stripL p d := by
  have e := beh_strip' hp h
  rw [beh_eq] at e
  by_cases h1 : stripL p d = []
  · rw [if_pos h1] at e
    rw [h1, ← e, List.drop_length]
    rfl
  · rw [if_neg h1] at e
    by_cases h2 : d = []
    · rw [if_pos h2] at e
      subst h2
      rw [List.length_nil, List.drop_zero, if_neg (may_front hp)]
      exact e.symm
    · rw [if_neg h2] at e
      have e2 : p.drop d.length = 47 :: stripL p d := by rw [← e, List.drop_left, e]
      rw [e2, if_pos ⟨stripL p d, rfl⟩]
      rfl

end Go.Proofs.YtomomeckgiiapaaDoor.Hog
