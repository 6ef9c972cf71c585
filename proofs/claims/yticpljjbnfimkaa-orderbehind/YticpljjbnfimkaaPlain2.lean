/- Plain facts on paths: order, parents, bases, longer paths. Nothing here names the program. -/
import Derived.Test.YticpljjbnfimkaaPlain
namespace Go.Proofs.Yticpljjbnfimkaa.Hog
open Go

theorem not_less : ∀ p q : List UInt8, q <+: p → Op.bytesLess p q = false
  | [], q, h => by rw [List.prefix_nil.1 h]; rfl
  | a :: p, [], _ => by rw [Op.bytesLess]
  | a :: p, b :: q, h => by
    obtain ⟨h1, h2⟩ := List.cons_prefix_cons.1 h
    subst h1
    rw [Op.bytesLess, not_less p q h2]
    simp [UInt8.lt_irrefl]

theorem hasPrefix_iff (p d : List UInt8) : Lib.hasPrefix p d = true ↔ d <+: p := by unfold Lib.hasPrefix; exact List.isPrefixOf_iff_prefix

/-- p is d, or stands in it. -/
def In (p d : List UInt8) : Prop := p = d ∨ d = [] ∨ d ++ [47] <+: p

theorem under_iff (p d : List UInt8) : underL p d = true ↔ mayL p = true ∧ mayL d = true ∧ In p d := by
  unfold underL In
  simp only [Bool.and_eq_true, Bool.or_eq_true, beq_iff_eq, List.isEmpty_iff, hasPrefix_iff, and_assoc, or_assoc]

theorem In.pre {p d : List UInt8} (h : In p d) : d <+: p := by
  rcases h with rfl | rfl | h
  · exact List.prefix_refl _
  · exact List.nil_prefix
  · exact (List.prefix_append d [47]).trans h

theorem In.trans {p q r : List UInt8} (h : In p q) (k : In q r) : In p r := by
  rcases k with rfl | rfl | k
  · exact h
  · exact .inr (.inl rfl)
  · exact .inr (.inr (k.trans h.pre))

theorem In.anti {p q : List UInt8} (h : In p q) (k : In q p) : p = q := by
  have h1 := h.pre
  have h2 := k.pre
  exact (List.IsPrefix.eq_of_length h2 (Nat.le_antisymm h2.length_le h1.length_le))

theorem In.two {p q r : List UInt8} (h : In p q) (k : In p r) : In q r ∨ In r q := by
  rcases h with rfl | rfl | h
  · exact .inl k
  · exact .inr (.inr (.inl rfl))
  · rcases k with rfl | rfl | k
    · exact .inr (.inr (.inr h))
    · exact .inl (.inr (.inl rfl))
    · have snoc : ∀ a b : List UInt8, a ++ [47] <+: b ++ [47] → In b a := by
        intro a b hab
        rcases List.prefix_concat_iff.1 (by simpa using hab) with e | e
        · exact .inl (by simpa using e.symm)
        · exact .inr (.inr (by simpa using e))
      rcases List.prefix_or_prefix_of_prefix h k with e | e
      · exact .inr (snoc q r e)
      · exact .inl (snoc r q e)

theorem order1 {p q : List UInt8} (h : underL p q = true) : Op.bytesLess p q = false := not_less p q ((under_iff p q).1 h).2.2.pre
theorem order2 {p q : List UInt8} (h : underL p q = true) (k : underL q p = true) : p = q := ((under_iff p q).1 h).2.2.anti ((under_iff q p).1 k).2.2
theorem order3 {p q r : List UInt8} (h : underL p q = true) (k : underL p r = true) : underL q r = true ∨ underL r q = true := by
  obtain ⟨_, h2, h3⟩ := (under_iff p q).1 h
  obtain ⟨_, k2, k3⟩ := (under_iff p r).1 k
  rcases h3.two k3 with e | e
  · exact .inl ((under_iff q r).2 ⟨h2, k2, e⟩)
  · exact .inr ((under_iff r q).2 ⟨k2, h2, e⟩)
theorem order4 {p q r : List UInt8} (h : underL p q = true) (k : underL q r = true) : underL p r = true := by
  obtain ⟨h1, _, h3⟩ := (under_iff p q).1 h
  obtain ⟨_, k2, k3⟩ := (under_iff q r).1 k
  exact (under_iff p r).2 ⟨h1, k2, h3.trans k3⟩

/-- A text without a stroke has one part; with one, its last part stands behind the last stroke. -/
theorem cut_last (a b : List UInt8) (h : 47 ∉ b) : cutL (a ++ 47 :: b) = cutL a ++ [b] := by rw [cut_app, cut_no b h]

theorem data_at (s : ByteArray) (j : Nat) (h : j < s.size) : s.data.toList[j]? = some (s.data[j]!) := by
  have hj : j < s.data.size := h
  simp [getElem!_pos s.data j hj]

theorem last_cases (s : ByteArray) : (Lib.lastIndexByte s 47 = -1 ∧ 47 ∉ s.data.toList) ∨
    ∃ i : Nat, Lib.lastIndexByte s 47 = i ∧ i < s.size ∧ s.data.toList = s.data.toList.take i ++ 47 :: s.data.toList.drop (i + 1) ∧ 47 ∉ s.data.toList.drop (i + 1) := by
  have byte : ∀ u : UInt8, ((u.toNat : Nat) : Int) = 47 → u = 47 := fun u h => Lib.byte_eq_of_toNat (b := 47) (by rw [h]; rfl)
  have noo : ∀ i, (∀ j, i ≤ j → j < s.size → ((s.data[j]!).toNat : Int) ≠ 47) → 47 ∉ s.data.toList.drop i := by
    intro i hn hm
    obtain ⟨k, hk, hv⟩ := List.getElem_of_mem hm
    rw [List.length_drop, ← size_len] at hk
    have h2 : s.data.toList[i + k]? = some 47 := by
      rw [List.getElem_drop] at hv
      exact List.getElem?_eq_some_iff.2 ⟨_, hv⟩
    rw [data_at s (i + k) (by omega)] at h2
    have h3 : s.data[i + k]! = 47 := by simpa using h2
    exact hn (i + k) (by omega) (by omega) (by rw [h3]; rfl)
  rcases Lib.lastIndexByte_spec s 47 with ⟨e, hn⟩ | ⟨i, hi, e, hc, hn⟩
  · exact .inl ⟨e, by have := noo 0 (fun j _ hj => hn j hj); simpa using this⟩
  · refine .inr ⟨i, e, hi, ?_, noo (i + 1) (fun j h1 h2 => hn j (by omega) h2)⟩
    have hil : i < s.data.toList.length := by rw [← size_len]; exact hi
    have hv : s.data.toList[i] = 47 := by
      have h2 := data_at s i hi
      rw [byte _ hc] at h2
      exact (List.getElem?_eq_some_iff.1 h2).2
    conv => lhs; rw [← List.take_append_drop i s.data.toList, List.drop_eq_getElem_cons hil, hv]

/-- What stands ahead of the last stroke is the last part's parent; what stands behind it is the last part. -/
theorem parent_take (s : ByteArray) : joinS (cutL s.data.toList).dropLast = s.data.toList.take (max (Lib.lastIndexByte s 47) 0).toNat := by
  rcases last_cases s with ⟨e, h⟩ | ⟨i, e, _, h, hn⟩
  · rw [e, cut_no _ h, show (max (-1 : Int) 0).toNat = 0 from rfl]; simp [join_nil]
  · have h2 : cutL s.data.toList = cutL (s.data.toList.take i) ++ [s.data.toList.drop (i + 1)] := by
      conv => lhs; rw [h]
      exact cut_last _ _ hn
    rw [h2, List.dropLast_concat, join_cut, e]
    congr 1
    omega
theorem base_drop (s : ByteArray) : (cutL s.data.toList).getLastD [] = s.data.toList.drop (Lib.lastIndexByte s 47 + 1).toNat := by
  rcases last_cases s with ⟨e, h⟩ | ⟨i, e, _, h, hn⟩
  · rw [e, cut_no _ h]; simp
  · have h2 : cutL s.data.toList = cutL (s.data.toList.take i) ++ [s.data.toList.drop (i + 1)] := by
      conv => lhs; rw [h]
      exact cut_last _ _ hn
    rw [h2, e, show ((i : Int) + 1).toNat = i + 1 by omega]
    simp
theorem last_bounds (s : ByteArray) : -1 ≤ Lib.lastIndexByte s 47 ∧ Lib.lastIndexByte s 47 < s.size := by
  rcases last_cases s with ⟨e, h⟩ | ⟨i, e, hi, h, hn⟩
  · rw [e]; omega
  · rw [e]; omega

/-- A path that is not the root: its parts are its parent's and its base. -/
theorem back_parts {p : List UInt8} (hp : p ≠ []) (hm : mayL p = true) :
    ∃ q x, parentL p = q ∧ baseL p = x ∧ mayL q = true ∧ partL x = true ∧ cutC p = cutC q ++ [x] := by
  obtain ⟨h200, h10, hall⟩ := may_parts hm
  have hC : cutC p = cutL p := by unfold cutC; rw [if_neg hp]
  obtain ⟨x, hsplit⟩ : ∃ x, cutL p = (cutL p).dropLast ++ [x] := ⟨_, (List.dropLast_concat_getLast (cut_ne p)).symm⟩
  have hpar : parentL p = joinS (cutL p).dropLast := by
    unfold parentL parentOk
    rw [if_pos (by simp [hm, hp])]
  have hbase : baseL p = x := by
    unfold baseL
    rw [if_pos hm, hsplit]; simp
  rw [hC] at hall h10
  have hall' : (cutL p).dropLast.all partL = true ∧ partL x = true := by
    rw [hsplit, List.all_append] at hall
    simpa using hall
  have hcq : cutC (joinS (cutL p).dropLast) = (cutL p).dropLast := cutC_join hall'.1
  refine ⟨_, x, hpar, hbase, ?_, hall'.2, ?_⟩
  · unfold mayL allP
    rw [hcq]
    have hlen : (joinS (cutL p).dropLast).length ≤ p.length := by
      have e1 := congrArg List.length (join_cut p)
      rw [hsplit] at e1
      by_cases hd : (cutL p).dropLast = []
      · rw [hd]; simp [join_nil]
      · rw [join_app _ _ hd (by simp)] at e1; simp at e1; omega
    have h10' : (cutL p).dropLast.length ≤ 10 := by rw [List.length_dropLast]; omega
    simp only [Bool.and_eq_true, decide_eq_true_eq]
    exact ⟨by omega, h10', hall'.1⟩
  · rw [hcq, hC]; exact hsplit

theorem joinOk_snoc {p q x : List UInt8} (hm : mayL p = true) (hc : cutC p = cutC q ++ [x]) : joinOk (cutC q ++ [x]) = true ∧ joinS (cutC q ++ [x]) = p := by
  rw [← hc]; exact ⟨joinOk_cut hm, join_cutC p⟩

theorem under_parent {p q x : List UInt8} (hp : mayL p = true) (hq : mayL q = true) (hx : x ≠ []) (hc : cutC p = cutC q ++ [x]) : underL p q = true ∧ underL q p = false := by
  have e : p = joinS (cutC q ++ [x]) := by rw [← hc, join_cutC]
  have hIn : In p q ∧ q.length < p.length := by
    by_cases hq0 : q = []
    · subst hq0
      refine ⟨.inr (.inl rfl), ?_⟩
      rw [e]
      have : cutC [] = [] := rfl
      rw [this, List.nil_append, join_one]
      cases x with
      | nil => exact absurd rfl hx
      | cons a t => simp
    · have hne : cutC q ≠ [] := by unfold cutC; rw [if_neg hq0]; exact cut_ne q
      have e2 : p = q ++ 47 :: x := by rw [e, join_app _ _ hne (by simp), join_cutC, join_one]
      refine ⟨.inr (.inr ⟨x, by rw [e2]; simp⟩), by rw [e2]; simp⟩
  refine ⟨(under_iff p q).2 ⟨hp, hq, hIn.1⟩, ?_⟩
  cases hu : underL q p with
  | false => rfl
  | true => have := (order2 ((under_iff p q).2 ⟨hp, hq, hIn.1⟩) hu); rw [this] at hIn; omega

theorem under_self {p : List UInt8} (hp : mayL p = true) : underL p p = true := (under_iff p p).2 ⟨hp, hp, .inl rfl⟩
theorem under_root {p : List UInt8} (hp : mayL p = true) : underL p [] = true := (under_iff p []).2 ⟨hp, may_root, .inr (.inl rfl)⟩
theorem under_not {p q : List UInt8} (hp : mayL p = false) : underL p q = false := by unfold underL; rw [hp]; rfl
theorem under_not2 {p q : List UInt8} (hq : mayL q = false) : underL p q = false := by unfold underL; rw [hq]; simp

/-- Two paths, the one's parts behind the other's. -/
theorem longer {p q : List UInt8} (hp : mayL p = true) (hq : mayL q = true) :
    (joinS (cutC p ++ cutC q)).length = p.length + q.length + (if p ≠ [] ∧ q ≠ [] then 1 else 0) ∧
    joinOk (cutC p ++ cutC q) = (decide ((cutC p ++ cutC q).length ≤ 10) && decide (p.length + q.length + (if p ≠ [] ∧ q ≠ [] then 1 else 0) ≤ 200)) ∧
    (joinOk (cutC p ++ cutC q) = true → underL (joinS (cutC p ++ cutC q)) p = true ∧ splitL (joinS (cutC p ++ cutC q)) = cutC p ++ cutC q) := by
  have hpa := (may_parts hp).2.2
  have hqa := (may_parts hq).2.2
  have hall : (cutC p ++ cutC q).all partL = true := by rw [List.all_append, hpa, hqa]; rfl
  have c0 : cutC [] = [] := rfl
  have hj : joinS (cutC p ++ cutC q) = if p ≠ [] ∧ q ≠ [] then p ++ 47 :: q else p ++ q := by
    by_cases h1 : p = []
    · subst h1; rw [c0, List.nil_append, join_cutC, if_neg (by simp), List.nil_append]
    · by_cases h2 : q = []
      · subst h2; rw [c0, List.append_nil, join_cutC, if_neg (by simp), List.append_nil]
      · rw [if_pos ⟨h1, h2⟩, join_app _ _ (by unfold cutC; rw [if_neg h1]; exact cut_ne p) (by unfold cutC; rw [if_neg h2]; exact cut_ne q), join_cutC, join_cutC]
  have hl : (joinS (cutC p ++ cutC q)).length = p.length + q.length + (if p ≠ [] ∧ q ≠ [] then 1 else 0) := by
    rw [hj]; split <;> simp <;> omega
  refine ⟨hl, ?_, ?_⟩
  · unfold joinOk allP
    rw [hall, hl, Bool.and_true]
  · intro hok
    have hm := joinOk_may hok
    refine ⟨(under_iff _ p).2 ⟨hm, hp, ?_⟩, ?_⟩
    · rw [hj]
      by_cases h1 : p = []
      · exact .inr (.inl h1)
      · by_cases h2 : q = []
        · rw [if_neg (by simp [h2]), h2, List.append_nil]; exact .inl rfl
        · rw [if_pos ⟨h1, h2⟩]; exact .inr (.inr ⟨q, by simp⟩)
    · unfold splitL
      rw [if_pos hm, cutC_join hall]

end Go.Proofs.Yticpljjbnfimkaa.Hog
