/- In which order named things come, each behind what it refers to, always the least that could come next: plainly. Nothing here names the program. -/
import Derived.Test.YticpljjbnfimkaaPlainK
namespace Go.Proofs.Yticpljjbnfimkaa.Hog
open Go

section
variable {N T : Type}

/-- What an item must come behind: the other ones that it refers to and that are there. -/
def Needs (is : List (N × List N × T)) (i : N × List N × T) (x : N) : Prop := x ∈ i.2.1 ∧ x ∈ is.map (·.1) ∧ x ≠ i.1
/-- x could come next behind these. -/
def Can (is : List (N × List N × T)) (o : List N) (x : N) : Prop := ¬ x ∈ o ∧ ∃ i ∈ is, i.1 = x ∧ ∀ y, Needs is i y → y ∈ o
/-- x is the least that could. -/
def Best (lt : N → N → Prop) (is : List (N × List N × T)) (o : List N) (x : N) : Prop := Can is o x ∧ ∀ y, Can is o y → ¬ lt y x
theorem Best.one {lt : N → N → Prop} (tot : ∀ x y, ¬ lt x y → ¬ lt y x → x = y) {is : List (N × List N × T)} {o : List N} {x y : N} (h : Best lt is o x) (k : Best lt is o y) : x = y := tot x y (k.2 x h.1) (h.2 y k.1)
/-- Each of these was the least that could come, behind those ahead. -/
def Greedy (lt : N → N → Prop) (is : List (N × List N × T)) (o : List N) : Prop := ∀ (k : Nat) x, o[k]? = some x → Best lt is (o.take k) x
theorem Greedy.nil (lt : N → N → Prop) (is : List (N × List N × T)) : Greedy lt is [] := fun k x h => by simp at h
theorem Greedy.snoc {lt : N → N → Prop} {is : List (N × List N × T)} {o : List N} {x : N} (h : Greedy lt is o) (k : Best lt is o x) : Greedy lt is (o ++ [x]) := by
  intro j y hy
  by_cases e : j < o.length
  · rw [List.getElem?_append_left e] at hy
    rw [List.take_append_of_le_length (by omega)]
    exact h j y hy
  · have hj : j = o.length := by have := (List.getElem?_eq_some_iff.1 hy).1; rw [List.length_append] at this; simp at this; omega
    subst hj
    rw [List.getElem?_append_right (Nat.le_refl _), Nat.sub_self] at hy
    simp at hy
    subst hy
    rw [List.take_left]
    exact k
theorem Greedy.take {lt : N → N → Prop} {is : List (N × List N × T)} {o : List N} (h : Greedy lt is o) (n : Nat) : Greedy lt is (o.take n) := by
  intro j y hy
  rw [List.getElem?_take] at hy
  split at hy
  · rename_i hjn
    rw [List.take_take, Nat.min_eq_left (by omega)]
    exact h j y hy
  · cases hy
/-- Two such lists are one, as far as both go. -/
theorem Greedy.same {lt : N → N → Prop} (tot : ∀ x y, ¬ lt x y → ¬ lt y x → x = y) {is : List (N × List N × T)} {o p : List N} (h : Greedy lt is o) (k : Greedy lt is p) : ∀ n, n ≤ o.length → n ≤ p.length → o.take n = p.take n
  | 0, _, _ => by rw [List.take_zero, List.take_zero]
  | n + 1, h1, h2 => by
    have ih := Greedy.same tot h k n (by omega) (by omega)
    have ho : o[n]? = some o[n] := List.getElem?_eq_getElem (by omega)
    have hp : p[n]? = some p[n] := List.getElem?_eq_getElem (by omega)
    have a := h n _ ho
    have b := k n _ hp
    rw [ih] at a
    rw [List.take_add_one, List.take_add_one, ih, ho, hp, a.one tot b]
theorem Greedy.there {lt : N → N → Prop} {is : List (N × List N × T)} {o : List N} (h : Greedy lt is o) {x : N} (hx : x ∈ o) : x ∈ is.map (·.1) := by
  obtain ⟨k, hk⟩ := List.getElem?_of_mem hx
  obtain ⟨i, hi, e, _⟩ := (h k x hk).1.2
  exact List.mem_map.2 ⟨i, hi, e⟩
theorem Greedy.each {lt : N → N → Prop} {is : List (N × List N × T)} {o : List N} (h : Greedy lt is o) : o.Nodup := by
  refine List.pairwise_iff_getElem.2 fun a b ha hb hab e => ?_
  have := (h b o[b] (List.getElem?_eq_getElem hb)).1.1
  refine this ?_
  rw [← e]
  exact List.mem_of_getElem? (i := a) (by rw [List.getElem?_take_of_lt hab]; exact List.getElem?_eq_getElem ha)
theorem Greedy.few {lt : N → N → Prop} {is : List (N × List N × T)} {o : List N} (h : Greedy lt is o) : o.length ≤ is.length := by
  classical
  have := nodup_le (m := is.map (·.1)) h.each fun x hx => h.there hx
  rwa [List.length_map] at this
/-- The order of these items, or that there is none. -/
inductive OrdIs (lt : N → N → Prop) (is : List (N × List N × T)) : Option (List N) → Prop
  | all {o : List N} (h : Greedy lt is o) (k : o.length = is.length) : OrdIs lt is (some o)
  | none {o : List N} (h : Greedy lt is o) (k : o.length < is.length) (n : ∀ x, ¬ Can is o x) : OrdIs lt is Option.none
theorem OrdIs.one {lt : N → N → Prop} (tot : ∀ x y, ¬ lt x y → ¬ lt y x → x = y) {is : List (N × List N × T)} {a b : Option (List N)} (h : OrdIs lt is a) (k : OrdIs lt is b) : a = b := by
  have key : ∀ {o p : List N}, Greedy lt is o → o.length = is.length → Greedy lt is p → p.length < is.length → (∀ x, ¬ Can is p x) → False := fun {o p} ho hl hp hs hn => by
    have e := ho.same tot hp p.length (by omega) (Nat.le_refl _)
    rw [List.take_length] at e
    have := (ho p.length o[p.length] (List.getElem?_eq_getElem (by omega))).1
    rw [e] at this
    exact hn _ this
  cases h with
  | all h1 h2 =>
    cases k with
    | all k1 k2 =>
      have e := h1.same tot k1 is.length (by omega) (by omega)
      rw [List.take_of_length_le (by omega), List.take_of_length_le (by omega)] at e
      rw [e]
    | none k1 k2 k3 => exact (key h1 h2 k1 k2 k3).elim
  | none h1 h2 h3 =>
    cases k with
    | all k1 k2 => exact (key k1 k2 h1 h2 h3).elim
    | none _ _ _ => rfl
/-- Among finitely many there is a least one that could come. -/
theorem can_least {lt : N → N → Prop} (irr : ∀ x, ¬ lt x x) (tr : ∀ x y z, lt x y → lt y z → lt x z) (is : List (N × List N × T)) (o : List N) : (∀ x, ¬ Can is o x) ∨ ∃ x, Best lt is o x := by
  classical
  have key : ∀ l : List N, (∀ x ∈ l, ¬ Can is o x) ∨ ∃ x ∈ l, Can is o x ∧ ∀ y ∈ l, Can is o y → ¬ lt y x := by
    intro l
    induction l with
    | nil => exact .inl fun x hx => absurd hx (by simp)
    | cons a l ih =>
      by_cases ha : Can is o a
      · rcases ih with ih | ⟨x, hx, hc, hl⟩
        · refine .inr ⟨a, List.mem_cons_self, ha, fun y hy hy2 => ?_⟩
          rcases List.mem_cons.1 hy with rfl | hy
          · exact irr y
          · exact absurd hy2 (ih y hy)
        · by_cases hxa : lt a x
          · refine .inr ⟨a, List.mem_cons_self, ha, fun y hy hy2 => ?_⟩
            rcases List.mem_cons.1 hy with rfl | hy
            · exact irr y
            · exact fun h => hl y hy hy2 (tr _ _ _ h hxa)
          · refine .inr ⟨x, List.mem_cons_of_mem _ hx, hc, fun y hy hy2 => ?_⟩
            rcases List.mem_cons.1 hy with rfl | hy
            · exact hxa
            · exact hl y hy hy2
      · rcases ih with ih | ⟨x, hx, hc, hl⟩
        · refine .inl fun x hx => ?_
          rcases List.mem_cons.1 hx with rfl | hx
          · exact ha
          · exact ih x hx
        · refine .inr ⟨x, List.mem_cons_of_mem _ hx, hc, fun y hy hy2 => ?_⟩
          rcases List.mem_cons.1 hy with rfl | hy
          · exact absurd hy2 ha
          · exact hl y hy hy2
  have mem : ∀ x, Can is o x → x ∈ is.map (·.1) := fun x hx => by
    obtain ⟨i, hi, e, _⟩ := hx.2
    exact List.mem_map.2 ⟨i, hi, e⟩
  rcases key (is.map (·.1)) with h | ⟨x, _, hc, hl⟩
  · exact .inl fun x hx => h x (mem x hx) hx
  · exact .inr ⟨x, hc, fun y hy => hl y (mem y hy) hy⟩
theorem ord_ex {lt : N → N → Prop} (irr : ∀ x, ¬ lt x x) (tr : ∀ x y z, lt x y → lt y z → lt x z) (is : List (N × List N × T)) : ∃ a, OrdIs lt is a := by
  have key : ∀ n (o : List N), Greedy lt is o → is.length - o.length ≤ n → ∃ a, OrdIs lt is a := by
    intro n
    induction n with
    | zero => exact fun o ho hn => ⟨_, .all ho (by have := ho.few; omega)⟩
    | succ n ih =>
      intro o ho hn
      by_cases hl : o.length = is.length
      · exact ⟨_, .all ho hl⟩
      · rcases can_least irr tr is o with h | ⟨x, hx⟩
        · exact ⟨_, .none ho (by have := ho.few; omega) h⟩
        · exact ih _ (ho.snoc hx) (by rw [List.length_append]; simp; omega)
  exact key is.length [] (Greedy.nil lt is) (by simp)
/-- In which order items are handed in does not matter. -/
theorem can_perm {is js : List (N × List N × T)} (h : is.Perm js) {o : List N} {x : N} (k : Can is o x) : Can js o x := by
  obtain ⟨i, hi, e, hn⟩ := k.2
  exact ⟨k.1, i, h.mem_iff.1 hi, e, fun y hy => hn y ⟨hy.1, (h.map _).mem_iff.2 hy.2.1, hy.2.2⟩⟩
theorem best_perm {lt : N → N → Prop} {is js : List (N × List N × T)} (h : is.Perm js) {o : List N} {x : N} (k : Best lt is o x) : Best lt js o x := ⟨can_perm h k.1, fun y hy => k.2 y (can_perm h.symm hy)⟩
theorem greedy_perm {lt : N → N → Prop} {is js : List (N × List N × T)} (h : is.Perm js) {o : List N} (k : Greedy lt is o) : Greedy lt js o := fun j x hx => best_perm h (k j x hx)
theorem ord_perm {lt : N → N → Prop} {is js : List (N × List N × T)} (h : is.Perm js) {a : Option (List N)} (k : OrdIs lt is a) : OrdIs lt js a := by
  cases k with
  | all k1 k2 => exact .all (greedy_perm h k1) (k2.trans h.length_eq)
  | none k1 k2 k3 => exact .none (greedy_perm h k1) (by rw [← h.length_eq]; exact k2) fun x hx => k3 x (can_perm h.symm hx)
/-- Each comes behind what it must come behind. -/
theorem Greedy.behind {lt : N → N → Prop} {is : List (N × List N × T)} (hu : (is.map (·.1)).Nodup) {o : List N} (h : Greedy lt is o) {i : N × List N × T} (hi : i ∈ is) {k : Nat} (hk : o[k]? = some i.1) {y : N} (hy : Needs is i y) : y ∈ o.take k := by
  obtain ⟨j, hj, e, hn⟩ := (h k i.1 hk).1.2
  obtain ⟨a, ha⟩ := List.getElem?_of_mem hi
  obtain ⟨b, hb⟩ := List.getElem?_of_mem hj
  have ea : (is.map (·.1))[a]? = some i.1 := by rw [List.getElem?_map, ha]; rfl
  have eb : (is.map (·.1))[b]? = some i.1 := by rw [List.getElem?_map, hb, ← e]; rfl
  have : a = b := (List.getElem?_inj (List.getElem?_eq_some_iff.1 ea).1 hu).1 (ea.trans eb.symm)
  subst this
  rw [ha] at hb
  cases hb
  exact hn y hy
theorem Greedy.full {lt : N → N → Prop} {is : List (N × List N × T)} {o : List N} (h : Greedy lt is o) (k : o.length = is.length) {x : N} (hx : x ∈ is.map (·.1)) : x ∈ o := by
  classical
  refine Classical.byContradiction fun hn => ?_
  have h1 : (x :: o).Nodup := List.nodup_cons.2 ⟨hn, h.each⟩
  have := nodup_le (m := is.map (·.1)) h1 fun y hy => by
    rcases List.mem_cons.1 hy with rfl | hy
    · exact hx
    · exact h.there hy
  rw [List.length_cons, List.length_map, k] at this
  omega
/-- An item more that all others are referred to by, and that nobody refers to. -/
theorem can_last {is : List (N × List N × T)} {z : N × List N × T} (hz : ¬ z.1 ∈ is.map (·.1)) (hr : ∀ i ∈ is, ¬ z.1 ∈ i.2.1) {o : List N} {x : N} (hx : x ≠ z.1) : Can (z :: is) o x ↔ Can is o x := by
  have need : ∀ i ∈ is, ∀ y, Needs (z :: is) i y ↔ Needs is i y := fun i hi y => by
    constructor
    · rintro ⟨h1, h2, h3⟩
      refine ⟨h1, ?_, h3⟩
      rw [List.map_cons] at h2
      rcases List.mem_cons.1 h2 with rfl | h2
      · exact absurd h1 (hr i hi)
      · exact h2
    · rintro ⟨h1, h2, h3⟩
      exact ⟨h1, by rw [List.map_cons]; exact List.mem_cons_of_mem _ h2, h3⟩
  constructor
  · rintro ⟨h1, i, hi, e, hn⟩
    rcases List.mem_cons.1 hi with rfl | hi
    · exact absurd e.symm hx
    · exact ⟨h1, i, hi, e, fun y hy => hn y ((need i hi y).2 hy)⟩
  · rintro ⟨h1, i, hi, e, hn⟩
    exact ⟨h1, i, List.mem_cons_of_mem _ hi, e, fun y hy => hn y ((need i hi y).1 hy)⟩
theorem can_end {is : List (N × List N × T)} {z : N × List N × T} (hz : ¬ z.1 ∈ is.map (·.1)) (ha : ∀ x ∈ is.map (·.1), x ∈ z.2.1) {o : List N} : Can (z :: is) o z.1 ↔ ¬ z.1 ∈ o ∧ ∀ x ∈ is.map (·.1), x ∈ o := by
  constructor
  · rintro ⟨h1, i, hi, e, hn⟩
    refine ⟨h1, fun x hx => ?_⟩
    rcases List.mem_cons.1 hi with rfl | hi
    · exact hn x ⟨ha x hx, by rw [List.map_cons]; exact List.mem_cons_of_mem _ hx, fun e => hz (e ▸ hx)⟩
    · exact absurd (List.mem_map.2 ⟨i, hi, e⟩) hz
  · rintro ⟨h1, h2⟩
    refine ⟨h1, z, List.mem_cons_self, rfl, fun y hy => ?_⟩
    have h3 := hy.2.1
    rw [List.map_cons] at h3
    rcases List.mem_cons.1 h3 with h3 | h3
    · exact absurd h3 hy.2.2
    · exact h2 y h3
/-- It comes behind all. -/
theorem ord_last {lt : N → N → Prop} {is : List (N × List N × T)} (hu : (is.map (·.1)).Nodup) {z : N × List N × T} (hz : ¬ z.1 ∈ is.map (·.1)) (hr : ∀ i ∈ is, ¬ z.1 ∈ i.2.1) (ha : ∀ x ∈ is.map (·.1), x ∈ z.2.1) (irr : ∀ x, ¬ lt x x) {a : Option (List N)} (h : OrdIs lt is a) : OrdIs lt (z :: is) (a.map fun o => o ++ [z.1]) := by
  have up : ∀ {o : List N}, Greedy lt is o → Greedy lt (z :: is) o := fun {o} ho k x hx => by
    have hb := ho k x hx
    have hxm : x ∈ is.map (·.1) := ho.there (List.mem_of_getElem? hx)
    refine ⟨(can_last hz hr (fun e => hz (e ▸ hxm))).2 hb.1, fun y hy => ?_⟩
    by_cases e : y = z.1
    · subst e
      have h1 := ((can_end hz ha).1 hy).2 x hxm
      exact absurd h1 hb.1.1
    · exact hb.2 y ((can_last hz hr e).1 hy)
  cases h with
  | @all o h1 h2 =>
    refine .all ((up h1).snoc ⟨(can_end hz ha).2 ⟨fun hm => hz (h1.there hm), fun x hx => h1.full h2 hx⟩, fun y hy => ?_⟩) (by rw [List.length_append, List.length_cons, h2]; rfl)
    by_cases e : y = z.1
    · rw [e]; exact irr _
    · have h3 := (can_last hz hr e).1 hy
      obtain ⟨i, hi, ei, _⟩ := h3.2
      exact absurd (h1.full h2 (List.mem_map.2 ⟨i, hi, ei⟩)) h3.1
  | @none o h1 h2 h3 =>
    refine .none (up h1) (by rw [List.length_cons]; omega) fun x hx => ?_
    by_cases e : x = z.1
    · subst e
      have h4 := ((can_end hz ha).1 hx).2
      classical
      have h5 := nodup_le (m := o) hu h4
      rw [List.length_map] at h5
      omega
    · exact h3 x ((can_last hz hr e).1 hx)
/-- An item more that refers to none, and to which nobody refers, with the least name, comes first. -/
theorem can_first {is : List (N × List N × T)} {z : N × List N × T} (hz : ¬ z.1 ∈ is.map (·.1)) (hr : ∀ i ∈ is, ¬ z.1 ∈ i.2.1) {o : List N} {x : N} (hx : x ≠ z.1) : Can (is ++ [z]) (z.1 :: o) x ↔ Can is o x := by
  have need : ∀ i ∈ is, ∀ y, Needs (is ++ [z]) i y ↔ Needs is i y := fun i hi y => by
    constructor
    · rintro ⟨h1, h2, h3⟩
      refine ⟨h1, ?_, h3⟩
      rw [List.map_append] at h2
      rcases List.mem_append.1 h2 with h2 | h2
      · exact h2
      · have e : y = z.1 := List.mem_singleton.1 h2
        rw [e] at h1
        exact absurd h1 (hr i hi)
    · rintro ⟨h1, h2, h3⟩
      exact ⟨h1, by rw [List.map_append]; exact List.mem_append_left _ h2, h3⟩
  constructor
  · rintro ⟨h1, i, hi, e, hn⟩
    rcases List.mem_append.1 hi with hi | hi
    · refine ⟨fun hm => h1 (List.mem_cons_of_mem _ hm), i, hi, e, fun y hy => ?_⟩
      rcases List.mem_cons.1 (hn y ((need i hi y).2 hy)) with rfl | h
      · exact absurd hy.2.1 hz
      · exact h
    · rw [List.mem_singleton.1 hi] at e
      exact absurd e.symm hx
  · rintro ⟨h1, i, hi, e, hn⟩
    refine ⟨fun hm => ?_, i, List.mem_append_left _ hi, e, fun y hy => List.mem_cons_of_mem _ (hn y ((need i hi y).1 hy))⟩
    rcases List.mem_cons.1 hm with h | h
    · exact hx h
    · exact h1 h
theorem ord_first {lt : N → N → Prop} {is : List (N × List N × T)} {z : N × List N × T} (hz : ¬ z.1 ∈ is.map (·.1)) (hr : ∀ i ∈ is, ¬ z.1 ∈ i.2.1) (h0 : z.2.1 = []) (hl : ∀ x, ¬ lt x z.1) {a : Option (List N)} (h : OrdIs lt is a) : OrdIs lt (is ++ [z]) (a.map fun o => z.1 :: o) := by
  have up : ∀ {o : List N}, Greedy lt is o → Greedy lt (is ++ [z]) (z.1 :: o) := fun {o} ho k x hx => by
    match k, hx with
    | 0, hx =>
      simp at hx
      subst hx
      exact ⟨⟨by simp, z, List.mem_append_right _ (List.mem_singleton.2 rfl), rfl, fun y hy => by have := hy.1; rw [h0] at this; exact absurd this (by simp)⟩, fun y _ => hl y⟩
    | k + 1, hx =>
      rw [List.getElem?_cons_succ] at hx
      rw [List.take_succ_cons]
      have hb := ho k x hx
      have hxm : x ∈ is.map (·.1) := ho.there (List.mem_of_getElem? hx)
      refine ⟨(can_first hz hr (fun e => hz (e ▸ hxm))).2 hb.1, fun y hy => ?_⟩
      have hyz : y ≠ z.1 := fun e => hy.1 (by rw [e]; exact List.mem_cons_self)
      exact hb.2 y ((can_first hz hr hyz).1 hy)
  cases h with
  | @all o h1 h2 => exact .all (up h1) (by rw [List.length_cons, List.length_append, h2]; rfl)
  | @none o h1 h2 h3 =>
    refine .none (up h1) (by rw [List.length_cons, List.length_append]; simp; omega) fun x hx => ?_
    have hxz : x ≠ z.1 := fun e => hx.1 (by rw [e]; exact List.mem_cons_self)
    exact h3 x ((can_first hz hr hxz).1 hx)
/-- Where each one waits for another one, there is no order. -/
theorem ord_ring {lt : N → N → Prop} {is : List (N × List N × T)} (hne : is ≠ []) (hn : ∀ i ∈ is, ∃ y, Needs is i y) : OrdIs lt is Option.none := by
  refine .none (Greedy.nil lt is) (List.length_pos_iff.2 hne) fun x hx => ?_
  obtain ⟨i, hi, _, h⟩ := hx.2
  obtain ⟨y, hy⟩ := hn i hi
  exact absurd (h y hy) (by simp)
end
end Go.Proofs.Yticpljjbnfimkaa.Hog
