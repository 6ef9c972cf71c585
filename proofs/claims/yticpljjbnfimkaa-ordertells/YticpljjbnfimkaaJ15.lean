/- Texts that stand together, joined: PlainX, PlainY, PlainZ, PlainL, PlainC. -/
import Derived.Test.YticpljjbnfimkaaJ7
/- In which order named things come, each behind what it refers to, always the least that could come next: plainly. Nothing here names the program. -/
namespace Go.Proofs.Yticpljjbnfimkaa.Hog
open Go

section
variable {N T : Type}

/-- What an item must come behind: the other ones that it refers to and that are there. -/
def Needs (is : List (N × List N × T)) (i : N × List N × T) (x : N) : Prop := x ∈ i.2.1 ∧ x ∈ is.map (·.1) ∧ x ≠ i.1
/-- x could come next behind these. -/
def Can (is : List (N × List N × T)) (o : List N) (x : N) : Prop := ¬ x ∈ o ∧ ∃ i ∈ is, i.1 = x ∧ ∀ y, Needs is i y → y ∈ o
/-- x is the least that could. -/
def Best (lt : N → N → Prop) (is : List (N × List N × T)) (o : List N) (x : N) : Prop := Can is o x ∧ ∀ y, Can is o y → ¬ lt y x
theorem Best.one {lt : N → N → Prop} (tot : ∀ x y, ¬ lt x y → ¬ lt y x → x = y) {is : List (N × List N × T)} {o : List N} {x y : N} (h : Best lt is o x) (k : Best lt is o y) : x = y := tot x y (k.2 x h.1) (h.2 y k.1)
/-- Each of these was the least that could come, behind those ahead. -/
def Greedy (lt : N → N → Prop) (is : List (N × List N × T)) (o : List N) : Prop := ∀ (k : Nat) x, o[k]? = some x → Best lt is (o.take k) x
theorem Greedy.nil (lt : N → N → Prop) (is : List (N × List N × T)) : Greedy lt is [] := fun k x h => by simp at h
theorem Greedy.snoc {lt : N → N → Prop} {is : List (N × List N × T)} {o : List N} {x : N} (h : Greedy lt is o) (k : Best lt is o x) : Greedy lt is (o ++ [x]) := by
  intro j y hy
  by_cases e : j < o.length
  · rw [List.getElem?_append_left e] at hy
    rw [List.take_append_of_le_length (by omega)]
    exact h j y hy
  · have hj : j = o.length := by have := (List.getElem?_eq_some_iff.1 hy).1; rw [List.length_append] at this; simp at this; omega
    subst hj
    rw [List.getElem?_append_right (Nat.le_refl _), Nat.sub_self] at hy
    simp at hy
    subst hy
    rw [List.take_left]
    exact k
theorem Greedy.take {lt : N → N → Prop} {is : List (N × List N × T)} {o : List N} (h : Greedy lt is o) (n : Nat) : Greedy lt is (o.take n) := by
  intro j y hy
  rw [List.getElem?_take] at hy
  split at hy
  · rename_i hjn
    rw [List.take_take, Nat.min_eq_left (by omega)]
    exact h j y hy
  · cases hy
/-- Two such lists are one, as far as both go. -/
theorem Greedy.same {lt : N → N → Prop} (tot : ∀ x y, ¬ lt x y → ¬ lt y x → x = y) {is : List (N × List N × T)} {o p : List N} (h : Greedy lt is o) (k : Greedy lt is p) : ∀ n, n ≤ o.length → n ≤ p.length → o.take n = p.take n
  | 0, _, _ => by rw [List.take_zero, List.take_zero]
  | n + 1, h1, h2 => by
    have ih := Greedy.same tot h k n (by omega) (by omega)
    have ho : o[n]? = some o[n] := List.getElem?_eq_getElem (by omega)
    have hp : p[n]? = some p[n] := List.getElem?_eq_getElem (by omega)
    have a := h n _ ho
    have b := k n _ hp
    rw [ih] at a
    rw [List.take_add_one, List.take_add_one, ih, ho, hp, a.one tot b]
theorem Greedy.there {lt : N → N → Prop} {is : List (N × List N × T)} {o : List N} (h : Greedy lt is o) {x : N} (hx : x ∈ o) : x ∈ is.map (·.1) := by
  obtain ⟨k, hk⟩ := List.getElem?_of_mem hx
  obtain ⟨i, hi, e, _⟩ := (h k x hk).1.2
  exact List.mem_map.2 ⟨i, hi, e⟩
theorem Greedy.each {lt : N → N → Prop} {is : List (N × List N × T)} {o : List N} (h : Greedy lt is o) : o.Nodup := by
  refine List.pairwise_iff_getElem.2 fun a b ha hb hab e => ?_
  have := (h b o[b] (List.getElem?_eq_getElem hb)).1.1
  refine this ?_
  rw [← e]
  exact List.mem_of_getElem? (i := a) (by rw [List.getElem?_take_of_lt hab]; exact List.getElem?_eq_getElem ha)
theorem Greedy.few {lt : N → N → Prop} {is : List (N × List N × T)} {o : List N} (h : Greedy lt is o) : o.length ≤ is.length := by
  classical
  have := nodup_le (m := is.map (·.1)) h.each fun x hx => h.there hx
  rwa [List.length_map] at this
/-- The order of these items, or that there is none. -/
def OrdIs (lt : N → N → Prop) (is : List (N × List N × T)) (a : Option (List N)) : Prop := (∃ o, a = some o ∧ Greedy lt is o ∧ o.length = is.length) ∨ (a = Option.none ∧ ∃ o, Greedy lt is o ∧ o.length < is.length ∧ ∀ x, ¬ Can is o x)
theorem OrdIs.all {lt : N → N → Prop} {is : List (N × List N × T)} {o : List N} (h : Greedy lt is o) (k : o.length = is.length) : OrdIs lt is (some o) := .inl ⟨o, rfl, h, k⟩
theorem OrdIs.none {lt : N → N → Prop} {is : List (N × List N × T)} {o : List N} (h : Greedy lt is o) (k : o.length < is.length) (n : ∀ x, ¬ Can is o x) : OrdIs lt is Option.none := .inr ⟨rfl, o, h, k, n⟩
theorem OrdIs.one {lt : N → N → Prop} (tot : ∀ x y, ¬ lt x y → ¬ lt y x → x = y) {is : List (N × List N × T)} {a b : Option (List N)} (h : OrdIs lt is a) (k : OrdIs lt is b) : a = b := by
  have key : ∀ {o p : List N}, Greedy lt is o → o.length = is.length → Greedy lt is p → p.length < is.length → (∀ x, ¬ Can is p x) → False := fun {o p} ho hl hp hs hn => by
    have e := ho.same tot hp p.length (by omega) (Nat.le_refl _)
    rw [List.take_length] at e
    have := (ho p.length o[p.length] (List.getElem?_eq_getElem (by omega))).1
    rw [e] at this
    exact hn _ this
  rcases h with ⟨o, rfl, h1, h2⟩ | ⟨rfl, o, h1, h2, h3⟩ <;> rcases k with ⟨p, rfl, k1, k2⟩ | ⟨rfl, p, k1, k2, k3⟩
  · have e := h1.same tot k1 is.length (by omega) (by omega)
    rw [List.take_of_length_le (by omega), List.take_of_length_le (by omega)] at e
    rw [e]
  · exact (key h1 h2 k1 k2 k3).elim
  · exact (key k1 k2 h1 h2 h3).elim
  · rfl
/-- Among finitely many there is a least one that could come. -/
theorem can_least {lt : N → N → Prop} (irr : ∀ x, ¬ lt x x) (tr : ∀ x y z, lt x y → lt y z → lt x z) (is : List (N × List N × T)) (o : List N) : (∀ x, ¬ Can is o x) ∨ ∃ x, Best lt is o x := by
  classical
  have key : ∀ l : List N, (∀ x ∈ l, ¬ Can is o x) ∨ ∃ x ∈ l, Can is o x ∧ ∀ y ∈ l, Can is o y → ¬ lt y x := by
    intro l
    induction l with
    | nil => exact .inl fun x hx => absurd hx (by simp)
    | cons a l ih =>
      by_cases ha : Can is o a
      · rcases ih with ih | ⟨x, hx, hc, hl⟩
        · refine .inr ⟨a, List.mem_cons_self, ha, fun y hy hy2 => ?_⟩
          rcases List.mem_cons.1 hy with rfl | hy
          · exact irr y
          · exact absurd hy2 (ih y hy)
        · by_cases hxa : lt a x
          · refine .inr ⟨a, List.mem_cons_self, ha, fun y hy hy2 => ?_⟩
            rcases List.mem_cons.1 hy with rfl | hy
            · exact irr y
            · exact fun h => hl y hy hy2 (tr _ _ _ h hxa)
          · refine .inr ⟨x, List.mem_cons_of_mem _ hx, hc, fun y hy hy2 => ?_⟩
            rcases List.mem_cons.1 hy with rfl | hy
            · exact hxa
            · exact hl y hy hy2
      · rcases ih with ih | ⟨x, hx, hc, hl⟩
        · refine .inl fun x hx => ?_
          rcases List.mem_cons.1 hx with rfl | hx
          · exact ha
          · exact ih x hx
        · refine .inr ⟨x, List.mem_cons_of_mem _ hx, hc, fun y hy hy2 => ?_⟩
          rcases List.mem_cons.1 hy with rfl | hy
          · exact absurd hy2 ha
          · exact hl y hy hy2
  have mem : ∀ x, Can is o x → x ∈ is.map (·.1) := fun x hx => by
    obtain ⟨i, hi, e, _⟩ := hx.2
    exact List.mem_map.2 ⟨i, hi, e⟩
  rcases key (is.map (·.1)) with h | ⟨x, _, hc, hl⟩
  · exact .inl fun x hx => h x (mem x hx) hx
  · exact .inr ⟨x, hc, fun y hy => hl y (mem y hy) hy⟩
theorem ord_ex {lt : N → N → Prop} (irr : ∀ x, ¬ lt x x) (tr : ∀ x y z, lt x y → lt y z → lt x z) (is : List (N × List N × T)) : ∃ a, OrdIs lt is a := by
  have key : ∀ n (o : List N), Greedy lt is o → is.length - o.length ≤ n → ∃ a, OrdIs lt is a := by
    intro n
    induction n with
    | zero => exact fun o ho hn => ⟨_, .all ho (by have := ho.few; omega)⟩
    | succ n ih =>
      intro o ho hn
      by_cases hl : o.length = is.length
      · exact ⟨_, .all ho hl⟩
      · rcases can_least irr tr is o with h | ⟨x, hx⟩
        · exact ⟨_, .none ho (by have := ho.few; omega) h⟩
        · exact ih _ (ho.snoc hx) (by rw [List.length_append]; simp; omega)
  exact key is.length [] (Greedy.nil lt is) (by simp)
/-- In which order items are handed in does not matter. -/
theorem can_perm {is js : List (N × List N × T)} (h : is.Perm js) {o : List N} {x : N} (k : Can is o x) : Can js o x := by
  obtain ⟨i, hi, e, hn⟩ := k.2
  exact ⟨k.1, i, h.mem_iff.1 hi, e, fun y hy => hn y ⟨hy.1, (h.map _).mem_iff.2 hy.2.1, hy.2.2⟩⟩
theorem best_perm {lt : N → N → Prop} {is js : List (N × List N × T)} (h : is.Perm js) {o : List N} {x : N} (k : Best lt is o x) : Best lt js o x := ⟨can_perm h k.1, fun y hy => k.2 y (can_perm h.symm hy)⟩
theorem greedy_perm {lt : N → N → Prop} {is js : List (N × List N × T)} (h : is.Perm js) {o : List N} (k : Greedy lt is o) : Greedy lt js o := fun j x hx => best_perm h (k j x hx)
theorem ord_perm {lt : N → N → Prop} {is js : List (N × List N × T)} (h : is.Perm js) {a : Option (List N)} (k : OrdIs lt is a) : OrdIs lt js a := by
  rcases k with ⟨o, rfl, k1, k2⟩ | ⟨rfl, o, k1, k2, k3⟩
  · exact .all (greedy_perm h k1) (k2.trans h.length_eq)
  · exact .none (greedy_perm h k1) (by rw [← h.length_eq]; exact k2) fun x hx => k3 x (can_perm h.symm hx)
/-- Each comes behind what it must come behind. -/
theorem Greedy.behind {lt : N → N → Prop} {is : List (N × List N × T)} (hu : (is.map (·.1)).Nodup) {o : List N} (h : Greedy lt is o) {i : N × List N × T} (hi : i ∈ is) {k : Nat} (hk : o[k]? = some i.1) {y : N} (hy : Needs is i y) : y ∈ o.take k := by
  obtain ⟨j, hj, e, hn⟩ := (h k i.1 hk).1.2
  obtain ⟨a, ha⟩ := List.getElem?_of_mem hi
  obtain ⟨b, hb⟩ := List.getElem?_of_mem hj
  have ea : (is.map (·.1))[a]? = some i.1 := by rw [List.getElem?_map, ha]; rfl
  have eb : (is.map (·.1))[b]? = some i.1 := by rw [List.getElem?_map, hb, ← e]; rfl
  have : a = b := (List.getElem?_inj (List.getElem?_eq_some_iff.1 ea).1 hu).1 (ea.trans eb.symm)
  subst this
  rw [ha] at hb
  cases hb
  exact hn y hy
theorem Greedy.full {lt : N → N → Prop} {is : List (N × List N × T)} {o : List N} (h : Greedy lt is o) (k : o.length = is.length) {x : N} (hx : x ∈ is.map (·.1)) : x ∈ o := by
  classical
  refine Classical.byContradiction fun hn => ?_
  have h1 : (x :: o).Nodup := List.nodup_cons.2 ⟨hn, h.each⟩
  have := nodup_le (m := is.map (·.1)) h1 fun y hy => by
    rcases List.mem_cons.1 hy with rfl | hy
    · exact hx
    · exact h.there hy
  rw [List.length_cons, List.length_map, k] at this
  omega
/-- An item more that all others are referred to by, and that nobody refers to. -/
theorem can_last {is : List (N × List N × T)} {z : N × List N × T} (hz : ¬ z.1 ∈ is.map (·.1)) (hr : ∀ i ∈ is, ¬ z.1 ∈ i.2.1) {o : List N} {x : N} (hx : x ≠ z.1) : Can (z :: is) o x ↔ Can is o x := by
  have need : ∀ i ∈ is, ∀ y, Needs (z :: is) i y ↔ Needs is i y := fun i hi y => by
    constructor
    · rintro ⟨h1, h2, h3⟩
      refine ⟨h1, ?_, h3⟩
      rw [List.map_cons] at h2
      rcases List.mem_cons.1 h2 with rfl | h2
      · exact absurd h1 (hr i hi)
      · exact h2
    · rintro ⟨h1, h2, h3⟩
      exact ⟨h1, by rw [List.map_cons]; exact List.mem_cons_of_mem _ h2, h3⟩
  constructor
  · rintro ⟨h1, i, hi, e, hn⟩
    rcases List.mem_cons.1 hi with rfl | hi
    · exact absurd e.symm hx
    · exact ⟨h1, i, hi, e, fun y hy => hn y ((need i hi y).2 hy)⟩
  · rintro ⟨h1, i, hi, e, hn⟩
    exact ⟨h1, i, List.mem_cons_of_mem _ hi, e, fun y hy => hn y ((need i hi y).1 hy)⟩
theorem can_end {is : List (N × List N × T)} {z : N × List N × T} (hz : ¬ z.1 ∈ is.map (·.1)) (ha : ∀ x ∈ is.map (·.1), x ∈ z.2.1) {o : List N} : Can (z :: is) o z.1 ↔ ¬ z.1 ∈ o ∧ ∀ x ∈ is.map (·.1), x ∈ o := by
  constructor
  · rintro ⟨h1, i, hi, e, hn⟩
    refine ⟨h1, fun x hx => ?_⟩
    rcases List.mem_cons.1 hi with rfl | hi
    · exact hn x ⟨ha x hx, by rw [List.map_cons]; exact List.mem_cons_of_mem _ hx, fun e => hz (e ▸ hx)⟩
    · exact absurd (List.mem_map.2 ⟨i, hi, e⟩) hz
  · rintro ⟨h1, h2⟩
    refine ⟨h1, z, List.mem_cons_self, rfl, fun y hy => ?_⟩
    have h3 := hy.2.1
    rw [List.map_cons] at h3
    rcases List.mem_cons.1 h3 with h3 | h3
    · exact absurd h3 hy.2.2
    · exact h2 y h3
/-- It comes behind all. -/
theorem ord_last {lt : N → N → Prop} {is : List (N × List N × T)} (hu : (is.map (·.1)).Nodup) {z : N × List N × T} (hz : ¬ z.1 ∈ is.map (·.1)) (hr : ∀ i ∈ is, ¬ z.1 ∈ i.2.1) (ha : ∀ x ∈ is.map (·.1), x ∈ z.2.1) (irr : ∀ x, ¬ lt x x) {a : Option (List N)} (h : OrdIs lt is a) : OrdIs lt (z :: is) (a.map fun o => o ++ [z.1]) := by
  have up : ∀ {o : List N}, Greedy lt is o → Greedy lt (z :: is) o := fun {o} ho k x hx => by
    have hb := ho k x hx
    have hxm : x ∈ is.map (·.1) := ho.there (List.mem_of_getElem? hx)
    refine ⟨(can_last hz hr (fun e => hz (e ▸ hxm))).2 hb.1, fun y hy => ?_⟩
    by_cases e : y = z.1
    · subst e
      have h1 := ((can_end hz ha).1 hy).2 x hxm
      exact absurd h1 hb.1.1
    · exact hb.2 y ((can_last hz hr e).1 hy)
  rcases h with ⟨o, rfl, h1, h2⟩ | ⟨rfl, o, h1, h2, h3⟩
  · refine .all ((up h1).snoc ⟨(can_end hz ha).2 ⟨fun hm => hz (h1.there hm), fun x hx => h1.full h2 hx⟩, fun y hy => ?_⟩) (by rw [List.length_append, List.length_cons, h2]; rfl)
    by_cases e : y = z.1
    · rw [e]; exact irr _
    · have h3 := (can_last hz hr e).1 hy
      obtain ⟨i, hi, ei, _⟩ := h3.2
      exact absurd (h1.full h2 (List.mem_map.2 ⟨i, hi, ei⟩)) h3.1
  · refine .none (up h1) (by rw [List.length_cons]; omega) fun x hx => ?_
    by_cases e : x = z.1
    · subst e
      have h4 := ((can_end hz ha).1 hx).2
      classical
      have h5 := nodup_le (m := o) hu h4
      rw [List.length_map] at h5
      omega
    · exact h3 x ((can_last hz hr e).1 hx)
/-- An item more that refers to none, and to which nobody refers, with the least name, comes first. -/
theorem can_first {is : List (N × List N × T)} {z : N × List N × T} (hz : ¬ z.1 ∈ is.map (·.1)) (hr : ∀ i ∈ is, ¬ z.1 ∈ i.2.1) {o : List N} {x : N} (hx : x ≠ z.1) : Can (is ++ [z]) (z.1 :: o) x ↔ Can is o x := by
  have need : ∀ i ∈ is, ∀ y, Needs (is ++ [z]) i y ↔ Needs is i y := fun i hi y => by
    constructor
    · rintro ⟨h1, h2, h3⟩
      refine ⟨h1, ?_, h3⟩
      rw [List.map_append] at h2
      rcases List.mem_append.1 h2 with h2 | h2
      · exact h2
      · have e : y = z.1 := List.mem_singleton.1 h2
        rw [e] at h1
        exact absurd h1 (hr i hi)
    · rintro ⟨h1, h2, h3⟩
      exact ⟨h1, by rw [List.map_append]; exact List.mem_append_left _ h2, h3⟩
  constructor
  · rintro ⟨h1, i, hi, e, hn⟩
    rcases List.mem_append.1 hi with hi | hi
    · refine ⟨fun hm => h1 (List.mem_cons_of_mem _ hm), i, hi, e, fun y hy => ?_⟩
      rcases List.mem_cons.1 (hn y ((need i hi y).2 hy)) with rfl | h
      · exact absurd hy.2.1 hz
      · exact h
    · rw [List.mem_singleton.1 hi] at e
      exact absurd e.symm hx
  · rintro ⟨h1, i, hi, e, hn⟩
    refine ⟨fun hm => ?_, i, List.mem_append_left _ hi, e, fun y hy => List.mem_cons_of_mem _ (hn y ((need i hi y).1 hy))⟩
    rcases List.mem_cons.1 hm with h | h
    · exact hx h
    · exact h1 h
theorem ord_first {lt : N → N → Prop} {is : List (N × List N × T)} {z : N × List N × T} (hz : ¬ z.1 ∈ is.map (·.1)) (hr : ∀ i ∈ is, ¬ z.1 ∈ i.2.1) (h0 : z.2.1 = []) (hl : ∀ x, ¬ lt x z.1) {a : Option (List N)} (h : OrdIs lt is a) : OrdIs lt (is ++ [z]) (a.map fun o => z.1 :: o) := by
  have up : ∀ {o : List N}, Greedy lt is o → Greedy lt (is ++ [z]) (z.1 :: o) := fun {o} ho k x hx => by
    match k, hx with
    | 0, hx =>
      simp at hx
      subst hx
      exact ⟨⟨by simp, z, List.mem_append_right _ (List.mem_singleton.2 rfl), rfl, fun y hy => by have := hy.1; rw [h0] at this; exact absurd this (by simp)⟩, fun y _ => hl y⟩
    | k + 1, hx =>
      rw [List.getElem?_cons_succ] at hx
      rw [List.take_succ_cons]
      have hb := ho k x hx
      have hxm : x ∈ is.map (·.1) := ho.there (List.mem_of_getElem? hx)
      refine ⟨(can_first hz hr (fun e => hz (e ▸ hxm))).2 hb.1, fun y hy => ?_⟩
      have hyz : y ≠ z.1 := fun e => hy.1 (by rw [e]; exact List.mem_cons_self)
      exact hb.2 y ((can_first hz hr hyz).1 hy)
  rcases h with ⟨o, rfl, h1, h2⟩ | ⟨rfl, o, h1, h2, h3⟩
  · exact .all (up h1) (by rw [List.length_cons, List.length_append, h2]; rfl)
  · refine .none (up h1) (by rw [List.length_cons, List.length_append]; simp; omega) fun x hx => ?_
    have hxz : x ≠ z.1 := fun e => hx.1 (by rw [e]; exact List.mem_cons_self)
    exact h3 x ((can_first hz hr hxz).1 hx)
/-- Where each one waits for another one, there is no order. -/
theorem ord_ring {lt : N → N → Prop} {is : List (N × List N × T)} (hne : is ≠ []) (hn : ∀ i ∈ is, ∃ y, Needs is i y) : OrdIs lt is Option.none := by
  refine .none (Greedy.nil lt is) (List.length_pos_iff.2 hne) fun x hx => ?_
  obtain ⟨i, hi, _, h⟩ := hx.2
  obtain ⟨y, hy⟩ := hn i hi
  exact absurd (h y hy) (by simp)
end
end Go.Proofs.Yticpljjbnfimkaa.Hog
/- A heap, plainly: what a step up, a step down, a push and a pop leave of it. Nothing here names the program. -/
namespace Go.Proofs.Yticpljjbnfimkaa.Hog

section
variable {A : Type}

/-- An order in which what is not less goes on. -/
structure Ordy (lt : A → A → Prop) : Prop where
  irr : ∀ x, ¬ lt x x
  tr : ∀ x y z, lt x y → lt y z → lt x z
  neg : ∀ x y z, ¬ lt x y → ¬ lt y z → ¬ lt x z

/-- What stands at i is not less than what stands at p. -/
def Ov (lt : A → A → Prop) (l : List A) (i p : Nat) : Prop := ∀ x y, l[i]? = some x → l[p]? = some y → ¬ lt x y
/-- Where the one above stands. -/
def par (i : Nat) : Nat := (i - 1) / 2
def Heapy (lt : A → A → Prop) (l : List A) (n : Nat) : Prop := ∀ i, 0 < i → i < n → Ov lt l i (par i)
/-- A heap but for the place j, on the way up. -/
structure UpH (lt : A → A → Prop) (l : List A) (n j : Nat) : Prop where
  rest : ∀ i, 0 < i → i < n → i ≠ j → Ov lt l i (par i)
  over : 0 < j → ∀ i, 0 < i → i < n → par i = j → Ov lt l i (par j)
/-- A heap but for the place i, on the way down. -/
structure DownH (lt : A → A → Prop) (l : List A) (n i : Nat) : Prop where
  rest : ∀ k, 0 < k → k < n → par k ≠ i → Ov lt l k (par k)
  over : 0 < i → ∀ k, 0 < k → k < n → par k = i → Ov lt l k (par i)

/-- Two change places: first x is put at j's stead .. -/
def swp (l : List A) (i j : Nat) (x y : A) : List A := (l.set i y).set j x
theorem swp_len (l : List A) (i j : Nat) (x y : A) : (swp l i j x y).length = l.length := by unfold swp; rw [List.length_set, List.length_set]
theorem swp_get {l : List A} {i j : Nat} {x y : A} (hx : l[i]? = some x) (hy : l[j]? = some y) (k : Nat) : (swp l i j x y)[k]? = if k = j then some x else if k = i then some y else l[k]? := by
  have hi := (List.getElem?_eq_some_iff.1 hx).1
  have hj := (List.getElem?_eq_some_iff.1 hy).1
  unfold swp
  rw [List.getElem?_set, List.getElem?_set, List.length_set]
  by_cases e : k = j
  · subst e; rw [if_pos rfl, if_pos rfl, if_pos hj]
  · rw [if_neg (fun h => e h.symm), if_neg e]
    by_cases e2 : k = i
    · subst e2; rw [if_pos rfl, if_pos rfl, if_pos hi]
    · rw [if_neg (fun h => e2 h.symm), if_neg e2]
theorem swp_perm {l : List A} {i j : Nat} {x y : A} (hx : l[i]? = some x) (hy : l[j]? = some y) : (swp l i j x y).Perm l := by
  obtain ⟨hi, rfl⟩ := List.getElem?_eq_some_iff.1 hx
  obtain ⟨hj, rfl⟩ := List.getElem?_eq_some_iff.1 hy
  exact List.set_set_perm hi hj

theorem par_lt {i : Nat} (h : 0 < i) : par i < i := by unfold par; omega
theorem Ov.of {lt : A → A → Prop} {l l' : List A} {i p i' p' : Nat} (h : Ov lt l i p) (e : l'[i']? = l[i]?) (e2 : l'[p']? = l[p]?) : Ov lt l' i' p' := fun x y hx hy => h x y (e ▸ hx) (e2 ▸ hy)

theorem UpH.step {lt : A → A → Prop} (o : Ordy lt) {l : List A} {n j : Nat} {x y : A} (h : UpH lt l n j) (h0 : 0 < j) (hjn : j < n) (hy : l[par j]? = some y) (hx : l[j]? = some x) (hlt : lt x y) : UpH lt (swp l (par j) j y x) n (par j) := by
  have hp := par_lt h0
  have g := swp_get hy hx
  refine ⟨fun i hi hin hne => ?_, fun hp0 i hi hin he => ?_⟩
  · by_cases e : i = j
    · subst e
      intro a b ha hb
      rw [g, if_pos rfl] at ha
      rw [g, if_neg (by omega), if_pos rfl] at hb
      cases ha; cases hb
      exact fun k => o.irr _ (o.tr _ _ _ k hlt)
    · have gi : (swp l (par j) j y x)[i]? = l[i]? := by rw [g, if_neg e, if_neg hne]
      by_cases e1 : par i = j
      · exact (h.over h0 i hi hin e1).of gi (by rw [g, e1, if_pos rfl, hy])
      · by_cases e2 : par i = par j
        · intro a b ha hb
          rw [gi] at ha
          rw [g, if_neg e1, if_pos e2] at hb
          cases hb
          have h1 := h.rest i hi hin e a y ha (by rw [e2]; exact hy)
          exact fun k => h1 (o.tr _ _ _ k hlt)
        · exact (h.rest i hi hin e).of gi (by rw [g, if_neg e1, if_neg e2])
  · have hpp := par_lt hp0
    have gp : (swp l (par j) j y x)[par (par j)]? = l[par (par j)]? := by rw [g, if_neg (by omega), if_neg (by omega)]
    have h2 := h.rest (par j) hp0 (by omega) (by omega)
    by_cases e : i = j
    · exact h2.of (by rw [g, e, if_pos rfl, hy]) gp
    · have hpi := par_lt hi
      have gi : (swp l (par j) j y x)[i]? = l[i]? := by rw [g, if_neg e, if_neg (by omega)]
      intro a b ha hb
      rw [gi] at ha
      rw [gp] at hb
      exact o.neg _ _ _ (h.rest i hi hin e a y ha (by rw [he]; exact hy)) (h2 y b hy hb)
theorem UpH.top {lt : A → A → Prop} {l : List A} {n : Nat} (h : UpH lt l n 0) : Heapy lt l n := fun i hi hin => h.rest i hi hin (by omega)
theorem UpH.stop {lt : A → A → Prop} {l : List A} {n j : Nat} {x y : A} (h : UpH lt l n j) (hy : l[par j]? = some y) (hx : l[j]? = some x) (hlt : ¬ lt x y) : Heapy lt l n := by
  intro i hi hin
  by_cases e : i = j
  · subst e
    intro a b ha hb
    rw [hx] at ha
    rw [hy] at hb
    cases ha; cases hb
    exact hlt
  · exact h.rest i hi hin e
theorem Heapy.push {lt : A → A → Prop} {l : List A} (h : Heapy lt l l.length) (x : A) : UpH lt (l ++ [x]) (l.length + 1) l.length := by
  refine ⟨fun i hi hin hne => ?_, fun h0 i hi hin he => ?_⟩
  · have hp := par_lt hi
    exact (h i hi (by omega)).of (List.getElem?_append_left (by omega)) (List.getElem?_append_left (by omega))
  · have hp := par_lt hi
    omega

theorem DownH.step {lt : A → A → Prop} (o : Ordy lt) {l : List A} {n i j : Nat} {x y : A} (h : DownH lt l n i) (h0 : 0 < j) (hjn : j < n) (hp : par j = i) (hx : l[i]? = some x) (hy : l[j]? = some y) (hlt : lt y x)
    (hm : ∀ k, 0 < k → k < n → par k = i → Ov lt l k j) : DownH lt (swp l i j x y) n j := by
  have hij : i < j := by rw [← hp]; exact par_lt h0
  have g := swp_get hx hy
  refine ⟨fun k hk hkn hne => ?_, fun _ k hk hkn he => ?_⟩
  · have hpk := par_lt hk
    by_cases e : par k = i
    · by_cases e2 : k = j
      · subst e2
        intro a b ha hb
        rw [g, if_pos rfl] at ha
        rw [g, e, if_neg (by omega), if_pos rfl] at hb
        cases ha; cases hb
        exact fun q => o.irr _ (o.tr _ _ _ q hlt)
      · exact (hm k hk hkn e).of (by rw [g, if_neg e2, if_neg (by omega)]) (by rw [g, e, if_neg (by omega), if_pos rfl, hy])
    · have gp : (swp l i j x y)[par k]? = l[par k]? := by rw [g, if_neg hne, if_neg e]
      by_cases e2 : k = i
      · subst e2
        exact (h.over hk j h0 hjn hp).of (by rw [g, if_neg (by omega), if_pos rfl, hy]) gp
      · have e3 : k ≠ j := fun q => e (by rw [q, hp])
        exact (h.rest k hk hkn e).of (by rw [g, if_neg e3, if_neg e2]) gp
  · have hpk := par_lt hk
    exact (h.rest k hk hkn (by omega)).of (by rw [g, if_neg (by omega), if_neg (by omega)]) (by rw [g, he, hp, if_neg (by omega), if_pos rfl, hy])
theorem DownH.low {lt : A → A → Prop} {l : List A} {n i : Nat} (h : DownH lt l n i) (hn : n ≤ 2 * i + 1) : Heapy lt l n := fun k hk hkn => h.rest k hk hkn (by unfold par; omega)
theorem DownH.stop {lt : A → A → Prop} (o : Ordy lt) {l : List A} {n i j : Nat} {x y : A} (h : DownH lt l n i) (hx : l[i]? = some x) (hy : l[j]? = some y) (hlt : ¬ lt y x)
    (hm : ∀ k, 0 < k → k < n → par k = i → Ov lt l k j) : Heapy lt l n := by
  intro k hk hkn
  by_cases e : par k = i
  · intro a b ha hb
    rw [e, hx] at hb
    cases hb
    exact o.neg _ _ _ (hm k hk hkn e a y ha hy) hlt
  · exact h.rest k hk hkn e
/-- Of one or two below a place the first, or the second one, is the least. -/
theorem below_first {lt : A → A → Prop} (o : Ordy lt) {l : List A} {n i : Nat} (h : 2 * i + 2 < n → Ov lt l (2 * i + 2) (2 * i + 1)) : ∀ k, 0 < k → k < n → par k = i → Ov lt l k (2 * i + 1) := fun k hk hkn he => by
  have : k = 2 * i + 1 ∨ k = 2 * i + 2 := by unfold par at he; omega
  rcases this with rfl | rfl
  · intro a b ha hb
    rw [ha] at hb
    cases hb
    exact o.irr _
  · exact h hkn
theorem below_second {lt : A → A → Prop} (o : Ordy lt) {l : List A} {n i : Nat} {x y : A} (hx : l[2 * i + 2]? = some x) (hy : l[2 * i + 1]? = some y) (h : lt x y) : ∀ k, 0 < k → k < n → par k = i → Ov lt l k (2 * i + 2) := fun k hk hkn he => by
  have : k = 2 * i + 1 ∨ k = 2 * i + 2 := by unfold par at he; omega
  rcases this with rfl | rfl
  · intro a b ha hb
    rw [hy] at ha
    rw [hx] at hb
    cases ha; cases hb
    exact fun q => o.irr _ (o.tr _ _ _ q h)
  · intro a b ha hb
    rw [ha] at hb
    cases hb
    exact o.irr _
theorem Heapy.least {lt : A → A → Prop} (o : Ordy lt) {l : List A} {n : Nat} (h : Heapy lt l n) (hn : n ≤ l.length) : ∀ k, k < n → Ov lt l k 0 := by
  intro k
  induction k using Nat.strongRecOn with
  | _ k ih =>
    intro hk
    by_cases e : k = 0
    · subst e
      intro a b ha hb
      rw [ha] at hb
      cases hb
      exact o.irr _
    · have hp := par_lt (Nat.pos_of_ne_zero e)
      intro a b ha hb
      have hy : l[par k]? = some l[par k] := List.getElem?_eq_getElem (by omega)
      exact o.neg _ _ _ (h k (Nat.pos_of_ne_zero e) hk a _ ha hy) (ih _ hp (by omega) _ b hy hb)
theorem Heapy.pop {lt : A → A → Prop} {l : List A} {n : Nat} {x y : A} (h : Heapy lt l (n + 1)) (hx : l[0]? = some x) (hy : l[n]? = some y) : DownH lt (swp l 0 n x y) n 0 := by
  have g := swp_get hx hy
  refine ⟨fun k hk hkn hne => ?_, fun h0 => absurd h0 (by omega)⟩
  have hp := par_lt hk
  exact (h k hk (by omega)).of (by rw [g, if_neg (by omega), if_neg (by omega)]) (by rw [g, if_neg (by omega), if_neg hne])
theorem Heapy.cut {lt : A → A → Prop} {l : List A} {n : Nat} (h : Heapy lt l n) : Heapy lt (l.take n) n := fun i hi hin => by
  have hp := par_lt hi
  exact (h i hi hin).of (List.getElem?_take_of_lt hin) (List.getElem?_take_of_lt (by omega))
theorem Heapy.nil (lt : A → A → Prop) : Heapy lt [] 0 := fun i _ h => absurd h (by omega)
end
end Go.Proofs.Yticpljjbnfimkaa.Hog
/- In which order places come, by counting for how many each one waits: plainly. Nothing here names the program. -/
namespace Go.Proofs.Yticpljjbnfimkaa.Hog

section
variable {N T : Type}
/-- Does a reference of the item at this place count? -/
def edge (f : N → Option Nat) (a : Nat) (r : N) : Option Nat := match f r with
  | some z => if z = a then none else some z
  | none => none
theorem edge_some {f : N → Option Nat} {a z : Nat} {r : N} : edge f a r = some z ↔ f r = some z ∧ z ≠ a := by
  unfold edge
  cases h : f r with
  | none => simp
  | some y =>
    show (if y = a then none else some y) = some z ↔ _
    by_cases e : y = a
    · rw [if_pos e]
      constructor
      · intro h; cases h
      · rintro ⟨h1, h2⟩
        cases h1
        exact absurd e h2
    · rw [if_neg e]
      constructor
      · intro h; cases h; exact ⟨rfl, e⟩
      · rintro ⟨h1, _⟩; exact h1
/-- For which places the item at this place waits. -/
def needE (is : List (N × List N × T)) (f : N → Option Nat) (a : Nat) : List Nat := match is[a]? with
  | some i => i.2.1.filterMap (edge f a)
  | none => []
theorem mem_needE {is : List (N × List N × T)} {f : N → Option Nat} {a z : Nat} : z ∈ needE is f a ↔ ∃ i, is[a]? = some i ∧ ∃ r ∈ i.2.1, f r = some z ∧ z ≠ a := by
  unfold needE
  cases h : is[a]? with
  | none => simp
  | some i =>
    show z ∈ i.2.1.filterMap (edge f a) ↔ _
    rw [List.mem_filterMap]
    constructor
    · rintro ⟨r, hr, e⟩
      exact ⟨i, rfl, r, hr, edge_some.1 e⟩
    · rintro ⟨j, e, r, hr, k⟩
      cases e
      exact ⟨r, hr, edge_some.2 k⟩

end

section
variable {N T : Type} [Inhabited N]

/-- The name at a place. -/
def nmP (is : List (N × List N × T)) (z : Nat) : N := match is[z]? with
  | some i => i.1
  | none => default
theorem nmP_at {is : List (N × List N × T)} {z : Nat} {i : N × List N × T} (h : is[z]? = some i) : nmP is z = i.1 := by unfold nmP; rw [h]
/-- f tells the place of each name. -/
structure Idx (is : List (N × List N × T)) (f : N → Option Nat) : Prop where
  at' : ∀ z, z < is.length → f (nmP is z) = some z
  of' : ∀ x z, f x = some z → z < is.length ∧ nmP is z = x
theorem Idx.inj {is : List (N × List N × T)} {f : N → Option Nat} (h : Idx is f) {a b : Nat} (ha : a < is.length) (hb : b < is.length) (e : nmP is a = nmP is b) : a = b := by
  have h1 := h.at' a ha
  rw [e, h.at' b hb] at h1
  exact (Option.some.inj h1).symm
theorem Idx.one {is : List (N × List N × T)} {f : N → Option Nat} (h : Idx is f) {a : Nat} {i j : N × List N × T} (ha : is[a]? = some i) (hj : j ∈ is) (e : j.1 = i.1) : j = i := by
  obtain ⟨b, hb⟩ := List.getElem?_of_mem hj
  have := h.inj (List.getElem?_eq_some_iff.1 hb).1 (List.getElem?_eq_some_iff.1 ha).1 (by rw [nmP_at hb, nmP_at ha, e])
  subst this
  rw [ha] at hb
  exact (Option.some.inj hb).symm
theorem can_place {is : List (N × List N × T)} {f : N → Option Nat} (h : Idx is f) {P : List Nat} (hP : ∀ z ∈ P, z < is.length) {a : Nat} (ha : a < is.length) :
    Can is (P.map (nmP is)) (nmP is a) ↔ ¬ a ∈ P ∧ ∀ z ∈ needE is f a, z ∈ P := by
  have hi : is[a]? = some is[a] := List.getElem?_eq_getElem ha
  have back : ∀ z, z < is.length → nmP is z ∈ P.map (nmP is) → z ∈ P := fun z hz hm => by
    obtain ⟨y, hy, e⟩ := List.mem_map.1 hm
    rw [h.inj (hP y hy) hz e] at hy
    exact hy
  constructor
  · rintro ⟨h1, i, hi2, e, hn⟩
    refine ⟨fun hm => h1 (List.mem_map.2 ⟨a, hm, rfl⟩), fun z hz => ?_⟩
    obtain ⟨j, hj, r, hr, hfr, hza⟩ := mem_needE.1 hz
    rw [hi] at hj
    cases hj
    have e2 := h.one hi hi2 (by rw [e, nmP_at hi])
    subst e2
    obtain ⟨hzl, hzn⟩ := h.of' r z hfr
    refine back z hzl (hzn ▸ hn r ⟨hr, ?_, fun e3 => hza ?_⟩)
    · rw [← hzn, nmP_at (List.getElem?_eq_getElem hzl)]
      exact List.mem_map.2 ⟨_, List.getElem_mem hzl, rfl⟩
    · rw [← nmP_at hi] at e3
      have h4 := h.at' a ha
      rw [← e3, hfr] at h4
      exact Option.some.inj h4
  · rintro ⟨h1, h2⟩
    refine ⟨fun hm => h1 (back a ha hm), is[a], List.getElem_mem ha, (nmP_at hi).symm, fun y hy => ?_⟩
    obtain ⟨q1, q2, q3⟩ := hy
    obtain ⟨j, hj, e⟩ := List.mem_map.1 q2
    obtain ⟨b, hb⟩ := List.getElem?_of_mem hj
    have hbl := (List.getElem?_eq_some_iff.1 hb).1
    have hf := h.at' b hbl
    rw [nmP_at hb, e] at hf
    have hm := h2 b (mem_needE.2 ⟨_, hi, y, q1, hf, fun e3 => q3 (by subst e3; rw [hi] at hb; cases hb; exact e.symm)⟩)
    exact List.mem_map.2 ⟨b, hm, by rw [nmP_at hb, e]⟩
theorem can_named {is : List (N × List N × T)} {o : List N} {x : N} (h : Can is o x) : ∃ a, a < is.length ∧ nmP is a = x := by
  obtain ⟨_, i, hi, e, _⟩ := h
  obtain ⟨a, ha⟩ := List.getElem?_of_mem hi
  exact ⟨a, (List.getElem?_eq_some_iff.1 ha).1, by rw [nmP_at ha, e]⟩

/-- How many of these are not among those. -/
def left (l P : List Nat) : Nat := (l.filter fun y => decide (¬ y ∈ P)).length
theorem left_nil (l : List Nat) : left l [] = l.length := by unfold left; rw [List.filter_eq_self.2]; intro a _; simp
theorem left_zero {l P : List Nat} : left l P = 0 ↔ ∀ z ∈ l, z ∈ P := by
  unfold left
  rw [List.length_eq_zero_iff, List.filter_eq_nil_iff]
  simp
theorem left_snoc {P : List Nat} {z : Nat} (hz : ¬ z ∈ P) : ∀ l : List Nat, left l P = left l (P ++ [z]) + l.count z
  | [] => rfl
  | y :: r => by
    have ih := left_snoc hz r
    unfold left at ih ⊢
    rw [List.filter_cons, List.filter_cons, List.count_cons]
    by_cases e : y = z
    · subst e
      rw [if_pos (by simpa using hz), if_neg (by simp), List.length_cons, ih]
      simp
      omega
    · by_cases e2 : y ∈ P
      · rw [if_neg (by simpa using e2), if_neg (by simp [e2]), ih]
        simp [e]
      · rw [if_pos (by simpa using e2), if_pos (by simp [e, e2]), List.length_cons, List.length_cons, ih]
        simp [e]
        omega

/-- How far it has come: P came, H could come next, and for so many each one waits. -/
structure Kahn (lt : N → N → Prop) (is : List (N × List N × T)) (f : N → Option Nat) (P H cs : List Nat) : Prop where
  len : cs.length = is.length
  each : (P ++ H).Nodup
  low : ∀ z ∈ P ++ H, z < is.length
  cnt : ∀ (a m : Nat), cs[a]? = some m → m = left (needE is f a) P
  zero : ∀ (a m : Nat), cs[a]? = some m → (m = 0 ↔ a ∈ P ++ H)
  ordered : Greedy lt is (P.map (nmP is))
theorem Kahn.free {lt : N → N → Prop} {is : List (N × List N × T)} {f : N → Option Nat} {P H cs : List Nat} (h : Kahn lt is f P H cs) (hf : Idx is f) {a : Nat} (ha : a < is.length) : Can is (P.map (nmP is)) (nmP is a) ↔ a ∈ H := by
  have hc : cs[a]? = some (cs[a]'(by have := h.len; omega)) := List.getElem?_eq_getElem _
  have h1 := h.cnt a _ hc
  have h2 := h.zero a _ hc
  rw [can_place hf (fun z hz => h.low z (List.mem_append_left _ hz)) ha]
  constructor
  · rintro ⟨k1, k2⟩
    rcases List.mem_append.1 (h2.1 (by rw [h1]; exact left_zero.2 k2)) with k | k
    · exact absurd k k1
    · exact k
  · intro k
    refine ⟨fun k1 => (List.nodup_append.1 h.each).2.2 a k1 a k rfl, left_zero.1 ?_⟩
    rw [← h1]
    exact h2.2 (List.mem_append_right _ k)
theorem Kahn.best {lt : N → N → Prop} {is : List (N × List N × T)} {f : N → Option Nat} {P H cs : List Nat} (h : Kahn lt is f P H cs) (hf : Idx is f) {z : Nat} (hz : z ∈ H) (hm : ∀ y ∈ H, ¬ lt (nmP is y) (nmP is z)) : Best lt is (P.map (nmP is)) (nmP is z) := by
  refine ⟨(h.free hf (h.low z (List.mem_append_right _ hz))).2 hz, fun y hy => ?_⟩
  obtain ⟨a, ha, rfl⟩ := can_named hy
  exact hm a ((h.free hf ha).1 hy)
/-- .. while those that waited for z are gone through. -/
structure Kin (lt : N → N → Prop) (is : List (N × List N × T)) (f : N → Option Nat) (P : List Nat) (z : Nat) (pre H cs : List Nat) : Prop where
  len : cs.length = is.length
  each : ((P ++ [z]) ++ H).Nodup
  low : ∀ y ∈ (P ++ [z]) ++ H, y < is.length
  cnt : ∀ (a m : Nat), cs[a]? = some m → m + pre.count a = left (needE is f a) P
  zero : ∀ (a m : Nat), cs[a]? = some m → (m = 0 ↔ a ∈ (P ++ [z]) ++ H)
  ordered : Greedy lt is ((P ++ [z]).map (nmP is))
theorem Kahn.take {lt : N → N → Prop} {is : List (N × List N × T)} {f : N → Option Nat} {P H H' cs : List Nat} {z : Nat} (h : Kahn lt is f P H cs) (hf : Idx is f) (hp : H.Perm (z :: H')) (hm : ∀ y ∈ H, ¬ lt (nmP is y) (nmP is z)) : Kin lt is f P z [] H' cs := by
  have hq : (P ++ H).Perm ((P ++ [z]) ++ H') := by
    rw [List.append_assoc]
    exact List.Perm.append_left P (by simpa using hp)
  refine ⟨h.len, hq.nodup_iff.1 h.each, fun y hy => h.low y (hq.mem_iff.2 hy), fun a m ha => by rw [List.count_nil, Nat.add_zero]; exact h.cnt a m ha, fun a m ha => by rw [← hq.mem_iff]; exact h.zero a m ha, ?_⟩
  rw [List.map_append]
  exact h.ordered.snoc (h.best hf (hp.mem_iff.2 List.mem_cons_self) hm)
theorem Kin.done {lt : N → N → Prop} {is : List (N × List N × T)} {f : N → Option Nat} {P H cs us : List Nat} {z : Nat} (h : Kin lt is f P z us H cs) (hu : ∀ a, a < is.length → us.count a = (needE is f a).count z) : Kahn lt is f (P ++ [z]) H cs := by
  have hz : ¬ z ∈ P := fun hm => by
    have h1 := (List.nodup_append.1 (List.nodup_append.1 h.each).1).2.2 z hm z (List.mem_singleton.2 rfl)
    exact h1 rfl
  refine ⟨h.len, h.each, h.low, fun a m ha => ?_, h.zero, h.ordered⟩
  have h1 := h.cnt a m ha
  rw [hu a (by have := (List.getElem?_eq_some_iff.1 ha).1; have := h.len; omega), left_snoc hz] at h1
  omega
/-- What waits for z still waits. -/
theorem Kin.waits {lt : N → N → Prop} {is : List (N × List N × T)} {f : N → Option Nat} {P H cs us : List Nat} {z k u m : Nat} (h : Kin lt is f P z (us.take k) H cs) (hz : ¬ z ∈ P) (hu : ∀ a, a < is.length → us.count a = (needE is f a).count z) (hk : us[k]? = some u) (hm : cs[u]? = some m) : 0 < m := by
  have h1 := h.cnt u m hm
  rw [left_snoc hz, ← hu u (by have := (List.getElem?_eq_some_iff.1 hm).1; have := h.len; omega)] at h1
  obtain ⟨hk2, e⟩ := List.getElem?_eq_some_iff.1 hk
  have h2 : us.count u = (us.take k).count u + (us.drop k).count u := by rw [← List.count_append, List.take_append_drop]
  rw [List.drop_eq_getElem_cons hk2, e, List.count_cons_self] at h2
  omega
theorem count_take {us : List Nat} {k u : Nat} (hk : us[k]? = some u) (a : Nat) : (us.take (k + 1)).count a = (us.take k).count a + if u = a then 1 else 0 := by
  obtain ⟨hk2, e⟩ := List.getElem?_eq_some_iff.1 hk
  rw [List.take_succ_eq_append_getElem hk2, List.count_append, e, List.count_singleton]
  simp
/-- One that waited waits for one less .. -/
theorem Kin.less {lt : N → N → Prop} {is : List (N × List N × T)} {f : N → Option Nat} {P H cs us : List Nat} {z k u m : Nat} (h : Kin lt is f P z (us.take k) H cs) (hk : us[k]? = some u) (hm : cs[u]? = some (m + 1)) (h0 : m ≠ 0) : Kin lt is f P z (us.take (k + 1)) H (cs.set u m) := by
  have get : ∀ a q, (cs.set u m)[a]? = some q → (a = u ∧ q = m) ∨ (a ≠ u ∧ cs[a]? = some q) := fun a q hq => by
    rw [List.getElem?_set] at hq
    by_cases e : u = a
    · rw [if_pos e] at hq
      split at hq
      · cases hq; exact .inl ⟨e.symm, rfl⟩
      · cases hq
    · rw [if_neg e] at hq
      exact .inr ⟨fun e2 => e e2.symm, hq⟩
  refine ⟨by rw [List.length_set]; exact h.len, h.each, h.low, fun a q hq => ?_, fun a q hq => ?_, h.ordered⟩
  · rw [count_take hk]
    rcases get a q hq with ⟨rfl, rfl⟩ | ⟨e, hq⟩
    · have := h.cnt a _ hm
      rw [if_pos rfl]
      omega
    · have := h.cnt a q hq
      rw [if_neg (fun e2 => e e2.symm)]
      omega
  · rcases get a q hq with ⟨rfl, rfl⟩ | ⟨e, hq⟩
    · have := h.zero a _ hm
      constructor
      · intro e; exact absurd e h0
      · intro e; exact absurd (this.2 e) (by omega)
    · exact h.zero a q hq
/-- .. or for none any more. -/
theorem Kin.last {lt : N → N → Prop} {is : List (N × List N × T)} {f : N → Option Nat} {P H H' cs us : List Nat} {z k u : Nat} (h : Kin lt is f P z (us.take k) H cs) (hk : us[k]? = some u) (hm : cs[u]? = some 1) (hp : H'.Perm (u :: H)) : Kin lt is f P z (us.take (k + 1)) H' (cs.set u 0) := by
  have get : ∀ a q, (cs.set u 0)[a]? = some q → (a = u ∧ q = 0) ∨ (a ≠ u ∧ cs[a]? = some q) := fun a q hq => by
    rw [List.getElem?_set] at hq
    by_cases e : u = a
    · rw [if_pos e] at hq
      split at hq
      · cases hq; exact .inl ⟨e.symm, rfl⟩
      · cases hq
    · rw [if_neg e] at hq
      exact .inr ⟨fun e2 => e e2.symm, hq⟩
  have hnot : ¬ u ∈ (P ++ [z]) ++ H := fun e => by have := (h.zero u 1 hm).2 e; omega
  have hq : ((P ++ [z]) ++ H').Perm (u :: ((P ++ [z]) ++ H)) := (List.Perm.append_left _ hp).trans List.perm_middle
  refine ⟨by rw [List.length_set]; exact h.len, hq.nodup_iff.2 (List.nodup_cons.2 ⟨hnot, h.each⟩), fun y hy => ?_, fun a q hq => ?_, fun a q hqq => ?_, h.ordered⟩
  · rcases List.mem_cons.1 (hq.mem_iff.1 hy) with rfl | hy
    · have := (List.getElem?_eq_some_iff.1 hm).1
      have := h.len
      omega
    · exact h.low y hy
  · rw [count_take hk]
    rcases get a q hq with ⟨rfl, rfl⟩ | ⟨e, hq⟩
    · have := h.cnt a _ hm
      rw [if_pos rfl]
      omega
    · have := h.cnt a q hq
      rw [if_neg (fun e2 => e e2.symm)]
      omega
  · rw [hq.mem_iff, List.mem_cons]
    rcases get a q hqq with ⟨rfl, rfl⟩ | ⟨e, hqq⟩
    · exact ⟨fun _ => .inl rfl, fun _ => rfl⟩
    · rw [h.zero a q hqq]
      constructor
      · exact .inr
      · rintro (e2 | e2)
        · exact absurd e2 e
        · exact e2
/-- Nothing could come next: it has ended. -/
theorem Kahn.ended {lt : N → N → Prop} {is : List (N × List N × T)} {f : N → Option Nat} {P cs : List Nat} (h : Kahn lt is f P [] cs) (hf : Idx is f) : OrdIs lt is (if P.length = is.length then some (P.map (nmP is)) else none) := by
  have hl := h.ordered.few
  rw [List.length_map] at hl
  by_cases e : P.length = is.length
  · rw [if_pos e]
    exact .all h.ordered (by rw [List.length_map]; exact e)
  · rw [if_neg e]
    refine .none h.ordered (by rw [List.length_map]; omega) fun x hx => ?_
    obtain ⟨a, ha, rfl⟩ := can_named hx
    exact absurd ((h.free hf ha).1 hx) (by simp)
/-- It begins with those that wait for none. -/
theorem Kahn.begin (lt : N → N → Prop) {is : List (N × List N × T)} {f : N → Option Nat} {H cs : List Nat} (hl : cs.length = is.length) (hc : ∀ (a m : Nat), cs[a]? = some m → m = (needE is f a).length) (hn : H.Nodup) (hH : ∀ a, a ∈ H ↔ a < cs.length ∧ cs[a]? = some 0) : Kahn lt is f [] H cs := by
  refine ⟨hl, by simpa using hn, fun z hz => ?_, fun a m ha => by rw [left_nil]; exact hc a m ha, fun a m ha => ?_, by simpa using Greedy.nil lt is⟩
  · have := (hH z).1 (by simpa using hz)
    omega
  · have h1 := hH a
    rw [List.nil_append, h1, ha]
    constructor
    · rintro rfl
      exact ⟨(List.getElem?_eq_some_iff.1 ha).1, rfl⟩
    · rintro ⟨_, e⟩
      exact Option.some.inj e
end
end Go.Proofs.Yticpljjbnfimkaa.Hog
/- Who waits for whom, as it is gathered reference by reference: plainly. Nothing here names the program. -/
namespace Go.Proofs.Yticpljjbnfimkaa.Hog

/-- One waits for one more. -/
def updE (E : Nat → List Nat) (k z : Nat) : Nat → List Nat := fun a => if a = k then E k ++ [z] else E a
/-- ls has, at each place, those that wait for it; ws for how many each one waits; E for which. -/
structure Lnk (n : Nat) (E : Nat → List Nat) (ls : List (List Nat)) (ws : List Nat) (tot : Nat) : Prop where
  ll : ls.length = n
  wl : ws.length = n
  wait : ∀ (a m : Nat), ws[a]? = some m → m = (E a).length
  user : ∀ (z : Nat) (l : List Nat), ls[z]? = some l → ∀ a, l.count a = (E a).count z
  mem : ∀ l ∈ ls, (∀ u ∈ l, u < n) ∧ l.length ≤ tot
  few : ∀ m ∈ ws, m ≤ tot
theorem Lnk.begin (n : Nat) (E : Nat → List Nat) (hE : ∀ a, E a = []) : Lnk n E (List.replicate n []) (List.replicate n 0) 0 := by
  refine ⟨by simp, by simp, fun a m h => ?_, fun z l h a => ?_, fun l hl => ?_, fun m hm => ?_⟩
  · rw [List.getElem?_replicate] at h
    split at h
    · cases h; rw [hE]; rfl
    · cases h
  · rw [List.getElem?_replicate] at h
    split at h
    · cases h; rw [hE]; rfl
    · cases h
  · rw [(List.mem_replicate.1 hl).2]; simp
  · rw [(List.mem_replicate.1 hm).2]; exact Nat.le_refl _
theorem Lnk.more {n : Nat} {E : Nat → List Nat} {ls : List (List Nat)} {ws : List Nat} {tot k z m : Nat} {l : List Nat} (h : Lnk n E ls ws tot) (hk : k < n) (hl : ls[z]? = some l) (hm : ws[k]? = some m) :
    Lnk n (updE E k z) (ls.set z (l ++ [k])) (ws.set k (m + 1)) (tot + 1) := by
  refine ⟨by rw [List.length_set]; exact h.ll, by rw [List.length_set]; exact h.wl, fun a q hq => ?_, fun y l' hy a => ?_, fun l' hl' => ?_, fun q hq => ?_⟩
  · rw [List.getElem?_set] at hq
    unfold updE
    by_cases e : k = a
    · subst e
      rw [if_pos rfl] at hq
      split at hq
      · cases hq
        rw [if_pos rfl, List.length_append, List.length_singleton, h.wait k m hm]
      · cases hq
    · rw [if_neg e] at hq
      rw [if_neg (fun e2 => e e2.symm)]
      exact h.wait a q hq
  · rw [List.getElem?_set] at hy
    unfold updE
    by_cases e : z = y
    · subst e
      rw [if_pos rfl] at hy
      split at hy
      · cases hy
        rw [List.count_append, h.user z l hl a]
        by_cases e2 : a = k
        · subst e2
          rw [if_pos rfl, List.count_append]
          simp
        · rw [if_neg e2, List.count_singleton]
          simp
          intro e3
          exact absurd e3.symm e2
      · cases hy
    · rw [if_neg e] at hy
      rw [h.user y l' hy a]
      by_cases e2 : a = k
      · subst e2
        rw [if_pos rfl, List.count_append, List.count_singleton]
        simp [e]
      · rw [if_neg e2]
  · rcases List.mem_or_eq_of_mem_set hl' with hl' | rfl
    · obtain ⟨h1, h2⟩ := h.mem l' hl'
      exact ⟨h1, by omega⟩
    · obtain ⟨h1, h2⟩ := h.mem l (List.mem_of_getElem? hl)
      refine ⟨fun u hu => ?_, by rw [List.length_append]; simp; exact h2⟩
      rcases List.mem_append.1 hu with hu | hu
      · exact h1 u hu
      · rw [List.mem_singleton.1 hu]; exact hk
  · rcases List.mem_or_eq_of_mem_set hq with hq | rfl
    · have := h.few q hq; omega
    · have := h.few m (List.mem_of_getElem? hm); omega

section
variable {N T : Type}
/-- For which each one waits: of the first k items all, of the next one the first j references. -/
def partE (is : List (N × List N × T)) (f : N → Option Nat) (k j : Nat) : Nat → List Nat := fun a => if a < k then needE is f a else if a = k then (match is[k]? with | some i => (i.2.1.take j).filterMap (edge f k) | none => []) else []
theorem partE_zero (is : List (N × List N × T)) (f : N → Option Nat) (a : Nat) : partE is f 0 0 a = [] := by
  unfold partE
  rw [if_neg (by omega)]
  split
  · cases is[0]? <;> simp
  · rfl
theorem partE_next {is : List (N × List N × T)} {f : N → Option Nat} {k j : Nat} {i : N × List N × T} (hi : is[k]? = some i) (hj : i.2.1.length ≤ j) : partE is f k j = partE is f (k + 1) 0 := by
  funext a
  unfold partE
  by_cases h : a < k
  · rw [if_pos h, if_pos (by omega)]
  · rw [if_neg h]
    by_cases e : a = k
    · subst e
      rw [if_pos rfl, if_pos (by omega), hi]
      unfold needE
      rw [hi]
      show (i.2.1.take j).filterMap (edge f a) = _
      rw [List.take_of_length_le hj]
    · rw [if_neg e, if_neg (by omega)]
      split
      · cases is[k + 1]? <;> simp
      · rfl
theorem partE_skip {is : List (N × List N × T)} {f : N → Option Nat} {k j : Nat} {i : N × List N × T} {r : N} (hi : is[k]? = some i) (hr : i.2.1[j]? = some r) (he : edge f k r = none) : partE is f k (j + 1) = partE is f k j := by
  obtain ⟨hj, rfl⟩ := List.getElem?_eq_some_iff.1 hr
  funext a
  unfold partE
  by_cases h : a < k
  · rw [if_pos h, if_pos h]
  · rw [if_neg h, if_neg h]
    by_cases e : a = k
    · rw [if_pos e, if_pos e, hi]
      show (i.2.1.take (j + 1)).filterMap (edge f k) = (i.2.1.take j).filterMap (edge f k)
      rw [List.take_succ_eq_append_getElem hj, List.filterMap_append]
      simp [he]
    · rw [if_neg e, if_neg e]
theorem partE_hit {is : List (N × List N × T)} {f : N → Option Nat} {k j z : Nat} {i : N × List N × T} {r : N} (hi : is[k]? = some i) (hr : i.2.1[j]? = some r) (he : edge f k r = some z) : partE is f k (j + 1) = updE (partE is f k j) k z := by
  obtain ⟨hj, rfl⟩ := List.getElem?_eq_some_iff.1 hr
  funext a
  unfold updE
  by_cases e : a = k
  · subst e
    rw [if_pos rfl]
    unfold partE
    rw [if_neg (Nat.lt_irrefl a), if_pos rfl, if_neg (Nat.lt_irrefl a), if_pos rfl, hi]
    show (i.2.1.take (j + 1)).filterMap (edge f a) = (i.2.1.take j).filterMap (edge f a) ++ [z]
    rw [List.take_succ_eq_append_getElem hj, List.filterMap_append]
    simp [he]
  · rw [if_neg e]
    unfold partE
    rw [if_neg e, if_neg e]
theorem partE_end (is : List (N × List N × T)) (f : N → Option Nat) : partE is f is.length 0 = needE is f := by
  funext a
  unfold partE
  by_cases h : a < is.length
  · rw [if_pos h]
  · rw [if_neg h]
    have e1 : is[a]? = none := List.getElem?_eq_none (by omega)
    have e2 : needE is f a = [] := by unfold needE; rw [e1]
    rw [e2]
    split
    · rename_i e
      rw [← e, e1]
    · rfl
end
end Go.Proofs.Yticpljjbnfimkaa.Hog
/- A chain comes from behind: plainly. Nothing here names the program. -/
namespace Go.Proofs.Yticpljjbnfimkaa.Hog
open Go

section
variable {N T : Type}
theorem ord_single {lt : N → N → Prop} (irr : ∀ x, ¬ lt x x) {i : N × List N × T} (h : i.2.1 = []) : OrdIs lt [i] (some [i.1]) := by
  refine .all ((Greedy.nil lt [i]).snoc (o := []) ⟨⟨by simp, i, List.mem_singleton.2 rfl, rfl, fun y hy => by have := hy.1; rw [h] at this; exact absurd this (by simp)⟩, fun y hy => ?_⟩) rfl
  obtain ⟨_, j, hj, e, _⟩ := hy
  rw [List.mem_singleton.1 hj] at e
  rw [← e]
  exact irr _
/-- An item more, to which nobody refers, and which refers to the one that comes last, comes behind that. -/
theorem ord_after {lt : N → N → Prop} (irr : ∀ x, ¬ lt x x) {is : List (N × List N × T)} {z : N × List N × T} (hz : ¬ z.1 ∈ is.map (·.1)) (hr : ∀ i ∈ is, ¬ z.1 ∈ i.2.1) {o' : List N} {y : N} (hy : y ∈ z.2.1) (h : OrdIs lt is (some (o' ++ [y]))) : OrdIs lt (z :: is) (some (o' ++ [y] ++ [z.1])) := by
  rcases h with ⟨o2, e0, h1, h2⟩ | ⟨e0, _⟩
  · obtain rfl := Option.some.inj e0
    have hym : y ∈ is.map (·.1) := h1.there (by simp)
    have up : Greedy lt (z :: is) (o' ++ [y]) := fun k x hx => by
      have hb := h1 k x hx
      have hxm : x ∈ is.map (·.1) := h1.there (List.mem_of_getElem? hx)
      refine ⟨(can_last hz hr (fun e => hz (e ▸ hxm))).2 hb.1, fun u hu => ?_⟩
      by_cases e : u = z.1
      · subst e
        exfalso
        obtain ⟨_, i, hi, ei, hn⟩ := hu
        rcases List.mem_cons.1 hi with rfl | hi
        · have hyin := hn y ⟨hy, by rw [List.map_cons]; exact List.mem_cons_of_mem _ hym, fun e => hz (e ▸ hym)⟩
          have hk := (List.getElem?_eq_some_iff.1 hx).1
          have hnd := h1.each
          obtain ⟨j, hj⟩ := List.getElem?_of_mem hyin
          have hj2 : (o' ++ [y])[j]? = some y := by
            rw [List.getElem?_take] at hj
            split at hj
            · exact hj
            · cases hj
          have hjk : j < k := by
            have := (List.getElem?_eq_some_iff.1 hj).1
            rw [List.length_take] at this
            omega
          have hlast : (o' ++ [y])[o'.length]? = some y := by simp
          have := (List.getElem?_inj (List.getElem?_eq_some_iff.1 hj2).1 hnd).1 (hj2.trans hlast.symm)
          rw [List.length_append, List.length_singleton] at hk
          omega
        · exact hz (List.mem_map.2 ⟨i, hi, ei⟩)
      · exact hb.2 u ((can_last hz hr e).1 hu)
    refine .all (up.snoc ⟨⟨fun hm => hz (h1.there hm), z, List.mem_cons_self, rfl, fun u hu => ?_⟩, fun u hu => ?_⟩) (by rw [List.length_append, List.length_cons, h2]; rfl)
    · have h3 := hu.2.1
      rw [List.map_cons] at h3
      rcases List.mem_cons.1 h3 with h3 | h3
      · exact absurd h3 hu.2.2
      · exact h1.full h2 h3
    · by_cases e : u = z.1
      · rw [e]; exact irr _
      · have h3 := (can_last hz hr e).1 hu
        obtain ⟨i, hi, ei, _⟩ := h3.2
        exact absurd (h1.full h2 (List.mem_map.2 ⟨i, hi, ei⟩)) h3.1
  · cases e0
/-- Each one but the last refers to the next one, and to no other. -/
def Chain : List (N × List N × T) → Prop
  | [] => False
  | [i] => i.2.1 = []
  | i :: j :: r => i.2.1 = [j.1] ∧ Chain (j :: r)
theorem Chain.one {i : N × List N × T} (h : i.2.1 = []) : Chain [i] := h
theorem Chain.more {i j : N × List N × T} {r : List (N × List N × T)} (h : i.2.1 = [j.1]) (k : Chain (j :: r)) : Chain (i :: j :: r) := ⟨h, k⟩
theorem Chain.refs : ∀ {is : List (N × List N × T)}, Chain is → ∀ i ∈ is, ∀ x ∈ i.2.1, x ∈ is.map (·.1)
  | [], h => h.elim
  | [z], h => fun i hi x hx => by
    have h1 : z.2.1 = [] := h
    rw [List.mem_singleton.1 hi, h1] at hx
    simp at hx
  | z :: j :: r, h => fun i hi x hx => by
    rcases List.mem_cons.1 hi with rfl | hi
    · rw [h.1] at hx
      rw [List.mem_singleton.1 hx]
      simp
    · rw [List.map_cons]
      exact List.mem_cons_of_mem _ (Chain.refs h.2 i hi x hx)
theorem ord_chain {lt : N → N → Prop} (irr : ∀ x, ¬ lt x x) : ∀ {is : List (N × List N × T)}, Chain is → (is.map (·.1)).Nodup → OrdIs lt is (some (is.map (·.1)).reverse)
  | [], h, _ => h.elim
  | [i], h, _ => ord_single irr h
  | i :: j :: r, h, hu => by
    rw [List.map_cons] at hu
    obtain ⟨h1, h2⟩ := List.nodup_cons.1 hu
    have h3 := ord_chain irr h.2 h2
    rw [List.map_cons, List.reverse_cons] at h3
    rw [List.map_cons, List.reverse_cons, List.map_cons, List.reverse_cons]
    exact ord_after irr h1 (fun x hx hm => h1 (Chain.refs h.2 x hx _ hm)) (by rw [h.1]; exact List.mem_singleton.2 rfl) h3
end
end Go.Proofs.Yticpljjbnfimkaa.Hog
