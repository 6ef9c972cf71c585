/- What is got and what is reached among named things that refer to one another: plainly. Nothing here names the program. -/
import Derived.Test.YtinjbijigjfdfaaDoorPlainR
namespace Go.Proofs.YtinjbijigjfdfaaDoor.Hog
open Go

/-- What has each of its members once, all within another list, is no longer than that. -/
theorem nodup_le {A : Type} [DecidableEq A] : ∀ {l m : List A}, l.Nodup → (∀ x ∈ l, x ∈ m) → l.length ≤ m.length
  | [], _, _, _ => Nat.zero_le _
  | a :: l, m, h, k => by
    obtain ⟨h1, h2⟩ := List.nodup_cons.1 h
    have h3 : l.length ≤ (m.erase a).length := nodup_le h2 fun x hx => (List.mem_erase_of_ne (fun (e : x = a) => h1 (e ▸ hx))).2 (k x (List.mem_cons_of_mem _ hx))
    rw [List.length_erase_of_mem (k a List.mem_cons_self)] at h3
    have := List.length_pos_of_mem (k a List.mem_cons_self)
    rw [List.length_cons]
    omega

section
variable {N T : Type} [DecidableEq N]

/-- The first one of that name. -/
def getK (is : List (N × List N × T)) (x : N) : Option (N × List N × T) := is.find? fun i => decide (i.1 = x)
/-- Its place. -/
def firstK (is : List (N × List N × T)) (x : N) : Option Nat := is.findIdx? fun i => decide (i.1 = x)

theorem firstK_some {is : List (N × List N × T)} {x : N} {k : Nat} (h : firstK is x = some k) : ∃ i, is[k]? = some i ∧ i.1 = x ∧ getK is x = some i := by
  unfold firstK at h
  obtain ⟨hk, h1, h2⟩ := List.findIdx?_eq_some_iff_getElem.1 h
  refine ⟨is[k], List.getElem?_eq_getElem hk, by simpa using h1, ?_⟩
  unfold getK
  rw [List.find?_eq_some_iff_getElem]
  exact ⟨h1, k, hk, rfl, fun j hj => by simpa using h2 j hj⟩
theorem firstK_none {is : List (N × List N × T)} {x : N} : firstK is x = none ↔ getK is x = none := by
  unfold firstK getK
  rw [List.findIdx?_eq_none_iff, List.find?_eq_none]
  constructor
  · intro h i hi; rw [h i hi]; decide
  · intro h i hi; exact Bool.eq_false_iff.2 (h i hi)
theorem getK_some {is : List (N × List N × T)} {x : N} {i : N × List N × T} (h : getK is x = some i) : i ∈ is ∧ i.1 = x := by
  unfold getK at h
  exact ⟨List.mem_of_find?_eq_some h, by simpa using List.find?_some h⟩
theorem getK_none {is : List (N × List N × T)} {x : N} : getK is x = none ↔ ¬ x ∈ is.map (·.1) := by
  unfold getK
  rw [List.find?_eq_none]
  constructor
  · intro h hx
    obtain ⟨i, hi, e⟩ := List.mem_map.1 hx
    exact absurd (by simpa using e) (h i hi)
  · intro h i hi e
    exact h (List.mem_map.2 ⟨i, hi, by simpa using e⟩)
theorem getK_isSome {is : List (N × List N × T)} {x : N} : (getK is x).isSome = true ↔ x ∈ is.map (·.1) := by
  cases h : getK is x with
  | none => simp only [Option.isSome_none, Bool.false_eq_true, false_iff]; exact getK_none.1 h
  | some i =>
    simp only [Option.isSome_some, true_iff]
    obtain ⟨h1, h2⟩ := getK_some h
    exact List.mem_map.2 ⟨i, h1, h2⟩
theorem firstK_isSome {is : List (N × List N × T)} {x : N} : (firstK is x).isSome = true ↔ x ∈ is.map (·.1) := by
  rw [← getK_isSome]
  cases h : firstK is x with
  | none => rw [firstK_none.1 h]; exact Iff.rfl
  | some k => obtain ⟨i, _, _, hi⟩ := firstK_some h; rw [hi]; simp
theorem firstK_lt {is : List (N × List N × T)} {x : N} {k : Nat} (h : firstK is x = some k) : k < is.length := by
  obtain ⟨i, hi, _⟩ := firstK_some h
  exact (List.getElem?_eq_some_iff.1 hi).1
theorem firstK_inj {is : List (N × List N × T)} {x y : N} {k : Nat} (h : firstK is x = some k) (h' : firstK is y = some k) : x = y := by
  obtain ⟨i, hi, e, _⟩ := firstK_some h
  obtain ⟨j, hj, f, _⟩ := firstK_some h'
  rw [hi] at hj; cases hj
  exact e.symm.trans f

/-- What is reached: whatever holds the first ones, and all that these refer to, holds it. -/
def Rch (is : List (N × List N × T)) (ns : List N) (x : N) : Prop := ∀ P : N → Prop, (∀ y, y ∈ ns → y ∈ is.map (·.1) → P y) → (∀ z y i, P y → getK is y = some i → z ∈ i.2.1 → z ∈ is.map (·.1) → P z) → P x
theorem Rch.start {is : List (N × List N × T)} {ns : List N} {x : N} (h : x ∈ ns) (k : x ∈ is.map (·.1)) : Rch is ns x := fun _ h1 _ => h1 x h k
theorem Rch.step {is : List (N × List N × T)} {ns : List N} {x y : N} {i : N × List N × T} (h : Rch is ns y) (g : getK is y = some i) (m : x ∈ i.2.1) (k : x ∈ is.map (·.1)) : Rch is ns x := fun P h1 h2 => h2 x y i (h P h1 h2) g m k
theorem Rch.there {is : List (N × List N × T)} {ns : List N} {x : N} (h : Rch is ns x) : x ∈ is.map (·.1) := h (fun z => z ∈ is.map (·.1)) (fun _ _ k => k) (fun _ _ _ _ _ _ k => k)
theorem Rch.mono {is : List (N × List N × T)} {ns ms : List N} {x : N} (h : Rch is ns x) (hs : ∀ y ∈ ns, y ∈ ms) : Rch is ms x :=
  h (fun z => Rch is ms z) (fun y hy k => .start (hs y hy) k) (fun _ _ _ ih g m k => .step ih g m k)
theorem Rch.again {is : List (N × List N × T)} {ns ms : List N} {x : N} (h : Rch is ms x) (hs : ∀ y ∈ ms, y ∈ is.map (·.1) → Rch is ns y) : Rch is ns x :=
  h (fun z => Rch is ns z) (fun y hy k => hs y hy k) (fun _ _ _ ih g m k => .step ih g m k)
/-- Whatever holds the first ones and all that these refer to holds all that is reached. -/
theorem Rch.within {is : List (N × List N × T)} {ns : List N} {P : N → Prop} (h1 : ∀ x ∈ ns, x ∈ is.map (·.1) → P x)
    (h2 : ∀ y i, P y → getK is y = some i → ∀ x ∈ i.2.1, x ∈ is.map (·.1) → P x) {x : N} (h : Rch is ns x) : P x :=
  h P (fun y hy k => h1 y hy k) (fun z y i ih g m k => h2 y i ih g z m k)

/-- What is left when x is taken. -/
def delK {B : Type} (f : N → Option B) (x : N) : N → Option B := fun q => if q = x then none else f q
def takeS {B : Type} (s : (N → Option B) × List B) (x : N) : (N → Option B) × List B :=
  match s.1 x with
  | some z => (delK s.1 x, s.2 ++ [z])
  | none => s
theorem takeS_some {B : Type} {s : (N → Option B) × List B} {x : N} {z : B} (h : s.1 x = some z) : takeS s x = (delK s.1 x, s.2 ++ [z]) := by unfold takeS; rw [h]
theorem takeS_none {B : Type} {s : (N → Option B) × List B} {x : N} (h : s.1 x = none) : takeS s x = s := by unfold takeS; rw [h]
def takeK {B : Type} (f : N → Option B) (xs : List N) : (N → Option B) × List B := xs.foldl takeS (f, [])
theorem takeK_nil {B : Type} (f : N → Option B) : takeK f [] = (f, []) := rfl
theorem takeK_in {B : Type} {f : N → Option B} {xs : List N} {k : Nat} {x : N} {z : B} (hx : xs[k]? = some x) (h : (takeK f (xs.take k)).1 x = some z) :
    takeK f (xs.take (k + 1)) = (delK (takeK f (xs.take k)).1 x, (takeK f (xs.take k)).2 ++ [z]) := by
  unfold takeK at h ⊢
  rw [List.take_add_one, hx, Option.toList_some, List.foldl_append, List.foldl_cons, List.foldl_nil]
  exact takeS_some h
theorem takeK_out {B : Type} {f : N → Option B} {xs : List N} {k : Nat} {x : N} (hx : xs[k]? = some x) (h : (takeK f (xs.take k)).1 x = none) :
    takeK f (xs.take (k + 1)) = takeK f (xs.take k) := by
  unfold takeK at h ⊢
  rw [List.take_add_one, hx, Option.toList_some, List.foldl_append, List.foldl_cons, List.foldl_nil]
  exact takeS_none h

/-- f is what is left of g behind the places zs. -/
structure Left {B : Type} (g f : N → Option B) (zs : List B) : Prop where
  left : ∀ q z, f q = some z ↔ g q = some z ∧ ¬ z ∈ zs
  each : zs.Nodup
theorem Left.take {B : Type} [DecidableEq B] {g f : N → Option B} {zs : List B} (hg : ∀ x y z, g x = some z → g y = some z → x = y) (h : Left g f zs) (xs : List N) :
    Left g (takeK f xs).1 (zs ++ (takeK f xs).2) ∧ (∀ y ∈ (takeK f xs).2, ∃ x ∈ xs, g x = some y) ∧ (∀ x ∈ xs, ∀ y, g x = some y → y ∈ zs ++ (takeK f xs).2) := by
  have key : ∀ k, k ≤ xs.length → Left g (takeK f (xs.take k)).1 (zs ++ (takeK f (xs.take k)).2) ∧ (∀ y ∈ (takeK f (xs.take k)).2, ∃ x ∈ xs, g x = some y) ∧
      (∀ x ∈ xs.take k, ∀ y, g x = some y → y ∈ zs ++ (takeK f (xs.take k)).2) := by
    intro k
    induction k with
    | zero =>
      intro _
      rw [List.take_zero, takeK_nil, List.append_nil]
      exact ⟨h, fun y hy => absurd hy (by simp), fun x hx => absurd hx (by simp)⟩
    | succ k ih =>
      intro hk
      obtain ⟨i1, i2, i3⟩ := ih (by omega)
      have hx : xs[k]? = some xs[k] := List.getElem?_eq_getElem (by omega)
      have hmem : ∀ x ∈ xs.take (k + 1), x ∈ xs.take k ∨ x = xs[k] := by
        intro x hm
        rw [List.take_add_one, hx, Option.toList_some, List.mem_append, List.mem_singleton] at hm
        exact hm
      cases ht : (takeK f (xs.take k)).1 xs[k] with
      | none =>
        rw [takeK_out hx ht]
        refine ⟨i1, i2, fun x hm y hy => ?_⟩
        rcases hmem x hm with hm | rfl
        · exact i3 x hm y hy
        · refine Classical.byContradiction fun hn => ?_
          rw [(i1.left _ _).2 ⟨hy, hn⟩] at ht
          cases ht
      | some z =>
        rw [takeK_in hx ht]
        obtain ⟨g1, g2⟩ := (i1.left _ _).1 ht
        refine ⟨⟨fun q y => ?_, ?_⟩, fun y hy => ?_, fun x hm y hy => ?_⟩
        · show delK _ _ q = some y ↔ _
          unfold delK
          by_cases e : q = xs[k]
          · rw [if_pos e, ← List.append_assoc]
            constructor
            · intro h; cases h
            · rintro ⟨a1, a2⟩
              rw [e, g1] at a1; cases a1
              exact absurd (List.mem_append_right _ (List.mem_singleton.2 rfl)) a2
          · rw [if_neg e, i1.left, ← List.append_assoc]
            constructor
            · rintro ⟨a1, a2⟩
              refine ⟨a1, fun hm => ?_⟩
              rcases List.mem_append.1 hm with hm | hm
              · exact a2 hm
              · rw [List.mem_singleton.1 hm] at a1
                exact e (hg _ _ _ a1 g1)
            · rintro ⟨a1, a2⟩
              exact ⟨a1, fun hm => a2 (List.mem_append_left _ hm)⟩
        · rw [← List.append_assoc]
          exact List.nodup_append.2 ⟨i1.each, by simp, fun a ha b hb e => by
            rw [List.mem_singleton.1 hb] at e
            exact g2 (e ▸ ha)⟩
        · rcases List.mem_append.1 hy with hy | hy
          · exact i2 y hy
          · rw [List.mem_singleton.1 hy]
            exact ⟨xs[k], List.getElem_mem _, g1⟩
        · rw [← List.append_assoc]
          rcases hmem x hm with hm | rfl
          · exact List.mem_append_left _ (i3 x hm y hy)
          · rw [g1] at hy; cases hy
            exact List.mem_append_right _ (List.mem_singleton.2 rfl)
  have := key xs.length (Nat.le_refl _)
  rw [List.take_length] at this
  exact this

/-- The state of the walk through what is reached: f is left, zs the places reached, the first n of them looked through. -/
structure Walk (is : List (N × List N × T)) (ns : List N) (f : N → Option Nat) (zs : List Nat) (n : Nat) : Prop where
  rest : Left (firstK is) f zs
  good : ∀ z ∈ zs, ∃ x, firstK is x = some z ∧ Rch is ns x
  begun : ∀ x ∈ ns, ∀ z, firstK is x = some z → z ∈ zs
  done : ∀ (j z : Nat) i, j < n → zs[j]? = some z → is[z]? = some i → ∀ x ∈ i.2.1, ∀ y, firstK is x = some y → y ∈ zs
theorem Walk.begin (is : List (N × List N × T)) (ns : List N) : Walk is ns (takeK (firstK is) ns).1 (takeK (firstK is) ns).2 0 := by
  obtain ⟨h1, h2, h3⟩ := Left.take (g := firstK is) (f := firstK is) (zs := []) (fun _ _ _ => firstK_inj) ⟨fun q z => by simp, List.nodup_nil⟩ ns
  rw [List.nil_append] at h1
  refine ⟨h1, fun z hz => ?_, fun x hx z hz => by simpa using h3 x hx z hz, fun j z i hj => absurd hj (by omega)⟩
  obtain ⟨x, hx, he⟩ := h2 z hz
  exact ⟨x, he, .start hx (firstK_isSome.1 (by rw [he]; rfl))⟩
theorem Walk.next {is : List (N × List N × T)} {ns : List N} {f : N → Option Nat} {zs : List Nat} {n z : Nat} {i : N × List N × T} (h : Walk is ns f zs n) (hz : zs[n]? = some z) (hi : is[z]? = some i) :
    Walk is ns (takeK f i.2.1).1 (zs ++ (takeK f i.2.1).2) (n + 1) := by
  obtain ⟨h1, h2, h3⟩ := Left.take (g := firstK is) (fun _ _ _ => firstK_inj) h.rest i.2.1
  obtain ⟨q, hq, hr⟩ := h.good z (List.mem_of_getElem? hz)
  obtain ⟨i', e1, e2, e3⟩ := firstK_some hq
  rw [hi] at e1; cases e1
  refine ⟨h1, fun y hy => ?_, fun x hx y hy => List.mem_append_left _ (h.begun x hx y hy), fun j y i' hj hy hi' x hx u hu => ?_⟩
  · rcases List.mem_append.1 hy with hy | hy
    · exact h.good y hy
    · obtain ⟨x, hx, he⟩ := h2 y hy
      exact ⟨x, he, .step hr e3 hx (firstK_isSome.1 (by rw [he]; rfl))⟩
  · have hlt := (List.getElem?_eq_some_iff.1 hz).1
    rw [List.getElem?_append_left (by omega)] at hy
    by_cases e : j = n
    · subst e
      rw [hz] at hy; cases hy
      rw [hi] at hi'; cases hi'
      exact h3 x hx u hu
    · exact List.mem_append_left _ (h.done j y i' (by omega) hy hi' x hx u hu)
theorem Walk.low {is : List (N × List N × T)} {ns : List N} {f : N → Option Nat} {zs : List Nat} {n : Nat} (h : Walk is ns f zs n) : zs.length ≤ is.length ∧ ∀ z ∈ zs, z < is.length := by
  have h2 : ∀ z ∈ zs, z < is.length := fun z hz => by obtain ⟨x, hx, _⟩ := h.good z hz; exact firstK_lt hx
  refine ⟨?_, h2⟩
  have := nodup_le (m := List.range is.length) h.rest.each fun z hz => List.mem_range.2 (h2 z hz)
  rwa [List.length_range] at this
/-- At the end the names at these places are what is reached. -/
theorem Walk.ended {is : List (N × List N × T)} {ns : List N} {f : N → Option Nat} {zs : List Nat} (h : Walk is ns f zs zs.length) (x : N) : Rch is ns x ↔ ∃ z ∈ zs, firstK is x = some z := by
  have some_of : ∀ {x}, x ∈ is.map (·.1) → ∃ z, firstK is x = some z := fun hx => Option.isSome_iff_exists.1 (firstK_isSome.2 hx)
  constructor
  · intro hr
    refine hr.within (P := fun x => ∃ z ∈ zs, firstK is x = some z) (fun x hx k => ?_) (fun y i hy g x hx k => ?_)
    · obtain ⟨z, hz⟩ := some_of k
      exact ⟨z, h.begun x hx z hz, hz⟩
    · obtain ⟨z, hz⟩ := some_of k
      obtain ⟨u, hu, hy⟩ := hy
      obtain ⟨i', a1, a2, a3⟩ := firstK_some hy
      rw [g] at a3; cases a3
      obtain ⟨j, hj⟩ := List.getElem?_of_mem hu
      exact ⟨z, h.done j u i (List.getElem?_eq_some_iff.1 hj).1 hj a1 x hx z hz, hz⟩
  · rintro ⟨z, hz, hx⟩
    obtain ⟨y, hy, hr⟩ := h.good z hz
    rw [firstK_inj hx hy]; exact hr

/-- The document's walk: found what is found, todo what is looked at, the first n of it looked at. -/
structure Seek (is : List (N × List N × T)) (ns found todo : List N) (n : Nat) : Prop where
  each : found.Nodup
  good : ∀ x ∈ found, Rch is ns x
  from_ : ∀ x ∈ todo, x ∈ is.map (·.1) → Rch is ns x
  begun : ∀ x ∈ ns, x ∈ todo
  refs : ∀ x ∈ found, ∀ i, getK is x = some i → ∀ y ∈ i.2.1, y ∈ todo
  done : ∀ (j : Nat) x, j < n → todo[j]? = some x → x ∈ is.map (·.1) → x ∈ found
  long : ∀ m, (∀ i ∈ is, i.2.1.length ≤ m) → todo.length ≤ ns.length + found.length * m
theorem Seek.begin (is : List (N × List N × T)) (ns : List N) : Seek is ns [] ns 0 :=
  ⟨List.nodup_nil, fun _ h => absurd h (by simp), fun _ h k => .start h k, fun _ h => h, fun _ h => absurd h (by simp), fun _ _ h => absurd h (by omega), fun m _ => by simp⟩
theorem Seek.pass {is : List (N × List N × T)} {ns found todo : List N} {n : Nat} {x : N} (h : Seek is ns found todo n) (hx : todo[n]? = some x) (hp : getK is x = none ∨ x ∈ found) : Seek is ns found todo (n + 1) := by
  refine ⟨h.each, h.good, h.from_, h.begun, h.refs, fun j y hj hy k => ?_, h.long⟩
  by_cases e : j = n
  · subst e
    rw [hx] at hy; cases hy
    rcases hp with hp | hp
    · exact absurd k (getK_none.1 hp)
    · exact hp
  · exact h.done j y (by omega) hy k
theorem Seek.next {is : List (N × List N × T)} {ns found todo : List N} {n : Nat} {x : N} {i : N × List N × T} (h : Seek is ns found todo n) (hx : todo[n]? = some x) (hi : getK is x = some i) (hn : ¬ x ∈ found) :
    Seek is ns (found ++ [x]) (todo ++ i.2.1) (n + 1) := by
  have hr : Rch is ns x := h.from_ x (List.mem_of_getElem? hx) (getK_isSome.1 (by rw [hi]; rfl))
  have hlt := (List.getElem?_eq_some_iff.1 hx).1
  refine ⟨?_, fun y hy => ?_, fun y hy k => ?_, fun y hy => List.mem_append_left _ (h.begun y hy), fun y hy j hj u hu => ?_, fun j y hj hy k => ?_, fun m hm => ?_⟩
  · exact List.nodup_append.2 ⟨h.each, by simp, fun a ha b hb e => by
      rw [List.mem_singleton.1 hb] at e
      exact hn (e ▸ ha)⟩
  · rcases List.mem_append.1 hy with hy | hy
    · exact h.good y hy
    · rw [List.mem_singleton.1 hy]; exact hr
  · rcases List.mem_append.1 hy with hy | hy
    · exact h.from_ y hy k
    · exact .step hr hi hy k
  · rcases List.mem_append.1 hy with hy | hy
    · exact List.mem_append_left _ (h.refs y hy j hj u hu)
    · rw [List.mem_singleton.1 hy, hi] at hj; cases hj
      exact List.mem_append_right _ hu
  · rw [List.getElem?_append_left (by omega)] at hy
    by_cases e : j = n
    · subst e
      rw [hx] at hy; cases hy
      exact List.mem_append_right _ (List.mem_singleton.2 rfl)
    · exact List.mem_append_left _ (h.done j y (by omega) hy k)
  · have h1 := h.long m hm
    have h2 := hm i (getK_some hi).1
    rw [List.length_append, List.length_append, List.length_singleton, Nat.add_mul]
    omega
theorem Seek.few {is : List (N × List N × T)} {ns found todo : List N} {n : Nat} (h : Seek is ns found todo n) : found.length ≤ is.length := by
  have := nodup_le (m := is.map (·.1)) h.each fun x hx => (h.good x hx).there
  rwa [List.length_map] at this
theorem Seek.ended {is : List (N × List N × T)} {ns found todo : List N} {n : Nat} (h : Seek is ns found todo n) (hn : todo.length ≤ n) (x : N) : Rch is ns x ↔ x ∈ found := by
  have hall : ∀ y ∈ todo, y ∈ is.map (·.1) → y ∈ found := fun y hy k => by
    obtain ⟨j, hj⟩ := List.getElem?_of_mem hy
    exact h.done j y (by have := (List.getElem?_eq_some_iff.1 hj).1; omega) hj k
  constructor
  · intro hr
    exact hr.within (P := fun x => x ∈ found) (fun y hy k => hall y (h.begun y hy) k) (fun y i hy g u hu k => hall u (h.refs y hy i g u hu) k)
  · exact h.good x
end
end Go.Proofs.YtinjbijigjfdfaaDoor.Hog
