/- A heap, plainly: what a step up, a step down, a push and a pop leave of it. Nothing here names the program. -/
import Derived.Test.YticpljjbnfimkaaPlainX
namespace Go.Proofs.Yticpljjbnfimkaa.Hog

section
variable {A : Type}

/-- An order in which what is not less goes on. -/
structure Ordy (lt : A → A → Prop) : Prop where
  irr : ∀ x, ¬ lt x x
  tr : ∀ x y z, lt x y → lt y z → lt x z
  neg : ∀ x y z, ¬ lt x y → ¬ lt y z → ¬ lt x z

/-- What stands at i is not less than what stands at p. -/
def Ov (lt : A → A → Prop) (l : List A) (i p : Nat) : Prop := ∀ x y, l[i]? = some x → l[p]? = some y → ¬ lt x y
/-- Where the one above stands. -/
def par (i : Nat) : Nat := (i - 1) / 2
def Heapy (lt : A → A → Prop) (l : List A) (n : Nat) : Prop := ∀ i, 0 < i → i < n → Ov lt l i (par i)
/-- A heap but for the place j, on the way up. -/
structure UpH (lt : A → A → Prop) (l : List A) (n j : Nat) : Prop where
  rest : ∀ i, 0 < i → i < n → i ≠ j → Ov lt l i (par i)
  over : 0 < j → ∀ i, 0 < i → i < n → par i = j → Ov lt l i (par j)
/-- A heap but for the place i, on the way down. -/
structure DownH (lt : A → A → Prop) (l : List A) (n i : Nat) : Prop where
  rest : ∀ k, 0 < k → k < n → par k ≠ i → Ov lt l k (par k)
  over : 0 < i → ∀ k, 0 < k → k < n → par k = i → Ov lt l k (par i)

/-- Two change places: first x is put at j's stead .. -/
def swp (l : List A) (i j : Nat) (x y : A) : List A := (l.set i y).set j x
theorem swp_len (l : List A) (i j : Nat) (x y : A) : (swp l i j x y).length = l.length := by unfold swp; rw [List.length_set, List.length_set]
theorem swp_get {l : List A} {i j : Nat} {x y : A} (hx : l[i]? = some x) (hy : l[j]? = some y) (k : Nat) : (swp l i j x y)[k]? = if k = j then some x else if k = i then some y else l[k]? := by
  have hi := (List.getElem?_eq_some_iff.1 hx).1
  have hj := (List.getElem?_eq_some_iff.1 hy).1
  unfold swp
  rw [List.getElem?_set, List.getElem?_set, List.length_set]
  by_cases e : k = j
  · subst e; rw [if_pos rfl, if_pos rfl, if_pos hj]
  · rw [if_neg (fun h => e h.symm), if_neg e]
    by_cases e2 : k = i
    · subst e2; rw [if_pos rfl, if_pos rfl, if_pos hi]
    · rw [if_neg (fun h => e2 h.symm), if_neg e2]
theorem swp_perm {l : List A} {i j : Nat} {x y : A} (hx : l[i]? = some x) (hy : l[j]? = some y) : (swp l i j x y).Perm l := by
  obtain ⟨hi, rfl⟩ := List.getElem?_eq_some_iff.1 hx
  obtain ⟨hj, rfl⟩ := List.getElem?_eq_some_iff.1 hy
  exact List.set_set_perm hi hj

theorem par_lt {i : Nat} (h : 0 < i) : par i < i := by unfold par; omega
theorem Ov.of {lt : A → A → Prop} {l l' : List A} {i p i' p' : Nat} (h : Ov lt l i p) (e : l'[i']? = l[i]?) (e2 : l'[p']? = l[p]?) : Ov lt l' i' p' := fun x y hx hy => h x y (e ▸ hx) (e2 ▸ hy)

theorem UpH.step {lt : A → A → Prop} (o : Ordy lt) {l : List A} {n j : Nat} {x y : A} (h : UpH lt l n j) (h0 : 0 < j) (hjn : j < n) (hy : l[par j]? = some y) (hx : l[j]? = some x) (hlt : lt x y) : UpH lt (swp l (par j) j y x) n (par j) := by
  have hp := par_lt h0
  have g := swp_get hy hx
  refine ⟨fun i hi hin hne => ?_, fun hp0 i hi hin he => ?_⟩
  · by_cases e : i = j
    · subst e
      intro a b ha hb
      rw [g, if_pos rfl] at ha
      rw [g, if_neg (by omega), if_pos rfl] at hb
      cases ha; cases hb
      exact fun k => o.irr _ (o.tr _ _ _ k hlt)
    · have gi : (swp l (par j) j y x)[i]? = l[i]? := by rw [g, if_neg e, if_neg hne]
      by_cases e1 : par i = j
      · exact (h.over h0 i hi hin e1).of gi (by rw [g, e1, if_pos rfl, hy])
      · by_cases e2 : par i = par j
        · intro a b ha hb
          rw [gi] at ha
          rw [g, if_neg e1, if_pos e2] at hb
          cases hb
          have h1 := h.rest i hi hin e a y ha (by rw [e2]; exact hy)
          exact fun k => h1 (o.tr _ _ _ k hlt)
        · exact (h.rest i hi hin e).of gi (by rw [g, if_neg e1, if_neg e2])
  · have hpp := par_lt hp0
    have gp : (swp l (par j) j y x)[par (par j)]? = l[par (par j)]? := by rw [g, if_neg (by omega), if_neg (by omega)]
    have h2 := h.rest (par j) hp0 (by omega) (by omega)
    by_cases e : i = j
    · exact h2.of (by rw [g, e, if_pos rfl, hy]) gp
    · have hpi := par_lt hi
      have gi : (swp l (par j) j y x)[i]? = l[i]? := by rw [g, if_neg e, if_neg (by omega)]
      intro a b ha hb
      rw [gi] at ha
      rw [gp] at hb
      exact o.neg _ _ _ (h.rest i hi hin e a y ha (by rw [he]; exact hy)) (h2 y b hy hb)
theorem UpH.top {lt : A → A → Prop} {l : List A} {n : Nat} (h : UpH lt l n 0) : Heapy lt l n := fun i hi hin => h.rest i hi hin (by omega)
theorem UpH.stop {lt : A → A → Prop} {l : List A} {n j : Nat} {x y : A} (h : UpH lt l n j) (hy : l[par j]? = some y) (hx : l[j]? = some x) (hlt : ¬ lt x y) : Heapy lt l n := by
  intro i hi hin
  by_cases e : i = j
  · subst e
    intro a b ha hb
    rw [hx] at ha
    rw [hy] at hb
    cases ha; cases hb
    exact hlt
  · exact h.rest i hi hin e
theorem Heapy.push {lt : A → A → Prop} {l : List A} (h : Heapy lt l l.length) (x : A) : UpH lt (l ++ [x]) (l.length + 1) l.length := by
  refine ⟨fun i hi hin hne => ?_, fun h0 i hi hin he => ?_⟩
  · have hp := par_lt hi
    exact (h i hi (by omega)).of (List.getElem?_append_left (by omega)) (List.getElem?_append_left (by omega))
  · have hp := par_lt hi
    omega

theorem DownH.step {lt : A → A → Prop} (o : Ordy lt) {l : List A} {n i j : Nat} {x y : A} (h : DownH lt l n i) (h0 : 0 < j) (hjn : j < n) (hp : par j = i) (hx : l[i]? = some x) (hy : l[j]? = some y) (hlt : lt y x)
    (hm : ∀ k, 0 < k → k < n → par k = i → Ov lt l k j) : DownH lt (swp l i j x y) n j := by
  have hij : i < j := by rw [← hp]; exact par_lt h0
  have g := swp_get hx hy
  refine ⟨fun k hk hkn hne => ?_, fun _ k hk hkn he => ?_⟩
  · have hpk := par_lt hk
    by_cases e : par k = i
    · by_cases e2 : k = j
      · subst e2
        intro a b ha hb
        rw [g, if_pos rfl] at ha
        rw [g, e, if_neg (by omega), if_pos rfl] at hb
        cases ha; cases hb
        exact fun q => o.irr _ (o.tr _ _ _ q hlt)
      · exact (hm k hk hkn e).of (by rw [g, if_neg e2, if_neg (by omega)]) (by rw [g, e, if_neg (by omega), if_pos rfl, hy])
    · have gp : (swp l i j x y)[par k]? = l[par k]? := by rw [g, if_neg hne, if_neg e]
      by_cases e2 : k = i
      · subst e2
        exact (h.over hk j h0 hjn hp).of (by rw [g, if_neg (by omega), if_pos rfl, hy]) gp
      · have e3 : k ≠ j := fun q => e (by rw [q, hp])
        exact (h.rest k hk hkn e).of (by rw [g, if_neg e3, if_neg e2]) gp
  · have hpk := par_lt hk
    exact (h.rest k hk hkn (by omega)).of (by rw [g, if_neg (by omega), if_neg (by omega)]) (by rw [g, he, hp, if_neg (by omega), if_pos rfl, hy])
theorem DownH.low {lt : A → A → Prop} {l : List A} {n i : Nat} (h : DownH lt l n i) (hn : n ≤ 2 * i + 1) : Heapy lt l n := fun k hk hkn => h.rest k hk hkn (by unfold par; omega)
theorem DownH.stop {lt : A → A → Prop} (o : Ordy lt) {l : List A} {n i j : Nat} {x y : A} (h : DownH lt l n i) (hx : l[i]? = some x) (hy : l[j]? = some y) (hlt : ¬ lt y x)
    (hm : ∀ k, 0 < k → k < n → par k = i → Ov lt l k j) : Heapy lt l n := by
  intro k hk hkn
  by_cases e : par k = i
  · intro a b ha hb
    rw [e, hx] at hb
    cases hb
    exact o.neg _ _ _ (hm k hk hkn e a y ha hy) hlt
  · exact h.rest k hk hkn e
/-- Of one or two below a place the first, or the second one, is the least. -/
theorem below_first {lt : A → A → Prop} (o : Ordy lt) {l : List A} {n i : Nat} (h : 2 * i + 2 < n → Ov lt l (2 * i + 2) (2 * i + 1)) : ∀ k, 0 < k → k < n → par k = i → Ov lt l k (2 * i + 1) := fun k hk hkn he => by
  have : k = 2 * i + 1 ∨ k = 2 * i + 2 := by unfold par at he; omega
  rcases this with rfl | rfl
  · intro a b ha hb
    rw [ha] at hb
    cases hb
    exact o.irr _
  · exact h hkn
theorem below_second {lt : A → A → Prop} (o : Ordy lt) {l : List A} {n i : Nat} {x y : A} (hx : l[2 * i + 2]? = some x) (hy : l[2 * i + 1]? = some y) (h : lt x y) : ∀ k, 0 < k → k < n → par k = i → Ov lt l k (2 * i + 2) := fun k hk hkn he => by
  have : k = 2 * i + 1 ∨ k = 2 * i + 2 := by unfold par at he; omega
  rcases this with rfl | rfl
  · intro a b ha hb
    rw [hy] at ha
    rw [hx] at hb
    cases ha; cases hb
    exact fun q => o.irr _ (o.tr _ _ _ q h)
  · intro a b ha hb
    rw [ha] at hb
    cases hb
    exact o.irr _
theorem Heapy.least {lt : A → A → Prop} (o : Ordy lt) {l : List A} {n : Nat} (h : Heapy lt l n) (hn : n ≤ l.length) : ∀ k, k < n → Ov lt l k 0 := by
  intro k
  induction k using Nat.strongRecOn with
  | _ k ih =>
    intro hk
    by_cases e : k = 0
    · subst e
      intro a b ha hb
      rw [ha] at hb
      cases hb
      exact o.irr _
    · have hp := par_lt (Nat.pos_of_ne_zero e)
      intro a b ha hb
      have hy : l[par k]? = some l[par k] := List.getElem?_eq_getElem (by omega)
      exact o.neg _ _ _ (h k (Nat.pos_of_ne_zero e) hk a _ ha hy) (ih _ hp (by omega) _ b hy hb)
theorem Heapy.pop {lt : A → A → Prop} {l : List A} {n : Nat} {x y : A} (h : Heapy lt l (n + 1)) (hx : l[0]? = some x) (hy : l[n]? = some y) : DownH lt (swp l 0 n x y) n 0 := by
  have g := swp_get hx hy
  refine ⟨fun k hk hkn hne => ?_, fun h0 => absurd h0 (by omega)⟩
  have hp := par_lt hk
  exact (h k hk (by omega)).of (by rw [g, if_neg (by omega), if_neg (by omega)]) (by rw [g, if_neg (by omega), if_neg hne])
theorem Heapy.cut {lt : A → A → Prop} {l : List A} {n : Nat} (h : Heapy lt l n) : Heapy lt (l.take n) n := fun i hi hin => by
  have hp := par_lt hi
  exact (h i hi hin).of (List.getElem?_take_of_lt hin) (List.getElem?_take_of_lt (by omega))
theorem Heapy.nil (lt : A → A → Prop) : Heapy lt [] 0 := fun i _ h => absurd h (by omega)
end
end Go.Proofs.Yticpljjbnfimkaa.Hog
