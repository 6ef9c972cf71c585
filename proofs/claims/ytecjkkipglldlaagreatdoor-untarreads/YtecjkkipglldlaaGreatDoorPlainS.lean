/- Plain facts on lists of nodes: sorted by paths, equals in their order. -/
import Derived.Test.YtecjkkipglldlaaGreatDoorJ4
namespace Go.Proofs.YtecjkkipglldlaaGreatDoor

theorem ltN_irr (x : Nd) : ltN x x = false := Hog.less_irr _
theorem leN_trans {x y z : Nd} (h : ltN y x = false) (k : ltN z y = false) : ltN z x = false := by
  cases e : ltN z x with
  | false => rfl
  | true =>
    rcases Hog.not_less_iff.1 h with h1 | h1
    · unfold ltN at e k
      rw [← h1, k] at e
      cases e
    · have : ltN z y = true := ltN_trans e h1
      rw [this] at k
      cases k
theorem lt_leN {x y z : Nd} (h : ltN x y = true) (k : ltN z y = false) : ltN x z = true := by
  rcases Hog.not_less_iff.1 k with e | e
  · unfold ltN at h ⊢; rw [e]; exact h
  · exact ltN_trans h e
theorem le_ltN {x y z : Nd} (h : ltN y x = false) (k : ltN y z = true) : ltN x z = true := by
  rcases Hog.not_less_iff.1 h with e | e
  · unfold ltN at k ⊢; rw [← e]; exact k
  · exact ltN_trans e k
theorem key_eq {x y : Nd} (h : ltN x y = false) (k : ltN y x = false) : x.1 = y.1 := by
  rcases Hog.not_less_iff.1 h with h1 | h1
  · rw [bytes_eq, Lib.toList_data, Lib.toList_data]; exact h1
  · have : ltN y x = true := h1
    rw [this] at k
    cases k
theorem key_ne {x y : Nd} (h : ltN x y = true) : x.1 ≠ y.1 := by
  intro e
  unfold ltN at h
  rw [e, Hog.less_irr] at h
  cases h

/-- Sorted by paths. -/
def Srtd (l : List Nd) : Prop := l.Pairwise fun x y => ltN y x = false
/-- The same nodes, those of one path in one order. -/
def Alike (l m : List Nd) : Prop := ∀ p : ByteArray, l.filter (fun x => decide (x.1 = p)) = m.filter fun x => decide (x.1 = p)
theorem Alike.refl (l : List Nd) : Alike l l := fun _ => rfl
theorem Alike.symm {l m : List Nd} (h : Alike l m) : Alike m l := fun p => (h p).symm
theorem Alike.trans {l m k : List Nd} (h : Alike l m) (h' : Alike m k) : Alike l k := fun p => (h p).trans (h' p)
theorem Alike.app {a b c d : List Nd} (h : Alike a b) (k : Alike c d) : Alike (a ++ c) (b ++ d) := fun p => by rw [List.filter_append, List.filter_append, h p, k p]
theorem Alike.flip {x y : List Nd} (h : ∀ a ∈ x, ∀ b ∈ y, a.1 ≠ b.1) : Alike (x ++ y) (y ++ x) := fun p => by
  rw [List.filter_append, List.filter_append]
  by_cases hx : ∃ a ∈ x, a.1 = p
  · obtain ⟨a, ha, rfl⟩ := hx
    have : y.filter (fun z => decide (z.1 = a.1)) = [] := by
      rw [List.filter_eq_nil_iff]
      intro b hb
      simp only [decide_eq_true_eq]
      exact fun e => h a ha b hb e.symm
    rw [this]; simp
  · have : x.filter (fun z => decide (z.1 = p)) = [] := by
      rw [List.filter_eq_nil_iff]
      intro a ha
      simp only [decide_eq_true_eq]
      exact fun e => hx ⟨a, ha, e⟩
    rw [this]; simp
theorem Alike.mem {l m : List Nd} (h : Alike l m) {x : Nd} : x ∈ l ↔ x ∈ m := by
  have key : ∀ k : List Nd, x ∈ k ↔ x ∈ k.filter fun y => decide (y.1 = x.1) := fun k => by simp
  rw [key l, key m, h x.1]
theorem srtd_nil : Srtd [] := List.Pairwise.nil
theorem srtd_one (x : Nd) : Srtd [x] := List.pairwise_singleton _ _
theorem srtd_app {a b : List Nd} : Srtd (a ++ b) ↔ Srtd a ∧ Srtd b ∧ ∀ x ∈ a, ∀ y ∈ b, ltN y x = false := List.pairwise_append
theorem srtd_unique : ∀ {l m : List Nd}, Srtd l → Srtd m → Alike l m → l = m
  | [], [], _, _, _ => rfl
  | [], y :: m, _, _, h => by have := (h.mem (x := y)).2 (by simp); simp at this
  | x :: l, [], _, _, h => by have := (h.mem (x := x)).1 (by simp); simp at this
  | x :: l, y :: m, hl, hm, h => by
    have hl' := List.pairwise_cons.1 hl
    have hm' := List.pairwise_cons.1 hm
    have e1 : ltN y x = false := by
      have := (h.mem (x := y)).2 (by simp)
      rcases List.mem_cons.1 this with rfl | h1
      · exact ltN_irr _
      · exact hl'.1 y h1
    have e2 : ltN x y = false := by
      have := (h.mem (x := x)).1 (by simp)
      rcases List.mem_cons.1 this with rfl | h1
      · exact ltN_irr _
      · exact hm'.1 x h1
    have hk := key_eq e2 e1
    have hp := h x.1
    rw [List.filter_cons, List.filter_cons, if_pos (by simp), if_pos (by simp [hk])] at hp
    injection hp with h1 h2
    subst h1
    have hr : Alike l m := fun p => by
      have hq := h p
      rw [List.filter_cons, List.filter_cons] at hq
      by_cases hxp : x.1 = p
      · rw [if_pos (by simp [hxp]), if_pos (by simp [hxp])] at hq
        injection hq
      · rw [if_neg (by simp [hxp]), if_neg (by simp [hxp])] at hq
        exact hq
    rw [srtd_unique hl'.2 hm'.2 hr]
theorem srtd_get {l : List Nd} : Srtd l ↔ ∀ (i j : Nat) x y, i < j → l[i]? = some x → l[j]? = some y → ltN y x = false := by
  unfold Srtd
  rw [List.pairwise_iff_getElem]
  constructor
  · intro h i j x y hij hx hy
    obtain ⟨hi, rfl⟩ := List.getElem?_eq_some_iff.1 hx
    obtain ⟨hj, rfl⟩ := List.getElem?_eq_some_iff.1 hy
    exact h i j hi hj hij
  · intro h i j hi hj hij
    exact h i j _ _ hij (List.getElem?_eq_getElem hi) (List.getElem?_eq_getElem hj)
theorem rising_srtd {l : List Nd} (h : Rising l) : Srtd l := srtd_get.2 fun i j x y hij hx hy => ltN_asymm (h i j x y hij hx hy)

/-- x is put ahead of all that is not ahead of it. -/
theorem ins_front {x : Nd} {b1 b2 : List Nd} (hb : Srtd (b1 ++ b2)) (h1 : ∀ y ∈ b1, ltN y x = true) (h2 : ∀ y ∈ b2, ltN y x = false) : Srtd (b1 ++ x :: b2) ∧ Alike (x :: (b1 ++ b2)) (b1 ++ x :: b2) := by
  obtain ⟨k1, k2, k3⟩ := srtd_app.1 hb
  refine ⟨srtd_app.2 ⟨k1, List.pairwise_cons.2 ⟨h2, k2⟩, fun z hz y hy => ?_⟩, ?_⟩
  · rcases List.mem_cons.1 hy with rfl | hy
    · exact ltN_asymm (h1 z hz)
    · exact k3 z hz y hy
  · have := (Alike.flip (x := [x]) (y := b1) (by intro a ha b hb e; simp at ha; subst ha; exact key_ne (h1 b hb) e.symm)).app (Alike.refl b2)
    simpa using this
/-- y is put behind all that it is not ahead of. -/
theorem ins_back {y : Nd} {a1 a2 : List Nd} (ha : Srtd (a1 ++ a2)) (h1 : ∀ x ∈ a1, ltN y x = false) (h2 : ∀ x ∈ a2, ltN y x = true) : Srtd (a1 ++ y :: a2) ∧ Alike ((a1 ++ a2) ++ [y]) (a1 ++ y :: a2) := by
  obtain ⟨k1, k2, k3⟩ := srtd_app.1 ha
  refine ⟨srtd_app.2 ⟨k1, List.pairwise_cons.2 ⟨fun z hz => ltN_asymm (h2 z hz), k2⟩, fun z hz x hx => ?_⟩, ?_⟩
  · rcases List.mem_cons.1 hx with rfl | hx
    · exact h1 z hz
    · exact k3 z hz x hx
  · have := (Alike.refl a1).app (Alike.flip (x := a2) (y := [y]) (by intro a ha b hb e; simp at hb; subst hb; exact key_ne (h2 a ha) e.symm))
    simpa using this
end Go.Proofs.YtecjkkipglldlaaGreatDoor
