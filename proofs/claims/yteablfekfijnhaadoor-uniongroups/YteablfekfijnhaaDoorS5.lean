/- Plain facts on a merge by halves. -/
import Derived.Test.YteablfekfijnhaaDoorS4
namespace Go.Proofs.YteablfekfijnhaaDoor
open Go.RowKit

def CondT (A B : List Nd) (K t : Nat) : Prop := ∀ x y, A[t]? = some x → B[K - 1 - t]? = some y → ltN y x = false
def NotT (A B : List Nd) (K t : Nat) : Prop := ∀ x y, A[t]? = some x → B[K - 1 - t]? = some y → ltN y x = true
theorem srtd_le {l : List Nd} (h : Srtd l) {i j : Nat} {x y : Nd} (hij : i ≤ j) (hx : l[i]? = some x) (hy : l[j]? = some y) : ltN y x = false := by
  by_cases e : i = j
  · subst e
    rw [hx] at hy
    cases hy
    exact ltN_irr x
  · exact srtd_get.1 h i j x y (by omega) hx hy
theorem cond_step {A B : List Nd} {K h : Nat} {x y : Nd} (hA : Srtd A) (hB : Srtd B) (hK : h < K) (hx : A[h]? = some x) (hy : B[K - 1 - h]? = some y) (hc : ltN y x = false) : ∀ t, t < h + 1 → CondT A B K t := by
  intro t ht u v hu hv
  have h1 := srtd_le hA (show t ≤ h by omega) hu hx
  have h2 := srtd_le hB (show K - 1 - h ≤ K - 1 - t by omega) hy hv
  exact leN_trans h1 (leN_trans hc h2)
theorem not_step {A B : List Nd} {K h : Nat} {x y : Nd} (hA : Srtd A) (hB : Srtd B) (hx : A[h]? = some x) (hy : B[K - 1 - h]? = some y) (hc : ltN y x = true) : ∀ t, h ≤ t → t < K → NotT A B K t := by
  intro t ht hK u v hu hv
  have h1 := srtd_le hA ht hx hu
  have h2 := srtd_le hB (show K - 1 - t ≤ K - 1 - h by omega) hv hy
  exact le_ltN h2 (lt_leN hc h1)

/-- What is exchanged goes strictly ahead; what stays does so, too. -/
theorem sym_plain {A1 X Y B2 : List Nd} (hA : Srtd (A1 ++ X)) (hB : Srtd (Y ++ B2))
    (c1 : X ≠ [] → Y ≠ [] → ∃ x y, (A1 ++ X)[A1.length]? = some x ∧ (Y ++ B2)[Y.length - 1]? = some y ∧ ltN y x = true)
    (c2 : A1 ≠ [] → B2 ≠ [] → ∃ x z, (A1 ++ X)[A1.length - 1]? = some x ∧ (Y ++ B2)[Y.length]? = some z ∧ ltN z x = false) :
    (∀ x ∈ X, ∀ y ∈ Y, ltN y x = true) ∧ ∀ x ∈ A1, ∀ z ∈ B2, ltN z x = false := by
  constructor
  · intro x hx y hy
    obtain ⟨x0, y0, e1, e2, h⟩ := c1 (by rintro rfl; simp at hx) (by rintro rfl; simp at hy)
    obtain ⟨i, hi⟩ := List.mem_iff_getElem?.1 hx
    obtain ⟨j, hj⟩ := List.mem_iff_getElem?.1 hy
    have hjl := (List.getElem?_eq_some_iff.1 hj).1
    have h1 := srtd_le hA (i := A1.length) (j := A1.length + i) (by omega) e1 (by rw [List.getElem?_append_right (by omega), Nat.add_sub_cancel_left]; exact hi)
    have h2 := srtd_le hB (i := j) (j := Y.length - 1) (by omega) (by rw [List.getElem?_append_left hjl]; exact hj) e2
    exact le_ltN h2 (lt_leN h h1)
  · intro x hx z hz
    obtain ⟨x0, z0, e1, e2, h⟩ := c2 (by rintro rfl; simp at hx) (by rintro rfl; simp at hz)
    obtain ⟨i, hi⟩ := List.mem_iff_getElem?.1 hx
    obtain ⟨j, hj⟩ := List.mem_iff_getElem?.1 hz
    have hil := (List.getElem?_eq_some_iff.1 hi).1
    have h1 := srtd_le hA (i := i) (j := A1.length - 1) (by omega) (by rw [List.getElem?_append_left hil]; exact hi) e1
    have h2 := srtd_le hB (i := Y.length) (j := Y.length + j) (by omega) e2 (by rw [List.getElem?_append_right (by omega), Nat.add_sub_cancel_left]; exact hj)
    exact leN_trans h1 (leN_trans h h2)
theorem sym_join {A1 X Y B2 L R : List Nd} (hA : Srtd (A1 ++ X)) (hB : Srtd (Y ++ B2)) (hxy : ∀ x ∈ X, ∀ y ∈ Y, ltN y x = true) (hab : ∀ x ∈ A1, ∀ z ∈ B2, ltN z x = false)
    (hL : Srtd L) (hR : Srtd R) (al : Alike (A1 ++ Y) L) (ar : Alike (X ++ B2) R) : Srtd (L ++ R) ∧ Alike ((A1 ++ X) ++ (Y ++ B2)) (L ++ R) := by
  constructor
  · refine srtd_app.2 ⟨hL, hR, fun l hl r hr => ?_⟩
    have hl' := al.mem.2 hl
    have hr' := ar.mem.2 hr
    rcases List.mem_append.1 hl' with h1 | h1
    · rcases List.mem_append.1 hr' with h2 | h2
      · exact (srtd_app.1 hA).2.2 l h1 r h2
      · exact hab l h1 r h2
    · rcases List.mem_append.1 hr' with h2 | h2
      · exact ltN_asymm (hxy r h2 l h1)
      · exact (srtd_app.1 hB).2.2 l h1 r h2
  · have f : Alike (X ++ Y) (Y ++ X) := Alike.flip fun x hx y hy e => key_ne (hxy x hx y hy) e.symm
    have h1 : Alike ((A1 ++ X) ++ (Y ++ B2)) ((A1 ++ Y) ++ (X ++ B2)) := by
      have := (Alike.refl A1).app (f.app (Alike.refl B2))
      simpa using this
    exact h1.trans (al.app ar)

/-- What a merge does. -/
def SymSaid (base g cap n k : Nat) : Prop :=
  ∀ (P A B Q : List Nd) (w : World) (a m b : Nat), RowD base g cap n w (P ++ (A ++ (B ++ Q))) → P.length = a → a + A.length = m → m + B.length = b → A ≠ [] → B ≠ [] → Srtd A → Srtd B → A.length + B.length ≤ k →
    Calls Tryd.prog 48 #[.slice (some ⟨g, 0, none⟩) n cap, .int .i64 a, .int .i64 m, .int .i64 b, .func (.func 33) #[] #[]] w
      fun e w' => e = .returned (.tuple #[]) ∧ (∃ M', RowD base g cap n w' (P ++ (M' ++ Q)) ∧ Srtd M' ∧ Alike (A ++ B) M') ∧ Below base w w'
/-- The search of a merge: where it stands. -/
def SymLo (A B : List Nd) (K t0 i : Nat) : Prop := ∀ t, t0 ≤ t → t < i → CondT A B K t
def SymHi (A B : List Nd) (K t1 j : Nat) : Prop := ∀ t, j ≤ t → t < t1 → NotT A B K t
theorem sym_found {A B : List Nd} {K t0 t1 s : Nat} (hA : Srtd A) (hB : Srtd B) (h0 : t0 ≤ s) (h1 : s ≤ t1) (hsA : s ≤ A.length) (hsK : s ≤ K) (hKB : K - s ≤ B.length) (hl : SymLo A B K t0 s) (hh : SymHi A B K t1 s)
    (ht1 : t1 = A.length ∨ t1 = K) (ht0 : t0 = 0 ∨ K - t0 = B.length) :
    ∃ A1 X Y B2, A = A1 ++ X ∧ B = Y ++ B2 ∧ A1.length = s ∧ Y.length = K - s ∧ (∀ x ∈ X, ∀ y ∈ Y, ltN y x = true) ∧ ∀ x ∈ A1, ∀ z ∈ B2, ltN z x = false := by
  obtain ⟨A1, X, rfl, la, lx⟩ := split_at hsA
  obtain ⟨Y, B2, rfl, ly, lb⟩ := split_at hKB
  have hpl := sym_plain hA hB (fun hx hy => ?_) (fun ha hb => ?_)
  · exact ⟨A1, X, Y, B2, rfl, rfl, la, ly, hpl.1, hpl.2⟩
  · have hxl := List.length_pos_iff.2 hx
    have hyl := List.length_pos_iff.2 hy
    simp only [List.length_append] at *
    obtain ⟨x, ex⟩ : ∃ x, (A1 ++ X)[A1.length]? = some x := ⟨(A1 ++ X)[A1.length]'(by simp; omega), List.getElem?_eq_some_iff.2 ⟨_, rfl⟩⟩
    obtain ⟨y, ey⟩ : ∃ y, (Y ++ B2)[Y.length - 1]? = some y := ⟨(Y ++ B2)[Y.length - 1]'(by simp; omega), List.getElem?_eq_some_iff.2 ⟨_, rfl⟩⟩
    refine ⟨x, y, ex, ey, hh s (Nat.le_refl _) (by omega) x y (by rw [← la]; exact ex) ?_⟩
    rw [show K - 1 - s = Y.length - 1 by omega]
    exact ey
  · have hal := List.length_pos_iff.2 ha
    have hbl := List.length_pos_iff.2 hb
    simp only [List.length_append] at *
    obtain ⟨x, ex⟩ : ∃ x, (A1 ++ X)[A1.length - 1]? = some x := ⟨(A1 ++ X)[A1.length - 1]'(by simp; omega), List.getElem?_eq_some_iff.2 ⟨_, rfl⟩⟩
    obtain ⟨z, ez⟩ : ∃ z, (Y ++ B2)[Y.length]? = some z := ⟨(Y ++ B2)[Y.length]'(by simp; omega), List.getElem?_eq_some_iff.2 ⟨_, rfl⟩⟩
    refine ⟨x, z, ex, ez, hl (s - 1) (by omega) (by omega) x z (by rw [← la]; exact ex) ?_⟩
    rw [show K - 1 - (s - 1) = Y.length by omega]
    exact ez
end Go.Proofs.YteablfekfijnhaaDoor
