/- What ItemEdges needs, plainly: items that may not be. -/
import Derived.Test.YtggojmimodpfaaaDoorXC
import Derived.Test.YtggojmimodpfaaaDoorO1
namespace Go.Proofs.YtggojmimodpfaaaDoor
open Go.RowKit

theorem badFrom_less : ∀ (r ahead : List Nd), badFrom ahead r < 0 ↔ ∀ (i : Nat) n, r[i]? = some n → refusesB (ahead ++ r.take i) n = false
  | [], ahead => by simp [badFrom]
  | x :: r, ahead => by
    rw [badFrom]
    cases h : refusesB ahead x with
    | true =>
      rw [if_pos rfl]
      constructor
      · intro k; omega
      · intro k
        have := k 0 x rfl
        rw [List.take_zero, List.append_nil, h] at this
        cases this
    | false =>
      rw [if_neg (by decide), badFrom_less r (ahead ++ [x])]
      constructor
      · intro k i n hn
        cases i with
        | zero => simp at hn; subst hn; simpa using h
        | succ i => have := k i n (by simpa using hn); simpa using this
      · intro k i n hn
        have := k (i + 1) n (by simpa using hn)
        simpa using this
theorem mayN_iff7 {t : List Nd} : mayN t = true ↔ t ≠ [] ∧ ∀ (i : Nat) n, t[i]? = some n → refusesB (t.take i) n = false := by
  unfold mayN badN
  rw [decide_eq_true_eq]
  cases t with
  | nil => simp
  | cons x r =>
    simp only [List.isEmpty_cons, Bool.false_eq_true, if_false, ne_eq, reduceCtorEq, not_false_eq_true, true_and]
    have := badFrom_less (x :: r) []
    simpa using this
/-- A tree with the root once more behind it is none. -/
theorem may_root {t : List Nd} (h : mayN t = true) (d : ByteArray) (k : Int) : mayN (t ++ [(⟨#[]⟩, k, d)]) = false := by
  cases e : mayN (t ++ [(⟨#[]⟩, k, d)]) with
  | false => rfl
  | true =>
    obtain ⟨hne, _⟩ := mayN_iff7.1 h
    have h2 := (mayN_iff7.1 e).2 t.length (⟨#[]⟩, k, d) (by simp)
    rw [List.take_left] at h2
    obtain ⟨z, hz⟩ : ∃ z, t.getLast? = some z := ⟨t.getLast hne, List.getLast?_eq_some_getLast hne⟩
    unfold refusesB at h2
    rw [hz] at h2
    have h3 : ltN z (⟨#[]⟩, k, d) = false := by
      unfold ltN
      show Op.bytesLess _ [] = false
      cases z.1.data.toList <;> rfl
    simp only [h3] at h2
    simp at h2

theorem mayI_parts {i : It} (h : mayI i = true) : Hog.nameL i.1.data.toList = true ∧ refsB i.2.1 = true ∧ ownB i.2.2 = true := by
  unfold mayI at h
  simp only [Bool.and_eq_true] at h
  exact ⟨h.1.1, h.1.2, h.2⟩
theorem ownB_may {t : List Nd} (h : ownB t = true) : mayN t = true := by
  unfold ownB at h
  simp only [Bool.and_eq_true] at h
  exact h.1.2
theorem edge_name {i : It} (h : mayI i = true) : mayI (i.1 ++ ⟨#[47]⟩, i.2.1, i.2.2) = false := by
  obtain ⟨h1, _, _⟩ := mayI_parts h
  have k := Hog.name_iff.1 h1
  have e : Hog.nameL (i.1 ++ ⟨#[47]⟩).data.toList = false := Hog.name_not fun q => by
    have h2 := q.rest i.1.data.toList.length 47 (by have := k.low; omega) (by rw [app_data]; simp)
    revert h2
    decide
  unfold mayI
  rw [e]; rfl
theorem edge_twice {i : It} (h : mayI i = true) : mayI (i.1, [i.1, i.1], i.2.2) = false := by
  obtain ⟨h1, _, _⟩ := mayI_parts h
  have e : refsB [i.1, i.1] = false := refs_fall (k := 1) (by simp) ((refAt_next (x := i.1) (y := i.1) rfl rfl h1).trans (Hog.less_irr _))
  unfold mayI
  show (Hog.nameL i.1.data.toList && refsB [i.1, i.1] && ownB i.2.2) = false
  rw [e]; simp
theorem edge_order {i : It} : mayI (i.1, [⟨#[49, 49, 50, 51, 52, 53, 54, 97, 45, 120]⟩, ⟨#[48, 49, 50, 51, 52, 53, 54, 97, 45, 120]⟩], i.2.2) = false := by
  have e : refsB [⟨#[49, 49, 50, 51, 52, 53, 54, 97, 45, 120]⟩, ⟨#[48, 49, 50, 51, 52, 53, 54, 97, 45, 120]⟩] = false := by decide +kernel
  unfold mayI
  show (Hog.nameL i.1.data.toList && refsB [⟨#[49, 49, 50, 51, 52, 53, 54, 97, 45, 120]⟩, ⟨#[48, 49, 50, 51, 52, 53, 54, 97, 45, 120]⟩] && ownB i.2.2) = false
  rw [e]; simp
theorem edge_none {i : It} : mayI (i.1, i.2.1, []) = false := by
  unfold mayI
  show (Hog.nameL i.1.data.toList && refsB i.2.1 && ownB []) = false
  rw [own_not may_nil]; simp
theorem edge_root {i : It} (h : mayI i = true) : mayI (i.1, i.2.1, i.2.2 ++ [(⟨#[]⟩, 2, ⟨#[]⟩)]) = false := by
  obtain ⟨_, _, h3⟩ := mayI_parts h
  unfold mayI
  show (Hog.nameL i.1.data.toList && refsB i.2.1 && ownB (i.2.2 ++ [(⟨#[]⟩, 2, ⟨#[]⟩)])) = false
  rw [own_not (may_root (ownB_may h3) _ _)]; simp
theorem edge_many {i : It} {t : List Nd} (h : 24 < t.length) : mayI (i.1, i.2.1, t) = false := by
  unfold mayI
  show (Hog.nameL i.1.data.toList && refsB i.2.1 && ownB t) = false
  rw [own_many h]; simp
theorem edge_unlike {i j : It} (h : mayI i = true) (k : mayI j = false) : decide (i = j) = false := by
  rw [decide_eq_false_iff_not]
  intro e
  rw [e, k] at h
  cases h
end Go.Proofs.YtggojmimodpfaaaDoor
