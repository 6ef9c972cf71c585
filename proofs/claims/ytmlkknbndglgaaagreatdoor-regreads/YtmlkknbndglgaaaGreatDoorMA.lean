/- Which registrations may be, plainly; what is told of a text. -/
import Derived.Test.YtmlkknbndglgaaaGreatDoorPlainM
import Derived.Test.YtmlkknbndglgaaaGreatDoorKYa
import Derived.Test.YtmlkknbndglgaaaGreatDoorJ8
namespace Go.Proofs.YtmlkknbndglgaaaGreatDoor
open Go.RowKit

abbrev RI := ByteArray × List ByteArray
/-- Are these items' names, behind a first one, rising, and are their references such? -/
def holdB (h : List UInt8) : List RI → Bool
  | [] => true
  | i :: r => Op.bytesLess h i.1.data.toList && (Hog.nameL i.1.data.toList && refsB i.2) && holdB i.1.data.toList r
def polB (p : Int) : Bool := decide (p = 0) || decide (p = 1)
def showB (l : List ByteArray) : Bool := decide (l.length ≤ 8) && l.all fun x => Hog.nameL x.data.toList
def mayR (r : Hog.RegP) : Bool := prefB r.pre && polB r.pol && (decide (r.items.length ≤ 8) && holdB [] r.items) && showB r.prof

theorem mayR_iff {r : Hog.RegP} : mayR r = true ↔ prefB r.pre = true ∧ polB r.pol = true ∧ r.items.length ≤ 8 ∧ holdB [] r.items = true ∧ showB r.prof = true := by
  unfold mayR
  simp only [Bool.and_eq_true, decide_eq_true_eq]
  constructor
  · rintro ⟨⟨⟨a, b⟩, c, d⟩, e⟩; exact ⟨a, b, c, d, e⟩
  · rintro ⟨a, b, c, d, e⟩; exact ⟨⟨⟨a, b⟩, c, d⟩, e⟩
theorem polB_iff {p : Int} : polB p = true ↔ p = 0 ∨ p = 1 := by unfold polB; simp
theorem hold_each : ∀ {h : List UInt8} {is : List RI}, holdB h is = true → ∀ i ∈ is, Hog.nameL i.1.data.toList = true ∧ refsB i.2 = true
  | _, [], _, i, hi => by cases hi
  | h, x :: r, hh, i, hi => by
    unfold holdB at hh
    rw [Bool.and_eq_true, Bool.and_eq_true, Bool.and_eq_true] at hh
    rcases List.mem_cons.1 hi with rfl | hi
    · exact hh.1.2
    · exact hold_each hh.2 i hi
theorem name_small {x : List UInt8} (h : Hog.nameL x = true) : x.length ≤ 30 ∧ ¬ (10 : UInt8) ∈ x := by
  have hn := Hog.name_iff.1 h
  refine ⟨hn.high, fun hm => ?_⟩
  obtain ⟨j, hj⟩ := List.getElem?_of_mem hm
  by_cases h8 : j < 8
  · exact absurd (hn.hash j 10 h8 hj) (by decide)
  · by_cases e8 : j = 8
    · subst e8
      rw [hn.stroke] at hj
      exact absurd (Option.some.inj hj) (by decide)
    · exact absurd (hn.rest j 10 (by omega) hj) (by decide)
theorem refs_each {xs : List ByteArray} (h : refsB xs = true) : xs.length ≤ 8 ∧ ∀ x ∈ xs, Hog.nameL x.data.toList = true := by
  unfold refsB at h
  rw [Bool.and_eq_true] at h
  refine ⟨by simpa using h.1, fun x hx => ?_⟩
  obtain ⟨j, hj⟩ := List.getElem?_of_mem hx
  have h1 := List.all_eq_true.1 h.2 j (List.mem_range.2 (List.getElem?_eq_some_iff.1 hj).1)
  unfold refAt at h1
  rw [hj] at h1
  simp only [Bool.and_eq_true] at h1
  exact h1.1
theorem pref_small {p : ByteArray} (h : prefB p = true) : p.size ≤ 16 ∧ ¬ (10 : UInt8) ∈ p.data.toList := by
  unfold prefB at h
  simp only [Bool.and_eq_true, decide_eq_true_eq] at h
  refine ⟨h.1.1.2, fun hm => ?_⟩
  have h0 := h.1.2
  have h2 := h.2
  cases hl : p.data.toList with
  | nil => rw [hl] at hm; cases hm
  | cons a r =>
    rw [hl] at hm h0 h2
    rcases List.mem_cons.1 hm with e | e
    · rw [← e] at h0; exact absurd (Option.some.inj h0) (by decide)
    · have := List.all_eq_true.1 h2 10 (by simpa using e)
      exact absurd this (by decide)
theorem rows_each {P : ByteArray → Prop} {r : Hog.RegP} (h : mayR r = true) (hp : ∀ x, prefB x = true → P x) (hn : ∀ x, Hog.nameL x.data.toList = true → P x) (h0 : P (Hog.mk [48])) (h1 : P (Hog.mk [49])) : ∀ k ∈ Hog.rowsM r, P k.2 := by
  obtain ⟨a, _, _, d, e⟩ := mayR_iff.1 h
  intro k hk
  unfold Hog.rowsM at hk
  rcases List.mem_cons.1 hk with rfl | hk
  · exact hp _ a
  · rcases List.mem_cons.1 hk with rfl | hk
    · show P (Hog.digM r.pol)
      unfold Hog.digM
      split
      · exact h1
      · exact h0
    · rcases List.mem_append.1 hk with hk | hk
      · obtain ⟨i, hi, hk⟩ := List.mem_flatMap.1 hk
        obtain ⟨k1, k2⟩ := hold_each d i hi
        rcases List.mem_cons.1 hk with rfl | hk
        · exact hn _ k1
        · obtain ⟨x, hx, rfl⟩ := List.mem_map.1 hk
          exact hn _ ((refs_each k2).2 x hx)
      · obtain ⟨x, hx, rfl⟩ := List.mem_map.1 hk
        unfold showB at e
        rw [Bool.and_eq_true] at e
        exact hn _ (List.all_eq_true.1 e.2 x hx)
theorem mayR_noten {r : Hog.RegP} (h : mayR r = true) : Hog.NoTen r :=
  rows_each (P := fun x => ¬ (10 : UInt8) ∈ x.data.toList) h (fun x hx => (pref_small hx).2) (fun x hx => (name_small hx).2) (by decide) (by decide)
theorem mayR_rows {r : Hog.RegP} (h : mayR r = true) : (Hog.rowsM r).length ≤ 82 := by
  obtain ⟨_, _, c, d, e⟩ := mayR_iff.1 h
  unfold showB at e
  simp only [Bool.and_eq_true, decide_eq_true_eq] at e
  have key : ∀ l : List RI, (∀ i ∈ l, i.2.length ≤ 8) → (l.map (·.2.length)).sum ≤ 8 * l.length := by
    intro l hl
    induction l with
    | nil => exact Nat.le_refl _
    | cons i l ih =>
      have h1 := hl i List.mem_cons_self
      have h2 := ih fun x hx => hl x (List.mem_cons_of_mem _ hx)
      rw [List.map_cons, List.sum_cons, List.length_cons]
      omega
  have h1 := key r.items fun i hi => (refs_each (hold_each d i hi).2).1
  have h2 := e.1
  have h3 : (Hog.rowsM r).length = 2 + r.items.length + r.prof.length + (r.items.map (·.2.length)).sum := Hog.rows_len r
  rw [h3]
  have h4 : (r.items.map (fun i : RI => i.2.length)).sum ≤ 64 := by omega
  have h5 : (r.items.map (·.2.length)).sum ≤ 64 := h4
  omega
theorem mayR_small {r : Hog.RegP} (h : mayR r = true) : (Hog.layM r).length ≤ 4018 := by
  have h1 := mayR_rows h
  have h2 := Hog.lay_long (r := r) (rows_each (P := fun x => x.size ≤ 40) h (fun x hx => by have := (pref_small hx).1; omega) (fun x hx => by have := (name_small hx).1; rw [Hog.size_len]; omega) (by decide) (by decide))
  omega
theorem mayR_count {r : Hog.RegP} (h : mayR r = true) : (Hog.layM r).count 10 ≤ 82 := by
  rw [Hog.lay_count (mayR_noten h), ← Hog.rows_len]; exact mayR_rows h
theorem dig_of {p : Int} (h : polB p = true) {f : Int → ByteArray → Int} (h0 : f 0 (Hog.mk [48]) = 0) (h1 : f 0 (Hog.mk [49]) = 1) : f 0 (Hog.digM p) = p := by
  rcases polB_iff.1 h with rfl | rfl
  · exact h0
  · exact h1
/-- Two registrations that may be are laid alike just if they are the same. -/
theorem lay_same {q r : Hog.RegP} (hq : mayR q = true) (hr : mayR r = true) (h : Hog.layM q = Hog.layM r) : q = r := by
  have f1 : ∀ {r : Hog.RegP}, mayR r = true → Hog.readR (fun p x => if x = Hog.mk [49] then 1 else p) (Hog.layM r) = r := fun {r} hr =>
    Hog.readR_lay (mayR_noten hr) (dig_of (f := fun p x => if x = Hog.mk [49] then 1 else p) (mayR_iff.1 hr).2.1 (by decide) (by decide))
  rw [← f1 hq, h, f1 hr]
/-- What is told of a text: the registration whose text it is, or that there is none. -/
def Told (s : List UInt8) (q : Hog.RegP) (e : Int) : Prop := (e = 0 ∧ mayR q = true ∧ Hog.layM q = s) ∨ (e = 5 ∧ q = Hog.noneM ∧ ∀ r, mayR r = true → Hog.layM r ≠ s)
theorem told_one {s : List UInt8} {q q' : Hog.RegP} {e e' : Int} (h : Told s q e) (h' : Told s q' e') : q = q' ∧ e = e' := by
  rcases h with ⟨rfl, m, l⟩ | ⟨rfl, rfl, n⟩
  · rcases h' with ⟨rfl, m', l'⟩ | ⟨rfl, rfl, n'⟩
    · exact ⟨lay_same m m' (l.trans l'.symm), rfl⟩
    · exact absurd l (n' _ m)
  · rcases h' with ⟨rfl, m', l'⟩ | ⟨rfl, rfl, n'⟩
    · exact absurd l' (n _ m')
    · exact ⟨rfl, rfl⟩
theorem told_lay {q : Hog.RegP} (h : mayR q = true) {q' : Hog.RegP} {e : Int} (h' : Told (Hog.layM q) q' e) : q' = q ∧ e = 0 := told_one h' (.inl ⟨rfl, h, rfl⟩)
/-- What a reader comes to is held against what would be written. -/
theorem told_of {s : List UInt8} {st : Hog.RegP} (hs : ∀ r, mayR r = true → Hog.layM r = s → st = r) :
    (mayR st = true ∧ Hog.layM st = s → Told s st 0) ∧ (¬ (mayR st = true ∧ Hog.layM st = s) → Told s Hog.noneM 5) := by
  refine ⟨fun h => .inl ⟨rfl, h.1, h.2⟩, fun h => .inr ⟨rfl, rfl, fun r hr e => ?_⟩⟩
  have := hs r hr e
  subst this
  exact h ⟨hr, e⟩
/-- The names rise, behind a first text, and are names. -/
def riseB (h : List UInt8) : List ByteArray → Bool
  | [] => true
  | x :: r => Op.bytesLess h x.data.toList && Hog.nameL x.data.toList && riseB x.data.toList r
theorem hold_rise : ∀ (h : List UInt8) (is : List RI), holdB h is = (riseB h (is.map (·.1)) && is.all fun i => refsB i.2)
  | _, [] => rfl
  | h, i :: r => by
    unfold holdB
    rw [List.map_cons, List.all_cons, riseB, hold_rise i.1.data.toList r]
    cases Op.bytesLess h i.1.data.toList <;> cases Hog.nameL i.1.data.toList <;> cases refsB i.2 <;> simp
theorem rise_at : ∀ (h : ByteArray) (xs : List ByteArray), riseB h.data.toList xs = true ↔ ∀ k, k < xs.length → refAt (h :: xs) (k + 1) = true
  | _, [] => by simp [riseB]
  | h, x :: r => by
    have e0 : refAt (h :: x :: r) 1 = (Hog.nameL x.data.toList && Op.bytesLess h.data.toList x.data.toList) := rfl
    have e1 : ∀ k, refAt (h :: x :: r) (k + 1 + 1) = refAt (x :: r) (k + 1) := fun k => rfl
    unfold riseB
    rw [Bool.and_eq_true, rise_at x r]
    constructor
    · rintro ⟨a, b⟩ k hk
      cases k with
      | zero => rw [e0, Bool.and_comm]; exact a
      | succ k => rw [e1]; exact b k (by simpa using hk)
    · intro a
      refine ⟨?_, fun k hk => ?_⟩
      · have := a 0 (by simp)
        rw [e0, Bool.and_comm] at this; exact this
      · rw [← e1]; exact a (k + 1) (by simpa using hk)
theorem refs_rise {xs : List ByteArray} (h8 : xs.length ≤ 8) : refsB xs = riseB [] xs := by
  have key : (∀ k, k < xs.length → refAt xs k = true) ↔ riseB [] xs = true := by
    rw [show ([] : List UInt8) = (⟨#[]⟩ : ByteArray).data.toList from rfl, rise_at]
    refine forall_congr' fun k => imp_congr_right fun hk => ?_
    cases k with
    | succ k =>
      have : refAt (⟨#[]⟩ :: xs) (k + 1 + 1) = refAt xs (k + 1) := rfl
      rw [this]
    | zero =>
      cases xs with
      | nil => simp at hk
      | cons x r =>
        have e0 : refAt (⟨#[]⟩ :: x :: r) (0 + 1) = (Hog.nameL x.data.toList && Op.bytesLess [] x.data.toList) := rfl
        have e1 : refAt (x :: r) 0 = (Hog.nameL x.data.toList && true) := rfl
        rw [e0, e1, Bool.and_true, Bool.and_eq_true]
        refine ⟨fun h => ⟨h, ?_⟩, fun h => h.1⟩
        have hl := (Hog.name_iff.1 h).low
        cases e : x.data.toList with
        | nil => rw [e] at hl; simp at hl
        | cons a b => rfl
  rw [Bool.eq_iff_iff, ← key]
  unfold refsB
  rw [Bool.and_eq_true, List.all_eq_true]
  constructor
  · rintro ⟨_, h⟩ k hk; exact h k (List.mem_range.2 hk)
  · intro h; exact ⟨decide_eq_true h8, fun k hk => h k (List.mem_range.1 hk)⟩
/-- The same, as the document says it. -/
theorem mayR_ref (r : Hog.RegP) : mayR r = (prefB r.pre && polB r.pol && refsB (r.items.map (·.1)) && decide (r.prof.length ≤ 8) && r.items.all (fun i => refsB i.2) && r.prof.all fun x => Hog.nameL x.data.toList) := by
  unfold mayR showB
  by_cases h8 : r.items.length ≤ 8
  · rw [decide_eq_true h8, hold_rise, refs_rise (by rw [List.length_map]; exact h8)]
    cases prefB r.pre <;> cases polB r.pol <;> cases riseB [] (r.items.map (·.1)) <;> cases (r.items.all fun i => refsB i.2) <;> simp
  · rw [decide_eq_false h8, refs_many (by rw [List.length_map]; omega)]
    simp
end Go.Proofs.YtmlkknbndglgaaaGreatDoor
