/- Headers by kinds, plainly: which may be, what they are, what is read; there and back; a byte turned. Nothing here names the program. -/
import Derived.Test.YtecjkkipglldlaaGreatDoorPlainD
namespace Go.Proofs.YtecjkkipglldlaaGreatDoor.Hog
open Go

def modeK (k : Int) : List UInt8 := if k = 1 ∨ k = 3 then [48, 48, 48, 48, 55, 53, 53] else if k = 4 then [48, 48, 48, 48, 55, 55, 55] else [48, 48, 48, 48, 54, 52, 52]
def signK (k : Int) : UInt8 := if k = 1 then 53 else if k = 2 ∨ k = 3 then 48 else if k = 4 then 50 else 120
theorem modeK_len (k : Int) : (modeK k).length = 7 := by unfold modeK; split; rfl; split <;> rfl
def mayK (k sz : Int) (lk : List UInt8) : Bool := decide ((k = 1 ∧ sz = 0 ∧ lk = []) ∨ (k = 4 ∧ sz = 0 ∧ lk ≠ []) ∨ ((k = 2 ∨ k = 3 ∨ k = 5) ∧ lk = []))
theorem mayK_range {k sz : Int} {lk : List UInt8} (h : mayK k sz lk = true) : 1 ≤ k ∧ k ≤ 5 := by unfold mayK at h; rw [decide_eq_true_eq] at h; omega
/-- Has a text room as a name or a link? -/
def fillB (s : List UInt8) : Bool := decide (s.length ≤ 100) && decide ((0 : UInt8) ∉ s)
theorem fillB_of {s : List UInt8} (h : fillB s = true) : s.length ≤ 100 ∧ (0 : UInt8) ∉ s := by unfold fillB at h; simpa using h
def mayH (nm : List UInt8) (k sz : Int) (lk : List UInt8) : Bool := octR sz 11 && (decide (nm ≠ []) && (fillB nm && (fillB lk && mayK k sz lk)))
structure May (nm : List UInt8) (k sz : Int) (lk : List UInt8) : Prop where
  size : octR sz 11 = true
  some : nm ≠ []
  name : fillB nm = true
  link : fillB lk = true
  kind : mayK k sz lk = true
theorem mayH_of {nm : List UInt8} {k sz : Int} {lk : List UInt8} (h : mayH nm k sz lk = true) : May nm k sz lk := by
  unfold mayH at h
  simp only [Bool.and_eq_true, decide_eq_true_eq] at h
  exact ⟨h.1, h.2.1, h.2.2.1, h.2.2.2.1, h.2.2.2.2⟩
def rawK (nm : List UInt8) (k sz : Int) (lk : List UInt8) : List UInt8 := rawH nm (modeK k) (octL 11 sz.toNat) blanks (signK k) lk
def headH (nm : List UInt8) (k sz : Int) (lk : List UInt8) : List UInt8 := sealH (rawK nm k sz lk)

section
variable {nm lk : List UInt8} {k sz : Int}
theorem head_raw (h : May nm k sz lk) : headH nm k sz lk = rawH nm (modeK k) (octL 11 sz.toNat) (octL 6 (sumL (rawK nm k sz lk)) ++ [0, 32]) (signK k) lk :=
  raw_seal (fillB_of h.name).1 (by rw [modeK_len]; decide) (by rw [octL_len]; decide) rfl
theorem head_len (h : May nm k sz lk) : (headH nm k sz lk).length = 512 := by
  rw [head_raw h]
  exact raw_len (fillB_of h.name).1 (by rw [modeK_len]; decide) (by rw [octL_len]; decide) (by rw [List.length_append, octL_len]; rfl) (fillB_of h.link).1
theorem rawK_len (h : May nm k sz lk) : (rawK nm k sz lk).length = 512 := 
  raw_len (fillB_of h.name).1 (by rw [modeK_len]; decide) (by rw [octL_len]; decide) rfl (fillB_of h.link).1
theorem head_blank (h : May nm k sz lk) : blankH (headH nm k sz lk) = rawK nm k sz lk := by
  rw [head_raw h]
  exact raw_blank (fillB_of h.name).1 (by rw [modeK_len]; decide) (by rw [octL_len]; decide) (by rw [List.length_append, octL_len]; rfl)
theorem head_name (h : May nm k sz lk) : nameF (headH nm k sz lk) = nm := by
  rw [head_raw h]; exact raw_name (fillB_of h.name).1 (fillB_of h.name).2
theorem head_mode (h : May nm k sz lk) : modeF (headH nm k sz lk) = pad 8 (modeK k) := by
  rw [head_raw h]; exact raw_mode (fillB_of h.name).1 (by rw [modeK_len]; decide)
theorem head_sign (h : May nm k sz lk) : (headH nm k sz lk)[156]? = some (signK k) := by
  rw [head_raw h]; exact raw_sign (fillB_of h.name).1 (by rw [modeK_len]; decide) (by rw [octL_len]; decide) (by rw [List.length_append, octL_len]; rfl)
theorem head_link (h : May nm k sz lk) : linkF (headH nm k sz lk) = lk := by
  rw [head_raw h]; exact raw_link (fillB_of h.name).1 (by rw [modeK_len]; decide) (by rw [octL_len]; decide) (by rw [List.length_append, octL_len]; rfl) (fillB_of h.link).1 (fillB_of h.link).2
theorem head_size (h : May nm k sz lk) : sizeF (headH nm k sz lk) = octL 11 sz.toNat := by
  rw [head_raw h]; exact raw_size (fillB_of h.name).1 (by rw [modeK_len]; decide) (octL_len _ _)
theorem size_back (h : octR sz 11 = true) : (ofT (octL 11 sz.toNat) : Int) = sz := by
  have e : octT sz 11 = octL 11 sz.toNat := by unfold octT; rw [if_pos h]; rfl
  rw [← e]
  exact (of_oct h).2.1
end

/-- Does the kind k look so? -/
def looks (md : List UInt8) (sg : UInt8) (k : Int) : Bool := decide (pad 8 (modeK k) = md) && (signK k == sg)
def kindR (md : List UInt8) (sg : UInt8) : Int :=
  if looks md sg 1 = true then 1 else if looks md sg 2 = true then 2 else if looks md sg 3 = true then 3 else if looks md sg 4 = true then 4 else if looks md sg 5 = true then 5 else 0
theorem looks_one : ∀ i j : Fin 5, looks (pad 8 (modeK ((i.1 + 1 : Nat) : Int))) (signK ((i.1 + 1 : Nat) : Int)) ((j.1 + 1 : Nat) : Int) = decide (i = j) := by decide
theorem kindR_of {k : Int} (h1 : 1 ≤ k) (h5 : k ≤ 5) : kindR (pad 8 (modeK k)) (signK k) = k := by
  have h : k = 1 ∨ k = 2 ∨ k = 3 ∨ k = 4 ∨ k = 5 := by omega
  rcases h with rfl | rfl | rfl | rfl | rfl <;> decide
def signF (c : List UInt8) : UInt8 := c.getD 156 0
def kindF (c : List UInt8) : Int := kindR (modeF c) (signF c)
/-- Is c the header of what stands in it, if its kind is j? -/
def fits (c : List UInt8) (j : Int) : Bool := mayH (nameF c) j (ofT (sizeF c)) (linkF c) && decide (headH (nameF c) j (ofT (sizeF c)) (linkF c) = c)
def readH (c : List UInt8) : Option (List UInt8 × Int × Int × List UInt8) :=
  if c.length = 512 ∧ fits c (kindF c) = true then some (nameF c, kindF c, (ofT (sizeF c) : Int), linkF c) else none
theorem fits_of {c : List UInt8} {j : Int} (h : fits c j = true) : May (nameF c) j (ofT (sizeF c)) (linkF c) ∧ headH (nameF c) j (ofT (sizeF c)) (linkF c) = c := by
  unfold fits at h
  rw [Bool.and_eq_true, decide_eq_true_eq] at h
  exact ⟨mayH_of h.1, h.2⟩
theorem head_kind {nm lk : List UInt8} {k sz : Int} (h : May nm k sz lk) : kindF (headH nm k sz lk) = k := by
  have hr := mayK_range h.kind
  unfold kindF signF
  rw [head_mode h, List.getD_eq_getElem?_getD, head_sign h]
  exact kindR_of hr.1 hr.2
theorem fits_kind {c : List UInt8} {j : Int} (h : fits c j = true) : kindF c = j := by
  obtain ⟨h1, h2⟩ := fits_of h
  have e := head_kind h1
  rwa [h2] at e
theorem fits_len {c : List UInt8} {j : Int} (h : fits c j = true) : c.length = 512 := by
  obtain ⟨h1, h2⟩ := fits_of h
  rw [← h2]; exact head_len h1
theorem read_fits {c : List UInt8} {j : Int} (h : fits c j = true) : readH c = some (nameF c, j, (ofT (sizeF c) : Int), linkF c) := by
  have e := fits_kind h
  unfold readH
  rw [if_pos ⟨fits_len h, by rw [e]; exact h⟩, e]
theorem read_none {c : List UInt8} (h : ∀ j : Int, 1 ≤ j → j ≤ 5 → fits c j = false) : readH c = none := by
  unfold readH
  rw [if_neg]
  rintro ⟨_, h2⟩
  have hr := mayK_range (fits_of h2).1.kind
  rw [h _ hr.1 hr.2] at h2
  cases h2
theorem mayH_true {nm lk : List UInt8} {k sz : Int} (h : May nm k sz lk) : mayH nm k sz lk = true := by
  unfold mayH
  rw [h.size, h.name, h.link, h.kind, decide_eq_true h.some]; rfl
theorem read_head {nm lk : List UInt8} {k sz : Int} (h : May nm k sz lk) : readH (headH nm k sz lk) = some (nm, k, sz, lk) := by
  have hs := size_back h.size
  have hf : fits (headH nm k sz lk) k = true := by
    unfold fits
    rw [head_name h, head_link h, head_size h, hs, mayH_true h, Bool.true_and, decide_eq_true_eq]
  rw [read_fits hf, head_name h, head_link h, head_size h, hs]
theorem read_sound {c nm lk : List UInt8} {k sz : Int} (h : readH c = some (nm, k, sz, lk)) : May nm k sz lk ∧ headH nm k sz lk = c := by
  unfold readH at h
  split at h
  · rename_i h1
    simp only [Option.some.injEq, Prod.mk.injEq] at h
    obtain ⟨rfl, rfl, rfl, rfl⟩ := h
    exact fits_of h1.2
  · cases h
theorem read_len {c : List UInt8} (h : c.length ≠ 512) : readH c = none := by
  unfold readH
  rw [if_neg (fun h1 => h h1.1)]

/-- A header is told by what stands beside its sum. -/
theorem head_sealed {nm lk c : List UInt8} {k sz : Int} (h : May nm k sz lk) (e : headH nm k sz lk = c) : c = sealH (blankH c) := by
  rw [← e, head_blank h]; rfl
theorem take_set_in {l : List UInt8} {i n : Nat} (y : UInt8) (h : n ≤ i) : (l.set i y).take n = l.take n := by rw [List.take_set_of_le h]
theorem splice_set_in {l s : List UInt8} {a i : Nat} (y : UInt8) (h1 : a ≤ i) (h2 : i < a + s.length) : splice (l.set i y) a s = splice l a s := by
  unfold splice
  rw [List.take_set_of_le h1, List.drop_set_of_lt h2]
theorem splice_set_out {l s : List UInt8} {a i : Nat} (y : UInt8) (ha : a + s.length ≤ l.length) (h : i < a ∨ a + s.length ≤ i) : splice (l.set i y) a s = (splice l a s).set i y := by
  unfold splice
  rcases h with h | h
  · rw [List.drop_set_of_lt (show i < a + s.length by omega), List.set_append_left _ _ (by rw [List.length_take]; omega), List.take_set]
  · rw [List.take_set_of_le (show a ≤ i by omega), List.set_append_right _ _ (by rw [List.length_take]; omega), List.length_take, Nat.min_eq_left (by omega), List.set_append_right _ _ (by omega), List.drop_set, if_neg (by omega), show i - a - s.length = i - (a + s.length) by omega]
theorem splice_get_out {l s : List UInt8} {a i : Nat} (ha : a + s.length ≤ l.length) (h : i < a ∨ a + s.length ≤ i) : (splice l a s)[i]? = l[i]? := by
  unfold splice
  rcases h with h | h
  · rw [List.getElem?_append_left (by rw [List.length_take]; omega), List.getElem?_take_of_lt h]
  · rw [List.getElem?_append_right (by rw [List.length_take]; omega), List.length_take, Nat.min_eq_left (by omega), List.getElem?_append_right (by omega), List.getElem?_drop, show a + s.length + (i - a - s.length) = i by omega]
theorem splice_here {l s : List UInt8} {a : Nat} (ha : a ≤ l.length) : ((splice l a s).drop a).take s.length = s := by
  unfold splice
  rw [List.drop_left' (by rw [List.length_take]; omega), List.take_left' rfl]
/-- With one byte another one a header is none. -/
theorem turned {nm lk : List UInt8} {k sz : Int} {at' : Nat} {x y : UInt8} (h : May nm k sz lk) (hx : (headH nm k sz lk)[at']? = some x) (hy : y ≠ x) : readH ((headH nm k sz lk).set at' y) = none := by
  obtain ⟨b, hb⟩ : ∃ b, headH nm k sz lk = b := ⟨_, rfl⟩
  have hs := head_sealed h hb
  have hl : b.length = 512 := by rw [← hb]; exact head_len h
  rw [hb] at hx ⊢
  obtain ⟨hat, hxe⟩ := List.getElem?_eq_some_iff.1 hx
  cases hr : readH (b.set at' y) with
  | none => rfl
  | some q =>
    exfalso
    obtain ⟨nm', k', sz', lk'⟩ := q
    obtain ⟨h', e'⟩ := read_sound hr
    have hs' := head_sealed h' e'
    have hbl : blanks.length = 8 := rfl
    by_cases hin : 148 ≤ at' ∧ at' < 156
    · have e1 : blankH (b.set at' y) = blankH b := splice_set_in y hin.1 (by rw [hbl]; omega)
      rw [e1, ← hs] at hs'
      have e2 : (b.set at' y)[at']? = some y := List.getElem?_set_self hat
      rw [hs', hx] at e2
      exact hy (Option.some.inj e2).symm
    · have hout : at' < 148 ∨ 148 + blanks.length ≤ at' := by rw [hbl]; omega
      have e1 : blankH (b.set at' y) = (blankH b).set at' y := splice_set_out y (by rw [hl, hbl]; omega) hout
      have e2 : (blankH b)[at']? = some x := by unfold blankH; rw [splice_get_out (by rw [hl, hbl]; omega) hout, hx]
      have e3 := sumL_set y e2
      have hbl2 : (blankH b).length = 512 := by unfold blankH; rw [splice_len _ _ _ (by rw [hl, hbl]; omega), hl]
      have d1 : (b.drop 148).take 6 = octL 6 (sumL (blankH b)) := by
        conv => lhs; rw [hs]
        unfold sealH splice
        rw [List.drop_left' (by rw [List.length_take, hbl2]; omega), List.append_assoc, List.take_left' (octL_len _ _)]
      have d2 : ((b.set at' y).drop 148).take 6 = octL 6 (sumL ((blankH b).set at' y)) := by
        conv => lhs; rw [hs', e1]
        unfold sealH splice
        rw [List.drop_left' (by rw [List.length_take, List.length_set, hbl2]; omega), List.append_assoc, List.take_left' (octL_len _ _)]
      have d3 : ((b.set at' y).drop 148).take 6 = (b.drop 148).take 6 := by
        rw [List.drop_set]
        split
        · rfl
        · rw [List.take_set_of_le (by rw [hbl] at hout; omega)]
      rw [d3, d1] at d2
      have s1 := sumL_le (blankH b)
      have s2 := sumL_le ((blankH b).set at' y)
      rw [List.length_set] at s2
      rw [hbl2] at s1 s2
      have p6 : 8 ^ 6 = 262144 := by decide
      have e4 := oct_inj d2 (by omega) (by omega)
      rw [← e4] at e3
      exact hy (UInt8.toNat_inj.1 (by omega))
end Go.Proofs.YtecjkkipglldlaaGreatDoor.Hog
