/- Texts that stand together, joined: PlainI. -/
import Derived.Test.YtmlkknbndglgaaaGreatDoorJ1
/- What is a name, and what is its hash, as lists of bytes. Nothing here names the program. -/
namespace Go.Proofs.YtmlkknbndglgaaaGreatDoor.Hog
open Go

def hashG : List UInt8 := [48, 49, 50, 51, 52, 53, 54, 55, 56, 57, 97, 98, 99, 100, 102, 103, 104, 105, 106, 107, 108, 109, 110, 112, 113, 114, 115, 118, 119, 120, 121, 122]
def firstG : List UInt8 := [97, 98, 99, 100, 101, 102, 103, 104, 105, 106, 107, 108, 109, 110, 111, 112, 113, 114, 115, 116, 117, 118, 119, 120, 121, 122, 48, 49, 50, 51, 52, 53, 54, 55, 56, 57]
def moreG : List UInt8 := [46, 43, 95, 45]
def restG : List UInt8 := [97, 98, 99, 100, 101, 102, 103, 104, 105, 106, 107, 108, 109, 110, 111, 112, 113, 114, 115, 116, 117, 118, 119, 120, 121, 122, 48, 49, 50, 51, 52, 53, 54, 55, 56, 57, 46, 43, 95, 45]
theorem rest_is : restG = firstG ++ moreG := rfl

/-- Are all bytes of s among g? -/
def onlyL (s g : List UInt8) : Bool := s.all fun c => decide (c ∈ g)
theorem only_iff {s g : List UInt8} : onlyL s g = true ↔ ∀ (j : Nat) c, s[j]? = some c → c ∈ g := by
  unfold onlyL
  rw [List.all_eq_true]
  constructor
  · intro h j c hc
    simpa using h c (List.mem_of_getElem? hc)
  · intro h c hc
    obtain ⟨j, hj⟩ := List.getElem?_of_mem hc
    simpa using h j c hj
theorem only_step {s g : List UInt8} {k : Nat} {c : UInt8} (hc : s[k]? = some c) (h : onlyL (s.take k) g = true) (hg : c ∈ g) : onlyL (s.take (k + 1)) g = true := by
  obtain ⟨hk, rfl⟩ := List.getElem?_eq_some_iff.1 hc
  unfold onlyL at *
  rw [List.take_succ_eq_append_getElem hk, List.all_append, h]
  simpa using hg
theorem only_fall {s g : List UInt8} {k : Nat} {c : UInt8} (hc : s[k]? = some c) (hg : c ∉ g) : onlyL s g = false := by
  cases h : onlyL s g with
  | false => rfl
  | true => exact absurd (only_iff.1 h k c hc) hg

/-- Is it a name? -/
def nameL (s : List UInt8) : Bool :=
  decide (10 ≤ s.length) && decide (s.length ≤ 30) && onlyL (s.take 8) hashG && decide (s[8]? = some 45) && onlyL ((s.drop 9).take 1) firstG && onlyL (s.drop 9) restG
/-- A name's hash. -/
def hashL (s : List UInt8) : List UInt8 := if nameL s = true then s.take 8 else []

structure NameIs (s : List UInt8) : Prop where
  low : 10 ≤ s.length
  high : s.length ≤ 30
  hash : ∀ (j : Nat) c, j < 8 → s[j]? = some c → c ∈ hashG
  stroke : s[8]? = some 45
  first : ∀ c, s[9]? = some c → c ∈ firstG
  rest : ∀ (j : Nat) c, 9 ≤ j → s[j]? = some c → c ∈ restG
theorem name_iff {s : List UInt8} : nameL s = true ↔ NameIs s := by
  unfold nameL
  simp only [Bool.and_eq_true, decide_eq_true_eq, only_iff]
  constructor
  · rintro ⟨⟨⟨⟨⟨h1, h2⟩, h3⟩, h4⟩, h5⟩, h6⟩
    refine ⟨h1, h2, fun j c hj hc => ?_, h4, fun c hc => ?_, fun j c hj hc => ?_⟩
    · exact h3 j c (by rw [List.getElem?_take_of_lt hj]; exact hc)
    · exact h5 0 c (by rw [List.getElem?_take_of_lt (by omega), List.getElem?_drop]; exact hc)
    · exact h6 (j - 9) c (by rw [List.getElem?_drop, show 9 + (j - 9) = j by omega]; exact hc)
  · rintro ⟨h1, h2, h3, h4, h5, h6⟩
    refine ⟨⟨⟨⟨⟨h1, h2⟩, fun j c hc => ?_⟩, h4⟩, fun j c hc => ?_⟩, fun j c hc => ?_⟩
    · have hj : j < 8 := by
        have := (List.getElem?_eq_some_iff.1 hc).1
        rw [List.length_take] at this; omega
      rw [List.getElem?_take_of_lt hj] at hc
      exact h3 j c hj hc
    · have hj : j < 1 := by
        have := (List.getElem?_eq_some_iff.1 hc).1
        rw [List.length_take] at this; omega
      rw [List.getElem?_take_of_lt hj, List.getElem?_drop] at hc
      obtain rfl : j = 0 := by omega
      exact h5 c hc
    · rw [List.getElem?_drop] at hc
      exact h6 (9 + j) c (by omega) hc
theorem name_not {s : List UInt8} (h : ¬ NameIs s) : nameL s = false := by
  cases e : nameL s with
  | false => rfl
  | true => exact absurd (name_iff.1 e) h

/-- The document's way of asking for the signs behind the stroke. -/
def restOk (j : Nat) (c : UInt8) : Bool := decide (c ∈ firstG) || (!decide (j = 9) && decide (c ∈ moreG))
theorem rest_ok_iff {s : List UInt8} : (∀ (j : Nat) c, 9 ≤ j → s[j]? = some c → restOk j c = true) ↔ (∀ c, s[9]? = some c → c ∈ firstG) ∧ ∀ (j : Nat) c, 9 ≤ j → s[j]? = some c → c ∈ restG := by
  unfold restOk
  simp only [Bool.or_eq_true, Bool.and_eq_true, decide_eq_true_eq, Bool.not_eq_true', decide_eq_false_iff_not]
  constructor
  · intro h
    refine ⟨fun c hc => ?_, fun j c hj hc => ?_⟩
    · rcases h 9 c (by omega) hc with k | ⟨k, _⟩
      · exact k
      · exact absurd rfl k
    · rw [rest_is, List.mem_append]
      rcases h j c hj hc with k | ⟨_, k⟩
      · exact .inl k
      · exact .inr k
  · rintro ⟨h1, h2⟩ j c hj hc
    by_cases h9 : j = 9
    · subst h9; exact .inl (h1 c hc)
    · have := h2 j c hj hc
      rw [rest_is, List.mem_append] at this
      rcases this with k | k
      · exact .inl k
      · exact .inr ⟨h9, k⟩

theorem hash_low : ∀ c ∈ hashG, c.toNat < 128 := by decide
theorem rest_low : ∀ c ∈ restG, c.toNat < 128 := by decide
/-- All bytes of a name are below 128. -/
theorem name_low {s : List UInt8} (h : NameIs s) {j : Nat} {c : UInt8} (hc : s[j]? = some c) : c.toNat < 128 := by
  by_cases h8 : j < 8
  · exact hash_low c (h.hash j c h8 hc)
  · by_cases h9 : j = 8
    · subst h9
      rw [h.stroke] at hc
      cases hc
      decide
    · exact rest_low c (h.rest j c (by omega) hc)
/-- The hash of one name, what stands behind it of another one. -/
theorem name_cross {a b : List UInt8} (ha : NameIs a) (hb : NameIs b) : NameIs (a.take 8 ++ b.drop 8) := by
  have hl : (a.take 8).length = 8 := by rw [List.length_take]; have := ha.low; omega
  have e1 : ∀ j, j < 8 → (a.take 8 ++ b.drop 8)[j]? = a[j]? := fun j hj => by
    rw [List.getElem?_append_left (by omega), List.getElem?_take_of_lt hj]
  have e2 : ∀ j, 8 ≤ j → (a.take 8 ++ b.drop 8)[j]? = b[j]? := fun j hj => by
    rw [List.getElem?_append_right (by omega), List.getElem?_drop, hl, show 8 + (j - 8) = j by omega]
  have hlen : (a.take 8 ++ b.drop 8).length = b.length := by
    rw [List.length_append, hl, List.length_drop]; have := hb.low; omega
  refine ⟨by rw [hlen]; exact hb.low, by rw [hlen]; exact hb.high, fun j c hj hc => ?_, ?_, fun c hc => ?_, fun j c hj hc => ?_⟩
  · rw [e1 j hj] at hc; exact ha.hash j c hj hc
  · rw [e2 8 (by omega)]; exact hb.stroke
  · rw [e2 9 (by omega)] at hc; exact hb.first c hc
  · rw [e2 j (by omega)] at hc; exact hb.rest j c hj hc
theorem hash_name {s : List UInt8} (h : nameL s = true) : hashL s = s.take 8 := by unfold hashL; rw [if_pos h]
theorem hash_none {s : List UInt8} (h : nameL s = false) : hashL s = [] := by unfold hashL; rw [if_neg (by rw [h]; decide)]
theorem cross_take {a b : List UInt8} (ha : 8 ≤ a.length) : (a.take 8 ++ b.drop 8).take 8 = a.take 8 := by
  rw [List.take_append_of_le_length (by rw [List.length_take]; omega)]
  simp [List.take_take]
end Go.Proofs.YtmlkknbndglgaaaGreatDoor.Hog
