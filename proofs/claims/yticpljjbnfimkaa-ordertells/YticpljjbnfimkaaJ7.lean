/- Texts that stand together, joined: PlainI, PlainR, PlainK, Plain8. -/
import Derived.Test.YticpljjbnfimkaaJ1
import Derived.Lib.SlicesCompact
import Derived.Sort.Walk0
/- What is a name, and what is its hash, as lists of bytes. Nothing here names the program. -/
namespace Go.Proofs.Yticpljjbnfimkaa.Hog
open Go

def hashG : List UInt8 := [48, 49, 50, 51, 52, 53, 54, 55, 56, 57, 97, 98, 99, 100, 102, 103, 104, 105, 106, 107, 108, 109, 110, 112, 113, 114, 115, 118, 119, 120, 121, 122]
def firstG : List UInt8 := [97, 98, 99, 100, 101, 102, 103, 104, 105, 106, 107, 108, 109, 110, 111, 112, 113, 114, 115, 116, 117, 118, 119, 120, 121, 122, 48, 49, 50, 51, 52, 53, 54, 55, 56, 57]
def moreG : List UInt8 := [46, 43, 95, 45]
def restG : List UInt8 := [97, 98, 99, 100, 101, 102, 103, 104, 105, 106, 107, 108, 109, 110, 111, 112, 113, 114, 115, 116, 117, 118, 119, 120, 121, 122, 48, 49, 50, 51, 52, 53, 54, 55, 56, 57, 46, 43, 95, 45]
theorem rest_is : restG = firstG ++ moreG := rfl

/-- Are all bytes of s among g? -/
def onlyL (s g : List UInt8) : Bool := s.all fun c => decide (c ∈ g)
theorem only_iff {s g : List UInt8} : onlyL s g = true ↔ ∀ (j : Nat) c, s[j]? = some c → c ∈ g := by
  unfold onlyL
  rw [List.all_eq_true]
  constructor
  · intro h j c hc
    simpa using h c (List.mem_of_getElem? hc)
  · intro h c hc
    obtain ⟨j, hj⟩ := List.getElem?_of_mem hc
    simpa using h j c hj
theorem only_step {s g : List UInt8} {k : Nat} {c : UInt8} (hc : s[k]? = some c) (h : onlyL (s.take k) g = true) (hg : c ∈ g) : onlyL (s.take (k + 1)) g = true := by
  obtain ⟨hk, rfl⟩ := List.getElem?_eq_some_iff.1 hc
  unfold onlyL at *
  rw [List.take_succ_eq_append_getElem hk, List.all_append, h]
  simpa using hg
theorem only_fall {s g : List UInt8} {k : Nat} {c : UInt8} (hc : s[k]? = some c) (hg : c ∉ g) : onlyL s g = false := by
  cases h : onlyL s g with
  | false => rfl
  | true => exact absurd (only_iff.1 h k c hc) hg

/-- Is it a name? -/
def nameL (s : List UInt8) : Bool :=
  decide (10 ≤ s.length) && decide (s.length ≤ 30) && onlyL (s.take 8) hashG && decide (s[8]? = some 45) && onlyL ((s.drop 9).take 1) firstG && onlyL (s.drop 9) restG
/-- A name's hash. -/
def hashL (s : List UInt8) : List UInt8 := if nameL s = true then s.take 8 else []

structure NameIs (s : List UInt8) : Prop where
  low : 10 ≤ s.length
  high : s.length ≤ 30
  hash : ∀ (j : Nat) c, j < 8 → s[j]? = some c → c ∈ hashG
  stroke : s[8]? = some 45
  first : ∀ c, s[9]? = some c → c ∈ firstG
  rest : ∀ (j : Nat) c, 9 ≤ j → s[j]? = some c → c ∈ restG
theorem name_iff {s : List UInt8} : nameL s = true ↔ NameIs s := by
  unfold nameL
  simp only [Bool.and_eq_true, decide_eq_true_eq, only_iff]
  constructor
  · rintro ⟨⟨⟨⟨⟨h1, h2⟩, h3⟩, h4⟩, h5⟩, h6⟩
    refine ⟨h1, h2, fun j c hj hc => ?_, h4, fun c hc => ?_, fun j c hj hc => ?_⟩
    · exact h3 j c (by rw [List.getElem?_take_of_lt hj]; exact hc)
    · exact h5 0 c (by rw [List.getElem?_take_of_lt (by omega), List.getElem?_drop]; exact hc)
    · exact h6 (j - 9) c (by rw [List.getElem?_drop, show 9 + (j - 9) = j by omega]; exact hc)
  · rintro ⟨h1, h2, h3, h4, h5, h6⟩
    refine ⟨⟨⟨⟨⟨h1, h2⟩, fun j c hc => ?_⟩, h4⟩, fun j c hc => ?_⟩, fun j c hc => ?_⟩
    · have hj : j < 8 := by
        have := (List.getElem?_eq_some_iff.1 hc).1
        rw [List.length_take] at this; omega
      rw [List.getElem?_take_of_lt hj] at hc
      exact h3 j c hj hc
    · have hj : j < 1 := by
        have := (List.getElem?_eq_some_iff.1 hc).1
        rw [List.length_take] at this; omega
      rw [List.getElem?_take_of_lt hj, List.getElem?_drop] at hc
      obtain rfl : j = 0 := by omega
      exact h5 c hc
    · rw [List.getElem?_drop] at hc
      exact h6 (9 + j) c (by omega) hc
theorem name_not {s : List UInt8} (h : ¬ NameIs s) : nameL s = false := by
  cases e : nameL s with
  | false => rfl
  | true => exact absurd (name_iff.1 e) h

/-- The document's way of asking for the signs behind the stroke. -/
def restOk (j : Nat) (c : UInt8) : Bool := decide (c ∈ firstG) || (!decide (j = 9) && decide (c ∈ moreG))
theorem rest_ok_iff {s : List UInt8} : (∀ (j : Nat) c, 9 ≤ j → s[j]? = some c → restOk j c = true) ↔ (∀ c, s[9]? = some c → c ∈ firstG) ∧ ∀ (j : Nat) c, 9 ≤ j → s[j]? = some c → c ∈ restG := by
  unfold restOk
  simp only [Bool.or_eq_true, Bool.and_eq_true, decide_eq_true_eq, Bool.not_eq_true', decide_eq_false_iff_not]
  constructor
  · intro h
    refine ⟨fun c hc => ?_, fun j c hj hc => ?_⟩
    · rcases h 9 c (by omega) hc with k | ⟨k, _⟩
      · exact k
      · exact absurd rfl k
    · rw [rest_is, List.mem_append]
      rcases h j c hj hc with k | ⟨_, k⟩
      · exact .inl k
      · exact .inr k
  · rintro ⟨h1, h2⟩ j c hj hc
    by_cases h9 : j = 9
    · subst h9; exact .inl (h1 c hc)
    · have := h2 j c hj hc
      rw [rest_is, List.mem_append] at this
      rcases this with k | k
      · exact .inl k
      · exact .inr ⟨h9, k⟩

theorem hash_low : ∀ c ∈ hashG, c.toNat < 128 := by decide
theorem rest_low : ∀ c ∈ restG, c.toNat < 128 := by decide
/-- All bytes of a name are below 128. -/
theorem name_low {s : List UInt8} (h : NameIs s) {j : Nat} {c : UInt8} (hc : s[j]? = some c) : c.toNat < 128 := by
  by_cases h8 : j < 8
  · exact hash_low c (h.hash j c h8 hc)
  · by_cases h9 : j = 8
    · subst h9
      rw [h.stroke] at hc
      cases hc
      decide
    · exact rest_low c (h.rest j c (by omega) hc)
/-- The hash of one name, what stands behind it of another one. -/
theorem name_cross {a b : List UInt8} (ha : NameIs a) (hb : NameIs b) : NameIs (a.take 8 ++ b.drop 8) := by
  have hl : (a.take 8).length = 8 := by rw [List.length_take]; have := ha.low; omega
  have e1 : ∀ j, j < 8 → (a.take 8 ++ b.drop 8)[j]? = a[j]? := fun j hj => by
    rw [List.getElem?_append_left (by omega), List.getElem?_take_of_lt hj]
  have e2 : ∀ j, 8 ≤ j → (a.take 8 ++ b.drop 8)[j]? = b[j]? := fun j hj => by
    rw [List.getElem?_append_right (by omega), List.getElem?_drop, hl, show 8 + (j - 8) = j by omega]
  have hlen : (a.take 8 ++ b.drop 8).length = b.length := by
    rw [List.length_append, hl, List.length_drop]; have := hb.low; omega
  refine ⟨by rw [hlen]; exact hb.low, by rw [hlen]; exact hb.high, fun j c hj hc => ?_, ?_, fun c hc => ?_, fun j c hj hc => ?_⟩
  · rw [e1 j hj] at hc; exact ha.hash j c hj hc
  · rw [e2 8 (by omega)]; exact hb.stroke
  · rw [e2 9 (by omega)] at hc; exact hb.first c hc
  · rw [e2 j (by omega)] at hc; exact hb.rest j c hj hc
theorem hash_name {s : List UInt8} (h : nameL s = true) : hashL s = s.take 8 := by unfold hashL; rw [if_pos h]
theorem hash_none {s : List UInt8} (h : nameL s = false) : hashL s = [] := by unfold hashL; rw [if_neg (by rw [h]; decide)]
theorem cross_take {a b : List UInt8} (ha : 8 ≤ a.length) : (a.take 8 ++ b.drop 8).take 8 = a.take 8 := by
  rw [List.take_append_of_le_length (by rw [List.length_take]; omega)]
  simp [List.take_take]
end Go.Proofs.Yticpljjbnfimkaa.Hog
/- Texts that rise, each once: what sorting and passing over likes leaves, plainly. Nothing here names the program. -/
namespace Go.Proofs.Yticpljjbnfimkaa.Hog
open Go

abbrev Tx := List UInt8
def lt (x y : Tx) : Prop := Op.bytesLess x y = true
theorem lt_iff {x y : Tx} : lt x y ↔ x < y := by unfold lt; rw [Go.Proofs.bytesLess_eq, decide_eq_true_eq]
theorem lt_irr (x : Tx) : ¬ lt x x := by unfold lt; rw [less_irr]; decide
theorem lt_trans {x y z : Tx} (h : lt x y) (k : lt y z) : lt x z := less_trans h k
theorem lt_asymm {x y : Tx} (h : lt x y) : ¬ lt y x := fun k => lt_irr x (lt_trans h k)
/-- They rise, each once. -/
def rise (l : List Tx) : Prop := l.Pairwise lt
theorem rise_one : ∀ {l m : List Tx}, rise l → rise m → (∀ x, x ∈ l ↔ x ∈ m) → l = m
  | [], [], _, _, _ => rfl
  | [], b :: m, _, _, h => by have := (h b).2 (by simp); simp at this
  | a :: l, [], _, _, h => by have := (h a).1 (by simp); simp at this
  | a :: l, b :: m, hl, hm, h => by
    have hl2 := List.pairwise_cons.1 hl
    have hm2 := List.pairwise_cons.1 hm
    have e : a = b := by
      have h1 := (h a).1 (by simp)
      have h2 := (h b).2 (by simp)
      rcases List.mem_cons.1 h1 with e | h1
      · exact e
      · rcases List.mem_cons.1 h2 with e | h2
        · exact e.symm
        · exact absurd (hl2.1 b h2) (lt_asymm (hm2.1 a h1))
    subst e
    rw [rise_one hl2.2 hm2.2 fun x => ?_]
    constructor
    · intro hx
      rcases List.mem_cons.1 ((h x).1 (List.mem_cons_of_mem _ hx)) with e | k
      · subst e; exact absurd (hl2.1 x hx) (lt_irr x)
      · exact k
    · intro hx
      rcases List.mem_cons.1 ((h x).2 (List.mem_cons_of_mem _ hx)) with e | k
      · subst e; exact absurd (hm2.1 x hx) (lt_irr x)
      · exact k
theorem rise_nodup {l : List Tx} (h : rise l) : l.Nodup := h.imp fun {a b} k e => by subst e; exact lt_irr a k
theorem rise_nil : rise [] := List.Pairwise.nil
theorem rise_snoc {l : List Tx} {x : Tx} (h : rise l) (k : ∀ y ∈ l, lt y x) : rise (l ++ [x]) := by
  refine List.pairwise_append.2 ⟨h, List.pairwise_singleton _ _, fun a ha b hb => ?_⟩
  rw [List.mem_singleton] at hb
  subst hb
  exact k a ha

/-- x is not behind y. -/
def le (x y : Tx) : Prop := ¬ lt y x
theorem le_trans {x y z : Tx} (h : le x y) (k : le y z) : le x z := fun hzx => by
  rcases less_three x y with e | e | e
  · rcases less_three y z with f | f | f
    · exact lt_asymm (lt_trans e f) hzx
    · subst f; exact lt_asymm e hzx
    · exact k f
  · subst e; exact k hzx
  · exact h e
theorem le_lt {x y : Tx} (h : le x y) (e : x ≠ y) : lt x y := by
  rcases less_three x y with k | k | k
  · exact k
  · exact absurd k e
  · exact absurd k h
theorem le_lt_trans {x y z : Tx} (h : le x y) (k : lt y z) : lt x z := by
  by_cases e : x = y
  · subst e; exact k
  · exact lt_trans (le_lt h e) k

theorem compact_rise (d : Array Tx) (hd : ∀ i j, i ≤ j → j < d.size → le d[i]! d[j]!) : ∀ m, m ≤ d.size → rise (Lib.compactUpTo d m) ∧ ∀ x, x ∈ Lib.compactUpTo d m ↔ ∃ j, j < m ∧ d[j]! = x := by
  intro m
  induction m with
  | zero => intro _; exact ⟨by simpa [Lib.compactUpTo] using rise_nil, by simp [Lib.compactUpTo]⟩
  | succ m ih =>
    intro hm
    obtain ⟨h1, h2⟩ := ih (by omega)
    rw [Lib.compactUpTo_succ]
    by_cases hk : m = 0 ∨ d[m]! ≠ d[m - 1]!
    · have e : Lib.keeps d m = true := by unfold Lib.keeps; exact decide_eq_true hk
      rw [if_pos e]
      refine ⟨rise_snoc h1 fun y hy => ?_, fun x => ?_⟩
      · obtain ⟨j, hj, rfl⟩ := (h2 y).1 hy
        rcases hk with hk | hk
        · omega
        · exact le_lt_trans (hd j (m - 1) (by omega) (by omega)) (le_lt (hd (m - 1) m (by omega) (by omega)) (fun e => hk e.symm))
      · rw [List.mem_append, List.mem_singleton, h2]
        constructor
        · rintro (⟨j, hj, e⟩ | e)
          · exact ⟨j, by omega, e⟩
          · exact ⟨m, by omega, e.symm⟩
        · rintro ⟨j, hj, ex⟩
          by_cases ej : j = m
          · subst ej; exact .inr ex.symm
          · exact .inl ⟨j, by omega, ex⟩
    · have e : Lib.keeps d m = false := by unfold Lib.keeps; exact decide_eq_false hk
      have h0 : m ≠ 0 := fun e => hk (.inl e)
      have he : d[m]! = d[m - 1]! := Classical.byContradiction fun e => hk (.inr e)
      rw [if_neg (by rw [e]; decide), List.append_nil]
      refine ⟨h1, fun x => ?_⟩
      rw [h2]
      constructor
      · rintro ⟨j, hj, e⟩
        exact ⟨j, by omega, e⟩
      · rintro ⟨j, hj, ex⟩
        by_cases ej : j = m
        · subst ej; exact ⟨j - 1, by omega, by rw [← he]; exact ex⟩
        · exact ⟨j, by omega, ex⟩

/-- Texts sorted, each once. -/
def pickT (l : List Tx) : List Tx := Lib.compact (l.mergeSort fun x y => decide (x ≤ y))
theorem le_iff {x y : Tx} : decide (x ≤ y) = true ↔ le x y := by
  rw [decide_eq_true_eq]
  unfold le
  rw [lt_iff]
  exact List.not_lt.symm
theorem sorted_T (l : List Tx) : (l.mergeSort fun x y => decide (x ≤ y)).Pairwise le := by
  have h := List.pairwise_mergeSort (le := fun x y : Tx => decide (x ≤ y)) (fun a b c h k => le_iff.2 (le_trans (le_iff.1 h) (le_iff.1 k))) (fun a b => by
    rw [Bool.or_eq_true, le_iff, le_iff]
    by_cases h : lt b a
    · exact .inr (lt_asymm h)
    · exact .inl h) l
  exact h.imp fun {a b} k => le_iff.1 k
theorem pick_both (l : List Tx) : rise (pickT l) ∧ ∀ x, x ∈ pickT l ↔ x ∈ l := by
  have hs := sorted_T l
  obtain ⟨s, hss⟩ : ∃ s, s = l.mergeSort fun x y => decide (x ≤ y) := ⟨_, rfl⟩
  have hm : ∀ x, x ∈ s ↔ x ∈ l := fun x => by rw [hss]; exact (List.mergeSort_perm l _).mem_iff
  unfold pickT Lib.compact
  rw [← hss] at hs ⊢
  have hd : ∀ i j, i ≤ j → j < s.toArray.size → le s.toArray[i]! s.toArray[j]! := fun i j hij hj => by
    have hj' : j < s.length := by simpa using hj
    have hi' : i < s.length := by omega
    have e1 : s.toArray[i]! = s[i] := by simp [hi']
    have e2 : s.toArray[j]! = s[j] := by simp [hj']
    rw [e1, e2]
    by_cases e : i = j
    · subst e; exact lt_irr _
    · exact List.pairwise_iff_getElem.1 hs i j hi' hj' (by omega)
  obtain ⟨h1, h2⟩ := compact_rise s.toArray hd s.length (by simp)
  refine ⟨h1, fun x => ?_⟩
  rw [h2, ← hm]
  constructor
  · rintro ⟨j, hj, e⟩
    have e2 : s.toArray[j]! = s[j] := by simp [hj]
    rw [← e, e2]
    exact List.getElem_mem hj
  · intro hx
    obtain ⟨j, hj, e⟩ := List.getElem_of_mem hx
    exact ⟨j, hj, by have e2 : s.toArray[j]! = s[j] := by simp [hj]
                     rw [e2, e]⟩
theorem pick_rise (l : List Tx) : rise (pickT l) := (pick_both l).1
theorem pick_mem (l : List Tx) (x : Tx) : x ∈ pickT l ↔ x ∈ l := (pick_both l).2 x
theorem pick_one {l m : List Tx} (h : rise m) (k : ∀ x, x ∈ m ↔ x ∈ l) : pickT l = m := rise_one (pick_rise l) h fun x => by rw [pick_mem, k]
theorem pick_nil : pickT [] = [] := pick_one rise_nil (fun _ => Iff.rfl)
theorem pick_len (l : List Tx) : (pickT l).length ≤ l.length := by
  unfold pickT Lib.compact Lib.compactUpTo
  rw [List.length_map]
  refine Nat.le_trans (List.length_filter_le _ _) ?_
  rw [List.length_range, List.length_mergeSort]
  exact Nat.le_refl _
end Go.Proofs.Yticpljjbnfimkaa.Hog
/- What is got and what is reached among named things that refer to one another: plainly. Nothing here names the program. -/
namespace Go.Proofs.Yticpljjbnfimkaa.Hog
open Go

/-- What has each of its members once, all within another list, is no longer than that. -/
theorem nodup_le {A : Type} [DecidableEq A] : ∀ {l m : List A}, l.Nodup → (∀ x ∈ l, x ∈ m) → l.length ≤ m.length
  | [], _, _, _ => Nat.zero_le _
  | a :: l, m, h, k => by
    obtain ⟨h1, h2⟩ := List.nodup_cons.1 h
    have h3 : l.length ≤ (m.erase a).length := nodup_le h2 fun x hx => (List.mem_erase_of_ne (fun (e : x = a) => h1 (e ▸ hx))).2 (k x (List.mem_cons_of_mem _ hx))
    rw [List.length_erase_of_mem (k a List.mem_cons_self)] at h3
    have := List.length_pos_of_mem (k a List.mem_cons_self)
    rw [List.length_cons]
    omega

section
variable {N T : Type} [DecidableEq N]

/-- The first one of that name. -/
def getK (is : List (N × List N × T)) (x : N) : Option (N × List N × T) := is.find? fun i => decide (i.1 = x)
/-- Its place. -/
def firstK (is : List (N × List N × T)) (x : N) : Option Nat := is.findIdx? fun i => decide (i.1 = x)

theorem firstK_some {is : List (N × List N × T)} {x : N} {k : Nat} (h : firstK is x = some k) : ∃ i, is[k]? = some i ∧ i.1 = x ∧ getK is x = some i := by
  unfold firstK at h
  obtain ⟨hk, h1, h2⟩ := List.findIdx?_eq_some_iff_getElem.1 h
  refine ⟨is[k], List.getElem?_eq_getElem hk, by simpa using h1, ?_⟩
  unfold getK
  rw [List.find?_eq_some_iff_getElem]
  exact ⟨h1, k, hk, rfl, fun j hj => by simpa using h2 j hj⟩
theorem firstK_none {is : List (N × List N × T)} {x : N} : firstK is x = none ↔ getK is x = none := by
  unfold firstK getK
  rw [List.findIdx?_eq_none_iff, List.find?_eq_none]
  constructor
  · intro h i hi; rw [h i hi]; decide
  · intro h i hi; exact Bool.eq_false_iff.2 (h i hi)
theorem getK_some {is : List (N × List N × T)} {x : N} {i : N × List N × T} (h : getK is x = some i) : i ∈ is ∧ i.1 = x := by
  unfold getK at h
  exact ⟨List.mem_of_find?_eq_some h, by simpa using List.find?_some h⟩
theorem getK_none {is : List (N × List N × T)} {x : N} : getK is x = none ↔ ¬ x ∈ is.map (·.1) := by
  unfold getK
  rw [List.find?_eq_none]
  constructor
  · intro h hx
    obtain ⟨i, hi, e⟩ := List.mem_map.1 hx
    exact absurd (by simpa using e) (h i hi)
  · intro h i hi e
    exact h (List.mem_map.2 ⟨i, hi, by simpa using e⟩)
theorem getK_isSome {is : List (N × List N × T)} {x : N} : (getK is x).isSome = true ↔ x ∈ is.map (·.1) := by
  cases h : getK is x with
  | none => simp only [Option.isSome_none, Bool.false_eq_true, false_iff]; exact getK_none.1 h
  | some i =>
    simp only [Option.isSome_some, true_iff]
    obtain ⟨h1, h2⟩ := getK_some h
    exact List.mem_map.2 ⟨i, h1, h2⟩
theorem firstK_isSome {is : List (N × List N × T)} {x : N} : (firstK is x).isSome = true ↔ x ∈ is.map (·.1) := by
  rw [← getK_isSome]
  cases h : firstK is x with
  | none => rw [firstK_none.1 h]; exact Iff.rfl
  | some k => obtain ⟨i, _, _, hi⟩ := firstK_some h; rw [hi]; simp
theorem firstK_lt {is : List (N × List N × T)} {x : N} {k : Nat} (h : firstK is x = some k) : k < is.length := by
  obtain ⟨i, hi, _⟩ := firstK_some h
  exact (List.getElem?_eq_some_iff.1 hi).1
theorem firstK_inj {is : List (N × List N × T)} {x y : N} {k : Nat} (h : firstK is x = some k) (h' : firstK is y = some k) : x = y := by
  obtain ⟨i, hi, e, _⟩ := firstK_some h
  obtain ⟨j, hj, f, _⟩ := firstK_some h'
  rw [hi] at hj; cases hj
  exact e.symm.trans f

/-- What is reached: whatever holds the first ones, and all that these refer to, holds it. -/
def Rch (is : List (N × List N × T)) (ns : List N) (x : N) : Prop := ∀ P : N → Prop, (∀ y, y ∈ ns → y ∈ is.map (·.1) → P y) → (∀ z y i, P y → getK is y = some i → z ∈ i.2.1 → z ∈ is.map (·.1) → P z) → P x
theorem Rch.start {is : List (N × List N × T)} {ns : List N} {x : N} (h : x ∈ ns) (k : x ∈ is.map (·.1)) : Rch is ns x := fun _ h1 _ => h1 x h k
theorem Rch.step {is : List (N × List N × T)} {ns : List N} {x y : N} {i : N × List N × T} (h : Rch is ns y) (g : getK is y = some i) (m : x ∈ i.2.1) (k : x ∈ is.map (·.1)) : Rch is ns x := fun P h1 h2 => h2 x y i (h P h1 h2) g m k
theorem Rch.there {is : List (N × List N × T)} {ns : List N} {x : N} (h : Rch is ns x) : x ∈ is.map (·.1) := h (fun z => z ∈ is.map (·.1)) (fun _ _ k => k) (fun _ _ _ _ _ _ k => k)
theorem Rch.mono {is : List (N × List N × T)} {ns ms : List N} {x : N} (h : Rch is ns x) (hs : ∀ y ∈ ns, y ∈ ms) : Rch is ms x :=
  h (fun z => Rch is ms z) (fun y hy k => .start (hs y hy) k) (fun _ _ _ ih g m k => .step ih g m k)
theorem Rch.again {is : List (N × List N × T)} {ns ms : List N} {x : N} (h : Rch is ms x) (hs : ∀ y ∈ ms, y ∈ is.map (·.1) → Rch is ns y) : Rch is ns x :=
  h (fun z => Rch is ns z) (fun y hy k => hs y hy k) (fun _ _ _ ih g m k => .step ih g m k)
/-- Whatever holds the first ones and all that these refer to holds all that is reached. -/
theorem Rch.within {is : List (N × List N × T)} {ns : List N} {P : N → Prop} (h1 : ∀ x ∈ ns, x ∈ is.map (·.1) → P x)
    (h2 : ∀ y i, P y → getK is y = some i → ∀ x ∈ i.2.1, x ∈ is.map (·.1) → P x) {x : N} (h : Rch is ns x) : P x :=
  h P (fun y hy k => h1 y hy k) (fun z y i ih g m k => h2 y i ih g z m k)

/-- What is left when x is taken. -/
def delK {B : Type} (f : N → Option B) (x : N) : N → Option B := fun q => if q = x then none else f q
def takeS {B : Type} (s : (N → Option B) × List B) (x : N) : (N → Option B) × List B :=
  match s.1 x with
  | some z => (delK s.1 x, s.2 ++ [z])
  | none => s
theorem takeS_some {B : Type} {s : (N → Option B) × List B} {x : N} {z : B} (h : s.1 x = some z) : takeS s x = (delK s.1 x, s.2 ++ [z]) := by unfold takeS; rw [h]
theorem takeS_none {B : Type} {s : (N → Option B) × List B} {x : N} (h : s.1 x = none) : takeS s x = s := by unfold takeS; rw [h]
def takeK {B : Type} (f : N → Option B) (xs : List N) : (N → Option B) × List B := xs.foldl takeS (f, [])
theorem takeK_nil {B : Type} (f : N → Option B) : takeK f [] = (f, []) := rfl
theorem takeK_in {B : Type} {f : N → Option B} {xs : List N} {k : Nat} {x : N} {z : B} (hx : xs[k]? = some x) (h : (takeK f (xs.take k)).1 x = some z) :
    takeK f (xs.take (k + 1)) = (delK (takeK f (xs.take k)).1 x, (takeK f (xs.take k)).2 ++ [z]) := by
  unfold takeK at h ⊢
  rw [List.take_add_one, hx, Option.toList_some, List.foldl_append, List.foldl_cons, List.foldl_nil]
  exact takeS_some h
theorem takeK_out {B : Type} {f : N → Option B} {xs : List N} {k : Nat} {x : N} (hx : xs[k]? = some x) (h : (takeK f (xs.take k)).1 x = none) :
    takeK f (xs.take (k + 1)) = takeK f (xs.take k) := by
  unfold takeK at h ⊢
  rw [List.take_add_one, hx, Option.toList_some, List.foldl_append, List.foldl_cons, List.foldl_nil]
  exact takeS_none h

/-- f is what is left of g behind the places zs. -/
structure Left {B : Type} (g f : N → Option B) (zs : List B) : Prop where
  left : ∀ q z, f q = some z ↔ g q = some z ∧ ¬ z ∈ zs
  each : zs.Nodup
theorem Left.take {B : Type} [DecidableEq B] {g f : N → Option B} {zs : List B} (hg : ∀ x y z, g x = some z → g y = some z → x = y) (h : Left g f zs) (xs : List N) :
    Left g (takeK f xs).1 (zs ++ (takeK f xs).2) ∧ (∀ y ∈ (takeK f xs).2, ∃ x ∈ xs, g x = some y) ∧ (∀ x ∈ xs, ∀ y, g x = some y → y ∈ zs ++ (takeK f xs).2) := by
  have key : ∀ k, k ≤ xs.length → Left g (takeK f (xs.take k)).1 (zs ++ (takeK f (xs.take k)).2) ∧ (∀ y ∈ (takeK f (xs.take k)).2, ∃ x ∈ xs, g x = some y) ∧
      (∀ x ∈ xs.take k, ∀ y, g x = some y → y ∈ zs ++ (takeK f (xs.take k)).2) := by
    intro k
    induction k with
    | zero =>
      intro _
      rw [List.take_zero, takeK_nil, List.append_nil]
      exact ⟨h, fun y hy => absurd hy (by simp), fun x hx => absurd hx (by simp)⟩
    | succ k ih =>
      intro hk
      obtain ⟨i1, i2, i3⟩ := ih (by omega)
      have hx : xs[k]? = some xs[k] := List.getElem?_eq_getElem (by omega)
      have hmem : ∀ x ∈ xs.take (k + 1), x ∈ xs.take k ∨ x = xs[k] := by
        intro x hm
        rw [List.take_add_one, hx, Option.toList_some, List.mem_append, List.mem_singleton] at hm
        exact hm
      cases ht : (takeK f (xs.take k)).1 xs[k] with
      | none =>
        rw [takeK_out hx ht]
        refine ⟨i1, i2, fun x hm y hy => ?_⟩
        rcases hmem x hm with hm | rfl
        · exact i3 x hm y hy
        · refine Classical.byContradiction fun hn => ?_
          rw [(i1.left _ _).2 ⟨hy, hn⟩] at ht
          cases ht
      | some z =>
        rw [takeK_in hx ht]
        obtain ⟨g1, g2⟩ := (i1.left _ _).1 ht
        refine ⟨⟨fun q y => ?_, ?_⟩, fun y hy => ?_, fun x hm y hy => ?_⟩
        · show delK _ _ q = some y ↔ _
          unfold delK
          by_cases e : q = xs[k]
          · rw [if_pos e, ← List.append_assoc]
            constructor
            · intro h; cases h
            · rintro ⟨a1, a2⟩
              rw [e, g1] at a1; cases a1
              exact absurd (List.mem_append_right _ (List.mem_singleton.2 rfl)) a2
          · rw [if_neg e, i1.left, ← List.append_assoc]
            constructor
            · rintro ⟨a1, a2⟩
              refine ⟨a1, fun hm => ?_⟩
              rcases List.mem_append.1 hm with hm | hm
              · exact a2 hm
              · rw [List.mem_singleton.1 hm] at a1
                exact e (hg _ _ _ a1 g1)
            · rintro ⟨a1, a2⟩
              exact ⟨a1, fun hm => a2 (List.mem_append_left _ hm)⟩
        · rw [← List.append_assoc]
          exact List.nodup_append.2 ⟨i1.each, by simp, fun a ha b hb e => by
            rw [List.mem_singleton.1 hb] at e
            exact g2 (e ▸ ha)⟩
        · rcases List.mem_append.1 hy with hy | hy
          · exact i2 y hy
          · rw [List.mem_singleton.1 hy]
            exact ⟨xs[k], List.getElem_mem _, g1⟩
        · rw [← List.append_assoc]
          rcases hmem x hm with hm | rfl
          · exact List.mem_append_left _ (i3 x hm y hy)
          · rw [g1] at hy; cases hy
            exact List.mem_append_right _ (List.mem_singleton.2 rfl)
  have := key xs.length (Nat.le_refl _)
  rw [List.take_length] at this
  exact this

/-- The state of the walk through what is reached: f is left, zs the places reached, the first n of them looked through. -/
structure Walk (is : List (N × List N × T)) (ns : List N) (f : N → Option Nat) (zs : List Nat) (n : Nat) : Prop where
  rest : Left (firstK is) f zs
  good : ∀ z ∈ zs, ∃ x, firstK is x = some z ∧ Rch is ns x
  begun : ∀ x ∈ ns, ∀ z, firstK is x = some z → z ∈ zs
  done : ∀ (j z : Nat) i, j < n → zs[j]? = some z → is[z]? = some i → ∀ x ∈ i.2.1, ∀ y, firstK is x = some y → y ∈ zs
theorem Walk.begin (is : List (N × List N × T)) (ns : List N) : Walk is ns (takeK (firstK is) ns).1 (takeK (firstK is) ns).2 0 := by
  obtain ⟨h1, h2, h3⟩ := Left.take (g := firstK is) (f := firstK is) (zs := []) (fun _ _ _ => firstK_inj) ⟨fun q z => by simp, List.nodup_nil⟩ ns
  rw [List.nil_append] at h1
  refine ⟨h1, fun z hz => ?_, fun x hx z hz => by simpa using h3 x hx z hz, fun j z i hj => absurd hj (by omega)⟩
  obtain ⟨x, hx, he⟩ := h2 z hz
  exact ⟨x, he, .start hx (firstK_isSome.1 (by rw [he]; rfl))⟩
theorem Walk.next {is : List (N × List N × T)} {ns : List N} {f : N → Option Nat} {zs : List Nat} {n z : Nat} {i : N × List N × T} (h : Walk is ns f zs n) (hz : zs[n]? = some z) (hi : is[z]? = some i) :
    Walk is ns (takeK f i.2.1).1 (zs ++ (takeK f i.2.1).2) (n + 1) := by
  obtain ⟨h1, h2, h3⟩ := Left.take (g := firstK is) (fun _ _ _ => firstK_inj) h.rest i.2.1
  obtain ⟨q, hq, hr⟩ := h.good z (List.mem_of_getElem? hz)
  obtain ⟨i', e1, e2, e3⟩ := firstK_some hq
  rw [hi] at e1; cases e1
  refine ⟨h1, fun y hy => ?_, fun x hx y hy => List.mem_append_left _ (h.begun x hx y hy), fun j y i' hj hy hi' x hx u hu => ?_⟩
  · rcases List.mem_append.1 hy with hy | hy
    · exact h.good y hy
    · obtain ⟨x, hx, he⟩ := h2 y hy
      exact ⟨x, he, .step hr e3 hx (firstK_isSome.1 (by rw [he]; rfl))⟩
  · have hlt := (List.getElem?_eq_some_iff.1 hz).1
    rw [List.getElem?_append_left (by omega)] at hy
    by_cases e : j = n
    · subst e
      rw [hz] at hy; cases hy
      rw [hi] at hi'; cases hi'
      exact h3 x hx u hu
    · exact List.mem_append_left _ (h.done j y i' (by omega) hy hi' x hx u hu)
theorem Walk.low {is : List (N × List N × T)} {ns : List N} {f : N → Option Nat} {zs : List Nat} {n : Nat} (h : Walk is ns f zs n) : zs.length ≤ is.length ∧ ∀ z ∈ zs, z < is.length := by
  have h2 : ∀ z ∈ zs, z < is.length := fun z hz => by obtain ⟨x, hx, _⟩ := h.good z hz; exact firstK_lt hx
  refine ⟨?_, h2⟩
  have := nodup_le (m := List.range is.length) h.rest.each fun z hz => List.mem_range.2 (h2 z hz)
  rwa [List.length_range] at this
/-- At the end the names at these places are what is reached. -/
theorem Walk.ended {is : List (N × List N × T)} {ns : List N} {f : N → Option Nat} {zs : List Nat} (h : Walk is ns f zs zs.length) (x : N) : Rch is ns x ↔ ∃ z ∈ zs, firstK is x = some z := by
  have some_of : ∀ {x}, x ∈ is.map (·.1) → ∃ z, firstK is x = some z := fun hx => Option.isSome_iff_exists.1 (firstK_isSome.2 hx)
  constructor
  · intro hr
    refine hr.within (P := fun x => ∃ z ∈ zs, firstK is x = some z) (fun x hx k => ?_) (fun y i hy g x hx k => ?_)
    · obtain ⟨z, hz⟩ := some_of k
      exact ⟨z, h.begun x hx z hz, hz⟩
    · obtain ⟨z, hz⟩ := some_of k
      obtain ⟨u, hu, hy⟩ := hy
      obtain ⟨i', a1, a2, a3⟩ := firstK_some hy
      rw [g] at a3; cases a3
      obtain ⟨j, hj⟩ := List.getElem?_of_mem hu
      exact ⟨z, h.done j u i (List.getElem?_eq_some_iff.1 hj).1 hj a1 x hx z hz, hz⟩
  · rintro ⟨z, hz, hx⟩
    obtain ⟨y, hy, hr⟩ := h.good z hz
    rw [firstK_inj hx hy]; exact hr

/-- The document's walk: found what is found, todo what is looked at, the first n of it looked at. -/
structure Seek (is : List (N × List N × T)) (ns found todo : List N) (n : Nat) : Prop where
  each : found.Nodup
  good : ∀ x ∈ found, Rch is ns x
  from_ : ∀ x ∈ todo, x ∈ is.map (·.1) → Rch is ns x
  begun : ∀ x ∈ ns, x ∈ todo
  refs : ∀ x ∈ found, ∀ i, getK is x = some i → ∀ y ∈ i.2.1, y ∈ todo
  done : ∀ (j : Nat) x, j < n → todo[j]? = some x → x ∈ is.map (·.1) → x ∈ found
  long : ∀ m, (∀ i ∈ is, i.2.1.length ≤ m) → todo.length ≤ ns.length + found.length * m
theorem Seek.begin (is : List (N × List N × T)) (ns : List N) : Seek is ns [] ns 0 :=
  ⟨List.nodup_nil, fun _ h => absurd h (by simp), fun _ h k => .start h k, fun _ h => h, fun _ h => absurd h (by simp), fun _ _ h => absurd h (by omega), fun m _ => by simp⟩
theorem Seek.pass {is : List (N × List N × T)} {ns found todo : List N} {n : Nat} {x : N} (h : Seek is ns found todo n) (hx : todo[n]? = some x) (hp : getK is x = none ∨ x ∈ found) : Seek is ns found todo (n + 1) := by
  refine ⟨h.each, h.good, h.from_, h.begun, h.refs, fun j y hj hy k => ?_, h.long⟩
  by_cases e : j = n
  · subst e
    rw [hx] at hy; cases hy
    rcases hp with hp | hp
    · exact absurd k (getK_none.1 hp)
    · exact hp
  · exact h.done j y (by omega) hy k
theorem Seek.next {is : List (N × List N × T)} {ns found todo : List N} {n : Nat} {x : N} {i : N × List N × T} (h : Seek is ns found todo n) (hx : todo[n]? = some x) (hi : getK is x = some i) (hn : ¬ x ∈ found) :
    Seek is ns (found ++ [x]) (todo ++ i.2.1) (n + 1) := by
  have hr : Rch is ns x := h.from_ x (List.mem_of_getElem? hx) (getK_isSome.1 (by rw [hi]; rfl))
  have hlt := (List.getElem?_eq_some_iff.1 hx).1
  refine ⟨?_, fun y hy => ?_, fun y hy k => ?_, fun y hy => List.mem_append_left _ (h.begun y hy), fun y hy j hj u hu => ?_, fun j y hj hy k => ?_, fun m hm => ?_⟩
  · exact List.nodup_append.2 ⟨h.each, by simp, fun a ha b hb e => by
      rw [List.mem_singleton.1 hb] at e
      exact hn (e ▸ ha)⟩
  · rcases List.mem_append.1 hy with hy | hy
    · exact h.good y hy
    · rw [List.mem_singleton.1 hy]; exact hr
  · rcases List.mem_append.1 hy with hy | hy
    · exact h.from_ y hy k
    · exact .step hr hi hy k
  · rcases List.mem_append.1 hy with hy | hy
    · exact List.mem_append_left _ (h.refs y hy j hj u hu)
    · rw [List.mem_singleton.1 hy, hi] at hj; cases hj
      exact List.mem_append_right _ hu
  · rw [List.getElem?_append_left (by omega)] at hy
    by_cases e : j = n
    · subst e
      rw [hx] at hy; cases hy
      exact List.mem_append_right _ (List.mem_singleton.2 rfl)
    · exact List.mem_append_left _ (h.done j y (by omega) hy k)
  · have h1 := h.long m hm
    have h2 := hm i (getK_some hi).1
    rw [List.length_append, List.length_append, List.length_singleton, Nat.add_mul]
    omega
theorem Seek.few {is : List (N × List N × T)} {ns found todo : List N} {n : Nat} (h : Seek is ns found todo n) : found.length ≤ is.length := by
  have := nodup_le (m := is.map (·.1)) h.each fun x hx => (h.good x hx).there
  rwa [List.length_map] at this
theorem Seek.ended {is : List (N × List N × T)} {ns found todo : List N} {n : Nat} (h : Seek is ns found todo n) (hn : todo.length ≤ n) (x : N) : Rch is ns x ↔ x ∈ found := by
  have hall : ∀ y ∈ todo, y ∈ is.map (·.1) → y ∈ found := fun y hy k => by
    obtain ⟨j, hj⟩ := List.getElem?_of_mem hy
    exact h.done j y (by have := (List.getElem?_eq_some_iff.1 hj).1; omega) hj k
  constructor
  · intro hr
    exact hr.within (P := fun x => x ∈ found) (fun y hy k => hall y (h.begun y hy) k) (fun y i hy g u hu k => hall u (h.refs y hy i g u hu) k)
  · exact h.good x
end
end Go.Proofs.Yticpljjbnfimkaa.Hog
/- Where one list of bytes stands in another: plainly, and by the longest beginning that was just seen. Nothing here names the program. -/
namespace Go.Proofs.Yticpljjbnfimkaa.Hog
open Go

/-- Does P stand in s at place i? -/
def occ (P s : List UInt8) (i : Nat) : Bool := decide ((s.drop i).take P.length = P)
/-- The places at which P stands in s, among those that k bytes decide. -/
def uptoL (P s : List UInt8) (k : Nat) : List Nat := (List.range (k + 1 - P.length)).filter (occ P s)
/-- The places at which P stands in s; none, if it is empty. -/
def placesL (P s : List UInt8) : List Nat := if P = [] then [] else uptoL P s s.length

/-- The first b bytes of P stand at t's end. -/
def bord (P t : List UInt8) (b : Nat) : Prop := b ≤ P.length ∧ P.take b <:+ t
/-- b is the most of which that is true. -/
def best (P t : List UInt8) (b : Nat) : Prop := bord P t b ∧ ∀ c, bord P t c → c ≤ b

theorem bord_len {P t : List UInt8} {b : Nat} (h : bord P t b) : b ≤ t.length := by
  have := h.2.length_le
  rw [List.length_take] at this
  have := h.1
  omega
theorem best_nil (P : List UInt8) : best P [] 0 := by
  refine ⟨⟨Nat.zero_le _, by simp⟩, fun c h => ?_⟩
  have := bord_len h
  simpa using this
theorem best_one {P t : List UInt8} {a b : Nat} (h : best P t a) (k : best P t b) : a = b := Nat.le_antisymm (k.2 a h.1) (h.2 b k.1)

theorem best_ex (P t : List UInt8) : ∃ b, best P t b := by
  have h : ∀ n, ∃ b, b ≤ n ∧ bord P t b ∧ ∀ c, c ≤ n → bord P t c → c ≤ b := by
    intro n
    induction n with
    | zero => exact ⟨0, Nat.le_refl _, ⟨Nat.zero_le _, by simp⟩, fun c h _ => h⟩
    | succ n ih =>
      obtain ⟨b, h1, h2, h3⟩ := ih
      by_cases h : bord P t (n + 1)
      · exact ⟨n + 1, Nat.le_refl _, h, fun c h _ => h⟩
      · refine ⟨b, by omega, h2, fun c hc hb => ?_⟩
        by_cases e : c = n + 1
        · subst e; exact absurd hb h
        · exact h3 c (by omega) hb
  obtain ⟨b, _, h2, h3⟩ := h P.length
  exact ⟨b, h2, fun c hc => h3 c hc.1 hc⟩

theorem suffix_snoc {a t : List UInt8} {x y : UInt8} (h : a ++ [y] <:+ t ++ [x]) : y = x ∧ a <:+ t := by
  obtain ⟨r, hr⟩ := h
  rw [← List.append_assoc] at hr
  have h1 := List.append_inj' hr rfl
  refine ⟨by simpa using h1.2, ⟨r, h1.1⟩⟩
theorem take_snoc {P : List UInt8} {c : Nat} (h : c < P.length) : P.take (c + 1) = P.take c ++ [P[c]] := List.take_succ_eq_append_getElem h
theorem bord_snoc {P t : List UInt8} {x : UInt8} {c : Nat} (h : bord P (t ++ [x]) (c + 1)) : bord P t c ∧ P[c]? = some x := by
  have hc : c < P.length := h.1
  have h2 := h.2
  rw [take_snoc hc] at h2
  obtain ⟨e, hs⟩ := suffix_snoc h2
  exact ⟨⟨by omega, hs⟩, by rw [List.getElem?_eq_getElem hc, e]⟩
theorem bord_add {P t : List UInt8} {x : UInt8} {c : Nat} (h : bord P t c) (hx : P[c]? = some x) : bord P (t ++ [x]) (c + 1) := by
  obtain ⟨hc, e⟩ := List.getElem?_eq_some_iff.1 hx
  refine ⟨hc, ?_⟩
  rw [take_snoc hc, e]
  obtain ⟨r, hr⟩ := h.2
  exact ⟨r, by rw [← List.append_assoc, hr]⟩

/-- What is asked of the number that is being lowered. -/
def low (P t : List UInt8) (x : UInt8) (b : Nat) : Prop := bord P t b ∧ ∀ c, bord P (t ++ [x]) (c + 1) → c ≤ b
theorem low_start {P t : List UInt8} {x : UInt8} {b : Nat} (h : best P t b) : low P t x b := ⟨h.1, fun c hc => h.2 c (bord_snoc hc).1⟩
theorem take_tail (P : List UInt8) (b : Nat) : (P.take (b + 1)).tail = P.tail.take b := by cases P <;> simp
theorem low_step {P t : List UInt8} {x : UInt8} {b r : Nat} (h : low P t x (b + 1)) (hr : best P (P.tail.take b) r) (hx : P[b + 1]? ≠ some x) : low P t x r ∧ r ≤ b := by
  have hb : (P.tail.take b).length ≤ b := List.length_take_le _ _
  have hrb : r ≤ b := Nat.le_trans (bord_len hr.1) hb
  have hsuf : P.tail.take b <:+ P.take (b + 1) := by rw [← take_tail]; exact List.tail_suffix _
  refine ⟨⟨⟨hr.1.1, (hr.1.2.trans hsuf).trans h.1.2⟩, fun c hc => ?_⟩, hrb⟩
  obtain ⟨k1, k2⟩ := bord_snoc hc
  have h1 := h.2 c hc
  have hne : c ≠ b + 1 := fun e => hx (by rw [← e]; exact k2)
  refine hr.2 c ⟨k1.1, ?_⟩
  have hcl : (P.take c).length = c := by rw [List.length_take]; have := k1.1; omega
  have hbl : (P.take (b + 1)).length = b + 1 := by rw [List.length_take]; have := h.1.1; omega
  have h2 : P.take c <:+ P.take (b + 1) := List.suffix_of_suffix_length_le k1.2 h.1.2 (by omega)
  rw [← take_tail]
  obtain ⟨q, hq⟩ := h2
  cases q with
  | nil => rw [List.nil_append] at hq; rw [hq] at hcl; omega
  | cons u q => rw [← hq]; exact ⟨q, rfl⟩
theorem low_hit {P t : List UInt8} {x : UInt8} {b : Nat} (h : low P t x b) (hx : P[b]? = some x) : best P (t ++ [x]) (b + 1) := by
  refine ⟨bord_add h.1 hx, fun d hd => ?_⟩
  cases d with
  | zero => omega
  | succ c => have := h.2 c hd; omega
theorem low_miss {P t : List UInt8} {x : UInt8} (h : low P t x 0) (hx : P[0]? ≠ some x) : best P (t ++ [x]) 0 := by
  refine ⟨⟨Nat.zero_le _, by simp⟩, fun d hd => ?_⟩
  cases d with
  | zero => omega
  | succ c =>
    have h0 := h.2 c hd
    obtain rfl : c = 0 := by omega
    exact absurd (bord_snoc hd).2 hx

/-- The table: for each beginning, the longest shorter one that it ends with, as far as n. -/
def table (P : List UInt8) (zs : List Int) (n : Nat) : Prop := ∀ j, j < n → ∃ r : Nat, zs[j]? = some (r : Int) ∧ best P (P.tail.take j) r
theorem table_less {P : List UInt8} {zs : List Int} {n m : Nat} (h : table P zs n) (hm : m ≤ n) : table P zs m := fun j hj => h j (by omega)
theorem table_set {P : List UInt8} {zs : List Int} {n r : Nat} (h : table P zs n) (hn : n < zs.length) (hr : best P (P.tail.take n) r) : table P (zs.set n (r : Int)) (n + 1) := fun j hj => by
  by_cases e : j = n
  · subst e
    exact ⟨r, by rw [List.getElem?_set_self hn], hr⟩
  · obtain ⟨q, h1, h2⟩ := h j (by omega)
    exact ⟨q, by rw [List.getElem?_set_ne (by omega)]; exact h1, h2⟩

theorem seen_whole {P s : List UInt8} {k b : Nat} (hk : k ≤ s.length) (h : best P (s.take k) b) : b = P.length ↔ P.length ≤ k ∧ occ P s (k - P.length) = true := by
  have hl : (s.take k).length = k := by rw [List.length_take]; omega
  unfold occ
  rw [decide_eq_true_eq]
  constructor
  · intro e
    have h1 := bord_len h.1
    rw [hl, e] at h1
    refine ⟨h1, ?_⟩
    have h2 := h.1.2
    rw [e, List.take_length] at h2
    have h3 := List.suffix_iff_eq_drop.1 h2
    rw [hl, List.drop_take] at h3
    rw [show k - (k - P.length) = P.length by omega] at h3
    exact h3.symm
  · rintro ⟨h1, h2⟩
    have h3 : bord P (s.take k) P.length := by
      refine ⟨Nat.le_refl _, ?_⟩
      rw [List.take_length]
      refine List.suffix_iff_eq_drop.2 ?_
      rw [hl, List.drop_take, show k - (k - P.length) = P.length by omega]
      exact h2.symm
    exact Nat.le_antisymm h.1.1 (h.2 _ h3)

theorem upto_zero {P : List UInt8} (s : List UInt8) (hP : P ≠ []) : uptoL P s 0 = [] := by
  unfold uptoL
  have : 0 < P.length := List.length_pos_iff.2 hP
  rw [show 0 + 1 - P.length = 0 by omega]
  rfl
theorem upto_hit {P s : List UInt8} {k : Nat} (h1 : P.length ≤ k + 1) (h2 : occ P s (k + 1 - P.length) = true) : uptoL P s (k + 1) = uptoL P s k ++ [k + 1 - P.length] := by
  unfold uptoL
  rw [show k + 1 + 1 - P.length = (k + 1 - P.length) + 1 by omega, List.range_succ, List.filter_append]
  simp [h2]
theorem upto_miss {P s : List UInt8} {k : Nat} (h : ¬ (P.length ≤ k + 1 ∧ occ P s (k + 1 - P.length) = true)) : uptoL P s (k + 1) = uptoL P s k := by
  unfold uptoL
  by_cases h1 : P.length ≤ k + 1
  · have h2 : occ P s (k + 1 - P.length) = false := by
      cases e : occ P s (k + 1 - P.length) with
      | false => rfl
      | true => exact absurd ⟨h1, e⟩ h
    rw [show k + 1 + 1 - P.length = (k + 1 - P.length) + 1 by omega, List.range_succ, List.filter_append]
    simp [h2]
  · rw [show k + 1 + 1 - P.length = 0 by omega, show k + 1 - P.length = 0 by omega]
theorem upto_len (P s : List UInt8) (k : Nat) : (uptoL P s k).length ≤ k + 1 := by
  unfold uptoL
  have := List.length_filter_le (occ P s) (List.range (k + 1 - P.length))
  rw [List.length_range] at this
  omega
theorem places_none {P s : List UInt8} (h : P = [] ∨ s.length < P.length) : placesL P s = [] := by
  unfold placesL
  split
  · rfl
  · rename_i hP
    rcases h with h | h
    · exact absurd h hP
    · unfold uptoL
      rw [show s.length + 1 - P.length = 0 by omega]
      rfl
theorem places_upto {P s : List UInt8} (h : P ≠ []) : placesL P s = uptoL P s s.length := by unfold placesL; rw [if_neg h]
theorem upto_prefix (P s : List UInt8) {k m : Nat} (h : k ≤ m) : uptoL P s k <+: uptoL P s m := by
  unfold uptoL
  obtain ⟨d, hd⟩ : ∃ d, m + 1 - P.length = (k + 1 - P.length) + d := ⟨m + 1 - P.length - (k + 1 - P.length), by omega⟩
  rw [hd, List.range_add, List.filter_append]
  exact List.prefix_append _ _
/-- Does P stand in s? -/
def hasL (P s : List UInt8) : Bool := !(placesL P s).isEmpty
theorem hasL_not {P s : List UInt8} (h : placesL P s = []) : hasL P s = false := by unfold hasL; rw [h]; rfl
theorem hasL_is {P s : List UInt8} (h : placesL P s ≠ []) : hasL P s = true := by
  unfold hasL
  cases e : placesL P s with
  | nil => exact absurd e h
  | cons a r => rfl
/-- Is q one of the first n pieces of eight bytes of s? -/
def metL (q s : List UInt8) (n : Nat) : Bool := decide (q.length = 8) && (List.range n).any (occ q s)
theorem metL_zero (q s : List UInt8) : metL q s 0 = false := by unfold metL; simp
theorem metL_step {q s : List UInt8} {n : Nat} (hn : n + 8 ≤ s.length) : metL q s (n + 1) = (metL q s n || decide (q = (s.drop n).take 8)) := by
  have hl : ((s.drop n).take 8).length = 8 := by rw [List.length_take, List.length_drop]; omega
  unfold metL
  by_cases h8 : q.length = 8
  · rw [decide_eq_true h8, Bool.true_and, Bool.true_and, List.range_succ, List.any_append]
    congr 1
    unfold occ
    simp only [List.any_cons, List.any_nil, Bool.or_false]
    rw [h8, Bool.eq_iff_iff, decide_eq_true_eq, decide_eq_true_eq]
    exact ⟨fun h => h.symm, fun h => h.symm⟩
  · rw [decide_eq_false h8, Bool.false_and, Bool.false_and, Bool.false_or]
    symm
    rw [decide_eq_false_iff_not]
    intro e
    rw [e] at h8
    exact h8 hl
theorem any_filter {α : Type} (p : α → Bool) : ∀ l : List α, l.any p = !(l.filter p).isEmpty
  | [] => rfl
  | a :: r => by
    rw [List.any_cons, List.filter_cons, any_filter p r]
    cases h : p a <;> simp
theorem metL_has (q s : List UInt8) : metL q s (s.length + 1 - 8) = (decide (q.length = 8) && hasL q s) := by
  unfold metL
  by_cases h8 : q.length = 8
  · rw [decide_eq_true h8, Bool.true_and, Bool.true_and, any_filter]
    unfold hasL placesL uptoL
    rw [if_neg (by intro e; rw [e] at h8; simp at h8), h8]
  · rw [decide_eq_false h8, Bool.false_and, Bool.false_and]
end Go.Proofs.Yticpljjbnfimkaa.Hog
