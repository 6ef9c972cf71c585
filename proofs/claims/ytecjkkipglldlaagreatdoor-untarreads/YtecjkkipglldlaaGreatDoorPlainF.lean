/- Plain facts on trees: what a tree is, apart from its order; what stands at a path, under a path, in a directory; what comes of one tree at a path of another. -/
import Derived.Test.YtecjkkipglldlaaGreatDoorJ4
import Derived.Test.YtecjkkipglldlaaGreatDoorPlainS
import Derived.Test.YtecjkkipglldlaaGreatDoorJ1
namespace Go.Proofs.YtecjkkipglldlaaGreatDoor
open Go.RowKit

abbrev key (n : Nd) : List UInt8 := n.1.data.toList
theorem key_inj {a b : ByteArray} : a.data.toList = b.data.toList ↔ a = b := by rw [bytes_eq, Lib.toList_data, Lib.toList_data]
theorem mk_key (n : Nd) : Hog.mk (key n) = n.1 := Hog.data_mk _

theorem badFromF_neg : ∀ (r ahead : List Nd), badFrom ahead r < 0 ↔ ∀ (i : Nat) n, r[i]? = some n → refusesB (ahead ++ r.take i) n = false
  | [], ahead => by simp [badFrom]
  | x :: r, ahead => by
    rw [badFrom]
    cases hx : refusesB ahead x with
    | true =>
      rw [if_pos rfl]
      constructor
      · intro h; omega
      · intro h
        have := h 0 x rfl
        simp [hx] at this
    | false =>
      rw [if_neg (by decide), badFromF_neg r (ahead ++ [x])]
      constructor
      · intro h i n hn
        cases i with
        | zero => simp at hn; subst hn; simpa using hx
        | succ i => have := h i n (by simpa using hn); simpa using this
      · intro h i n hn
        have := h (i + 1) n (by simpa using hn)
        simpa using this
theorem mayF_iff {t : List Nd} : mayN t = true ↔ t ≠ [] ∧ ∀ (i : Nat) n, t[i]? = some n → refusesB (t.take i) n = false := by
  unfold mayN badN
  rw [decide_eq_true_eq]
  cases t with
  | nil => simp
  | cons x r =>
    have := badFromF_neg (x :: r) []
    simp only [List.nil_append] at this
    rw [show (x :: r).isEmpty = false from rfl]
    simp only [Bool.false_eq_true, if_false, ne_eq, reduceCtorEq, not_false_eq_true, true_and]
    exact this
theorem mayF_rising {t : List Nd} (h : mayN t = true) : Rising t := by
  have key : ∀ k, k ≤ t.length → Rising (t.take k) := by
    intro k
    induction k with
    | zero => intro _; rw [List.take_zero]; exact rising_nil
    | succ k ih =>
      intro hk
      have hg : t[k]? = some t[k] := List.getElem?_eq_getElem (by omega)
      exact rising_step hg ((mayF_iff.1 h).2 k _ hg) (ih (by omega))
  have := key t.length (Nat.le_refl _)
  rwa [List.take_length] at this
theorem refusesF_parts {ahead : List Nd} {n z : Nd} (h : refusesB ahead n = false) (hz : ahead.getLast? = some z) : goodB n = true ∧ ahead.length ≠ 400 ∧ ltN z n = true ∧ standsB n ahead = true := by
  have hg : goodB n = true := by
    cases e : goodB n with
    | true => rfl
    | false => rw [refusesB_bad e] at h; cases h
  have hl : ahead.length ≠ 400 := fun e => by rw [refusesB_full e] at h; cases h
  rw [refusesB_next hg hl hz, Bool.or_eq_false_iff] at h
  exact ⟨hg, hl, by simpa using h.1, by simpa using h.2⟩

/-- A tree, as its nodes tell it. -/
structure Tree (t : List Nd) : Prop where
  len : t.length ≤ 400
  good : ∀ n ∈ t, goodB n = true
  rise : Rising t
  root : ∃ n ∈ t, key n = []
  up : ∀ n ∈ t, key n ≠ [] → ∃ m ∈ t, key m = Hog.parentL (key n) ∧ m.2.1 = 1
theorem good_may {n : Nd} (h : goodB n = true) : Hog.mayL (key n) = true := by unfold goodB at h; rw [Bool.and_eq_true] at h; exact h.1
theorem Tree.may {t : List Nd} (h : Tree t) {n : Nd} (hn : n ∈ t) : Hog.mayL (key n) = true := good_may (h.good n hn)

theorem rising_iff {l : List Nd} : Rising l ↔ l.Pairwise fun x y => ltN x y = true := by
  rw [List.pairwise_iff_getElem]
  constructor
  · intro h i j hi hj hij
    exact h i j _ _ hij (List.getElem?_eq_getElem hi) (List.getElem?_eq_getElem hj)
  · intro h i j x y hij hx hy
    obtain ⟨hi, rfl⟩ := List.getElem?_eq_some_iff.1 hx
    obtain ⟨hj, rfl⟩ := List.getElem?_eq_some_iff.1 hy
    exact h i j hi hj hij
theorem rising_key {t : List Nd} (h : Rising t) {n m : Nd} (hn : n ∈ t) (hm : m ∈ t) (e : key n = key m) : n = m := by
  obtain ⟨i, hi⟩ := List.mem_iff_getElem?.1 hn
  obtain ⟨j, hj⟩ := List.mem_iff_getElem?.1 hm
  rcases Nat.lt_trichotomy i j with k | k | k
  · have := h i j n m k hi hj; unfold ltN at this; rw [show n.1.data.toList = m.1.data.toList from e, Hog.less_irr] at this; cases this
  · subst k; rw [hi] at hj; cases hj; rfl
  · have := h j i m n k hj hi; unfold ltN at this; rw [show n.1.data.toList = m.1.data.toList from e, Hog.less_irr] at this; cases this

theorem may_tree {t : List Nd} (h : mayN t = true) : Tree t := by
  have hi := mayF_iff.1 h
  have hr := mayF_rising h
  refine ⟨?_, ?_, hr, ?_, ?_⟩
  · rcases Nat.lt_or_ge 400 t.length with h4 | h4
    · have hg : t[400]? = some t[400] := List.getElem?_eq_getElem h4
      have := hi.2 400 _ hg
      rw [refusesB_full (by rw [List.length_take]; omega)] at this
      cases this
    · exact h4
  · intro n hn
    obtain ⟨i, hgi⟩ := List.mem_iff_getElem?.1 hn
    have := hi.2 i n hgi
    cases e : goodB n with
    | true => rfl
    | false => rw [refusesB_bad e] at this; cases this
  · cases t with
    | nil => exact absurd rfl hi.1
    | cons x r =>
      have h0 := hi.2 0 x rfl
      rw [List.take_zero] at h0
      have hg : goodB x = true := by
        cases e : goodB x with
        | true => rfl
        | false => rw [refusesB_bad e] at h0; cases h0
      rw [refusesB_first hg] at h0
      refine ⟨x, by simp, (dataEmpty_iff x.1).1 (by simpa using h0)⟩
  · intro n hn hne
    obtain ⟨i, hgi⟩ := List.mem_iff_getElem?.1 hn
    have hil := (List.getElem?_eq_some_iff.1 hgi).1
    cases i with
    | zero =>
      have h0 := hi.2 0 n hgi
      rw [List.take_zero] at h0
      have hg : goodB n = true := by
        cases e : goodB n with
        | true => rfl
        | false => rw [refusesB_bad e] at h0; cases h0
      rw [refusesB_first hg] at h0
      exact absurd ((dataEmpty_iff n.1).1 (by simpa using h0)) hne
    | succ i =>
      have hz : t[i]? = some t[i] := List.getElem?_eq_getElem (by omega)
      obtain ⟨_, _, _, p4⟩ := refusesF_parts (hi.2 (i + 1) n hgi) (take_last hz)
      unfold standsB at p4
      rw [Bool.and_eq_true] at p4
      have hd := p4.2
      unfold dirAt at hd
      rw [List.any_eq_true] at hd
      obtain ⟨m, hm, hm2⟩ := hd
      simp only [Bool.and_eq_true, decide_eq_true_eq] at hm2
      refine ⟨m, List.mem_of_mem_take hm, ?_, hm2.2⟩
      unfold key
      rw [hm2.1]
      unfold parentP
      rw [Hog.mk_data]
theorem tree_may {t : List Nd} (h : Tree t) : mayN t = true := by
  obtain ⟨r, hr, hr0⟩ := h.root
  refine mayF_iff.2 ⟨fun e => (by rw [e] at hr; cases hr), fun i n hn => ?_⟩
  have hil := (List.getElem?_eq_some_iff.1 hn).1
  have hmem := List.mem_of_getElem? hn
  have hg := h.good n hmem
  have hlen := h.len
  cases i with
  | zero =>
    have h0 : key n = [] := by
      obtain ⟨j, hj⟩ := List.mem_iff_getElem?.1 hr
      cases j with
      | zero => rw [hn] at hj; cases hj; exact hr0
      | succ j =>
        have := h.rise 0 (j + 1) n r (by omega) hn hj
        unfold ltN at this
        rw [show r.1.data.toList = [] from hr0, Hog.less_nil] at this
        cases this
    rw [List.take_zero, refusesB_first hg]
    rw [(dataEmpty_iff n.1).2 h0]; rfl
  | succ i =>
    have hz : t[i]? = some t[i] := List.getElem?_eq_getElem (by omega)
    have hne : key n ≠ [] := by
      intro e
      have := h.rise i (i + 1) _ n (by omega) hz hn
      unfold ltN at this
      rw [show n.1.data.toList = [] from e, Hog.less_nil] at this
      cases this
    rw [refusesB_next hg (by rw [List.length_take]; omega) (take_last hz), h.rise i (i + 1) _ n (by omega) hz hn]
    have hst : standsB n (t.take (i + 1)) = true := by
      obtain ⟨m, hm, e1, e2⟩ := h.up n hmem hne
      unfold standsB
      rw [Hog.parent_ok (good_may hg) hne, Bool.true_and]
      unfold dirAt
      rw [List.any_eq_true]
      refine ⟨m, ?_, ?_⟩
      · obtain ⟨j, hj⟩ := List.mem_iff_getElem?.1 hm
        have hless : ltN m n = true := by unfold ltN; rw [show m.1.data.toList = _ from e1]; exact Hog.parent_less (good_may hg) hne
        have hji : j < i + 1 := by
          rcases Nat.lt_trichotomy j (i + 1) with k | k | k
          · exact k
          · subst k; rw [hn] at hj; cases hj; rw [ltN_irr] at hless; cases hless
          · rw [ltN_asymm (h.rise (i + 1) j n m k hn hj)] at hless; cases hless
        exact List.mem_iff_getElem?.2 ⟨j, by rw [List.getElem?_take_of_lt hji]; exact hj⟩
      · have : m.1 = parentP n.1 := by unfold parentP; rw [← key_inj, Hog.mk_data]; exact e1
        simp [this, e2]
    rw [hst]; rfl
theorem may_iff_tree {t : List Nd} : mayN t = true ↔ Tree t := ⟨may_tree, tree_may⟩

/-- What stands at a path. -/
def look (t : List Nd) (p : ByteArray) : Option Nd := t.find? fun n => decide (n.1 = p)
theorem look_some {t : List Nd} {p : ByteArray} {n : Nd} (h : look t p = some n) : n ∈ t ∧ n.1 = p :=
  ⟨List.mem_of_find?_eq_some h, by simpa using List.find?_some h⟩
theorem look_none {t : List Nd} {p : ByteArray} : look t p = none ↔ ∀ n ∈ t, n.1 ≠ p := by unfold look; rw [List.find?_eq_none]; simp
theorem look_of {t : List Nd} (hr : Rising t) {n : Nd} (hn : n ∈ t) {p : ByteArray} (e : n.1 = p) : look t p = some n := by
  cases h : look t p with
  | none => exact absurd e (look_none.1 h n hn)
  | some m =>
    obtain ⟨h1, h2⟩ := look_some h
    rw [rising_key hr h1 hn (by unfold key; rw [h2, e])]
theorem look_found {t : List Nd} (hr : Rising t) {p : ByteArray} {d : Nd} (hd : d.1 = p) {i : Nat} {b : Bool} (h : Found t d i b) : (b = true → ∃ x, t[i]? = some x ∧ look t p = some x) ∧ (b = false → look t p = none) := by
  refine ⟨fun hb => ?_, fun hb => look_none.2 fun n hn => by rw [← hd]; exact h.2.2 hb n hn⟩
  obtain ⟨x, h1, h2⟩ := h.2.1 hb
  exact ⟨x, h1, look_of hr (List.mem_of_getElem? h1) (h2.trans hd)⟩

/-- What stands at and under a path, as a tree of its own. -/
def mov (p : List UInt8) (n : Nd) : Nd := (Hog.mk (Hog.stripL (key n) p), n.2)
def sub (t : List Nd) (p : List UInt8) : List Nd := (t.filter fun n => Hog.underL (key n) p).map (mov p)
theorem mov_key (p : List UInt8) (n : Nd) : key (mov p n) = Hog.stripL (key n) p := by unfold mov key; rw [Hog.mk_data]
theorem sub_mem {t : List Nd} {p : List UInt8} {x : Nd} : x ∈ sub t p ↔ ∃ n ∈ t, Hog.underL (key n) p = true ∧ mov p n = x := by
  unfold sub
  rw [List.mem_map]
  constructor
  · rintro ⟨n, hn, e⟩; rw [List.mem_filter] at hn; exact ⟨n, hn.1, hn.2, e⟩
  · rintro ⟨n, hn, hu, e⟩; exact ⟨n, List.mem_filter.2 ⟨hn, hu⟩, e⟩
theorem sub_rise {t : List Nd} (h : Rising t) (p : List UInt8) : Rising (sub t p) := by
  rw [rising_iff] at h ⊢
  unfold sub
  rw [List.pairwise_map]
  refine (h.filter _).imp_of_mem fun {a b} ha hb hab => ?_
  have ua := ((Hog.under_iff _ _).1 (List.mem_filter.1 ha).2)
  have ub := ((Hog.under_iff _ _).1 (List.mem_filter.1 hb).2)
  unfold ltN at hab ⊢
  rw [show (mov p a).1.data.toList = _ from mov_key p a, show (mov p b).1.data.toList = _ from mov_key p b, Hog.strip_less ua.1 ub.1 ua.2.2 ub.2.2]
  exact hab
theorem Tree.sub {t : List Nd} (h : Tree t) {m : Nd} (hm : m ∈ t) : Tree (sub t (key m)) := by
  have hpm := h.may hm
  refine ⟨?_, ?_, sub_rise h.rise _, ?_, ?_⟩
  · unfold Proofs.YtecjkkipglldlaaGreatDoor.sub
    rw [List.length_map]
    exact Nat.le_trans (List.length_filter_le _ _) h.len
  · intro x hx
    obtain ⟨n, hn, hu, rfl⟩ := sub_mem.1 hx
    have hg := h.good n hn
    unfold goodB at hg ⊢
    rw [Bool.and_eq_true] at hg ⊢
    exact ⟨by rw [show (mov (key m) n).1.data.toList = _ from mov_key _ _]; exact Hog.strip_may hg.1, hg.2⟩
  · exact ⟨_, sub_mem.2 ⟨m, hm, Hog.under_self hpm, rfl⟩, by rw [mov_key, Hog.strip_self]⟩
  · intro x hx hne
    obtain ⟨n, hn, hu, rfl⟩ := sub_mem.1 hx
    obtain ⟨u1, u2, u3⟩ := (Hog.under_iff _ _).1 hu
    rw [mov_key] at hne ⊢
    have hnm : key n ≠ key m := fun e => hne (by rw [e, Hog.strip_self])
    have hn0 : key n ≠ [] := by
      intro e
      have := u3.pre
      rw [e] at this
      exact hnm (by rw [e, List.prefix_nil.1 this])
    obtain ⟨q, hq, e1, e2⟩ := h.up n hn hn0
    have hin := Hog.up_in u1 hn0 u3 hnm
    rw [← e1] at hin
    refine ⟨_, sub_mem.2 ⟨q, hq, (Hog.under_iff _ _).2 ⟨h.may hq, u2, hin⟩, rfl⟩, ?_, e2⟩
    rw [mov_key, (Hog.strip_parent u1 hn0 u3 hnm).1, e1]

/-- The names in the directory at a path. -/
def inDir (d : List UInt8) (n : Nd) : Bool := Hog.parentOk (key n) && decide (Hog.parentL (key n) = d)
def names (t : List Nd) (d : List UInt8) : List (List UInt8) := (t.filter (inDir d)).map fun n => Hog.baseL (key n)
theorem inDir_iff {d : List UInt8} {n : Nd} : inDir d n = true ↔ key n ≠ [] ∧ Hog.mayL (key n) = true ∧ Hog.parentL (key n) = d := by
  unfold inDir
  rw [Bool.and_eq_true, decide_eq_true_eq]
  constructor
  · rintro ⟨h1, h2⟩; exact ⟨(Hog.parent_not h1).1, (Hog.parent_not h1).2, h2⟩
  · rintro ⟨h1, h2, h3⟩; exact ⟨Hog.parent_ok h2 h1, h3⟩
theorem names_rise {t : List Nd} (h : Rising t) (d : List UInt8) : (names t d).Pairwise fun x y => Op.bytesLess x y = true := by
  rw [rising_iff] at h
  unfold names
  rw [List.pairwise_map]
  refine (h.filter _).imp_of_mem fun {a b} ha hb hab => ?_
  have ua := inDir_iff.1 (List.mem_filter.1 ha).2
  have ub := inDir_iff.1 (List.mem_filter.1 hb).2
  rw [Hog.base_less ua.2.1 ua.1 ub.2.1 ub.1 (ua.2.2.trans ub.2.2.symm)]
  exact hab

/-- What stands at a path of what stands at a path. -/
theorem deep_key {t : List Nd} {p : List UInt8} {x : Nd} (hx : x ∈ sub t p) : ∃ n ∈ t, Hog.underL (key n) p = true ∧ mov p n = x ∧ Hog.behL p (key x) = key n := by
  obtain ⟨n, hn, hu, rfl⟩ := sub_mem.1 hx
  obtain ⟨u1, u2, u3⟩ := (Hog.under_iff _ _).1 hu
  exact ⟨n, hn, hu, rfl, by rw [mov_key]; exact Hog.beh_strip' u1 u3⟩
theorem deep_under {n : Nd} {p q : List UInt8} (hn : Hog.mayL (key n) = true) (hp : Hog.mayL p = true) (hq : Hog.mayL q = true) (hb : Hog.mayL (Hog.behL p q) = true) :
    (Hog.underL (key n) p && Hog.underL (key (mov p n)) q) = Hog.underL (key n) (Hog.behL p q) := by
  rw [Bool.eq_iff_iff, Bool.and_eq_true, Hog.under_iff, Hog.under_iff, Hog.under_iff, mov_key]
  constructor
  · rintro ⟨⟨_, _, h1⟩, _, _, h2⟩
    exact ⟨hn, hb, (Hog.in_strip hn hp hq h1).1 h2⟩
  · rintro ⟨_, _, h⟩
    have h1 := h.trans (Hog.beh_in hp hq)
    exact ⟨⟨hn, hp, h1⟩, Hog.strip_may hn, hq, (Hog.in_strip hn hp hq h1).2 h⟩
theorem deep_mov {n : Nd} {p q : List UInt8} (hn : Hog.mayL (key n) = true) (hp : Hog.mayL p = true) (hq : Hog.mayL q = true) : mov q (mov p n) = mov (Hog.behL p q) n := by
  have : Hog.stripL (key (mov p n)) q = Hog.stripL (key n) (Hog.behL p q) := by rw [mov_key, Hog.strip_strip hn hp hq]
  show (Hog.mk (Hog.stripL (key (mov p n)) q), n.2) = (Hog.mk (Hog.stripL (key n) (Hog.behL p q)), n.2)
  rw [this]
theorem deep_sub {t : List Nd} (h : Tree t) {p q : List UInt8} (hp : Hog.mayL p = true) (hq : Hog.mayL q = true) (hb : Hog.mayL (Hog.behL p q) = true) : sub (sub t p) q = sub t (Hog.behL p q) := by
  unfold sub
  rw [List.filter_map, List.filter_filter, List.map_map]
  have e : t.filter (fun a => ((fun n => Hog.underL (key n) q) ∘ mov p) a && Hog.underL (key a) p) = t.filter fun n => Hog.underL (key n) (Hog.behL p q) := by
    refine List.filter_congr fun n hn => ?_
    rw [← deep_under (h.may hn) hp hq hb, Bool.and_comm]; rfl
  rw [e]
  refine List.map_congr_left fun n hn => ?_
  exact deep_mov (h.may (List.mem_filter.1 hn).1) hp hq
theorem deep_inDir {n : Nd} {p q : List UInt8} (hn : Hog.mayL (key n) = true) (hp : Hog.mayL p = true) (hq : Hog.mayL q = true) :
    (inDir q (mov p n) && Hog.underL (key n) p) = inDir (Hog.behL p q) n := by
  rw [Bool.eq_iff_iff, Bool.and_eq_true, inDir_iff, inDir_iff, Hog.under_iff, mov_key]
  constructor
  · rintro ⟨⟨h1, _, h3⟩, _, _, h⟩
    have hne : key n ≠ p := fun e => h1 (by rw [e, Hog.strip_self])
    have hn0 : key n ≠ [] := by
      intro e
      have := h.pre
      rw [e] at this
      exact hne (by rw [e, List.prefix_nil.1 this])
    refine ⟨hn0, hn, ?_⟩
    rw [(Hog.strip_parent hn hn0 h hne).1] at h3
    rw [← h3, Hog.beh_strip' (Hog.parent_may hn hn0) (Hog.up_in hn hn0 h hne)]
  · rintro ⟨h1, _, h3⟩
    have hb := Hog.beh_in hp hq
    have hin := Hog.in_parent hn h1
    rw [h3] at hin
    have h := hin.trans hb
    have hne : key n ≠ p := by
      intro e
      have := (e ▸ hin : Hog.In p (Hog.behL p q)).anti hb
      exact Hog.parent_ne hn h1 (by rw [h3, ← this, e])
    refine ⟨⟨Hog.strip_ne hn h hne, Hog.strip_may hn, ?_⟩, hn, hp, h⟩
    rw [(Hog.strip_parent hn h1 h hne).1, h3, Hog.strip_beh hp hq]
theorem deep_names {t : List Nd} (h : Tree t) {p q : List UInt8} (hp : Hog.mayL p = true) (hq : Hog.mayL q = true) : names (sub t p) q = names t (Hog.behL p q) := by
  unfold names sub
  rw [List.filter_map, List.filter_filter, List.map_map]
  have e : t.filter (fun a => (inDir q ∘ mov p) a && Hog.underL (key a) p) = t.filter (inDir (Hog.behL p q)) :=
    List.filter_congr fun n hn => deep_inDir (h.may hn) hp hq
  rw [e]
  refine List.map_congr_left fun n hn => ?_
  have hm := List.mem_filter.1 hn
  have hmay := h.may hm.1
  have hd := hm.2
  rw [← deep_inDir hmay hp hq, Bool.and_eq_true] at hd
  obtain ⟨d1, d2⟩ := hd
  have h1 := (inDir_iff.1 hm.2).1
  have h0 := (inDir_iff.1 d1).1
  rw [mov_key] at h0
  have hne : key n ≠ p := fun e => h0 (by rw [e, Hog.strip_self])
  show Hog.baseL (key (mov p n)) = Hog.baseL (key n)
  rw [mov_key, (Hog.strip_parent hmay h1 ((Hog.under_iff _ _).1 d2).2.2 hne).2]

end Go.Proofs.YtecjkkipglldlaaGreatDoor
