/- In which order places come, by counting for how many each one waits: plainly. Nothing here names the program. -/
import Derived.Test.YticpljjbnfimkaaPlainY
namespace Go.Proofs.Yticpljjbnfimkaa.Hog

section
variable {N T : Type}
/-- Does a reference of the item at this place count? -/
def edge (f : N → Option Nat) (a : Nat) (r : N) : Option Nat := match f r with
  | some z => if z = a then none else some z
  | none => none
theorem edge_some {f : N → Option Nat} {a z : Nat} {r : N} : edge f a r = some z ↔ f r = some z ∧ z ≠ a := by
  unfold edge
  cases h : f r with
  | none => simp
  | some y =>
    show (if y = a then none else some y) = some z ↔ _
    by_cases e : y = a
    · rw [if_pos e]
      constructor
      · intro h; cases h
      · rintro ⟨h1, h2⟩
        cases h1
        exact absurd e h2
    · rw [if_neg e]
      constructor
      · intro h; cases h; exact ⟨rfl, e⟩
      · rintro ⟨h1, _⟩; exact h1
/-- For which places the item at this place waits. -/
def needE (is : List (N × List N × T)) (f : N → Option Nat) (a : Nat) : List Nat := match is[a]? with
  | some i => i.2.1.filterMap (edge f a)
  | none => []
theorem mem_needE {is : List (N × List N × T)} {f : N → Option Nat} {a z : Nat} : z ∈ needE is f a ↔ ∃ i, is[a]? = some i ∧ ∃ r ∈ i.2.1, f r = some z ∧ z ≠ a := by
  unfold needE
  cases h : is[a]? with
  | none => simp
  | some i =>
    show z ∈ i.2.1.filterMap (edge f a) ↔ _
    rw [List.mem_filterMap]
    constructor
    · rintro ⟨r, hr, e⟩
      exact ⟨i, rfl, r, hr, edge_some.1 e⟩
    · rintro ⟨j, e, r, hr, k⟩
      cases e
      exact ⟨r, hr, edge_some.2 k⟩

end

section
variable {N T : Type} [Inhabited N]

/-- The name at a place. -/
def nmP (is : List (N × List N × T)) (z : Nat) : N := match is[z]? with
  | some i => i.1
  | none => default
theorem nmP_at {is : List (N × List N × T)} {z : Nat} {i : N × List N × T} (h : is[z]? = some i) : nmP is z = i.1 := by unfold nmP; rw [h]
/-- f tells the place of each name. -/
structure Idx (is : List (N × List N × T)) (f : N → Option Nat) : Prop where
  at' : ∀ z, z < is.length → f (nmP is z) = some z
  of' : ∀ x z, f x = some z → z < is.length ∧ nmP is z = x
theorem Idx.inj {is : List (N × List N × T)} {f : N → Option Nat} (h : Idx is f) {a b : Nat} (ha : a < is.length) (hb : b < is.length) (e : nmP is a = nmP is b) : a = b := by
  have h1 := h.at' a ha
  rw [e, h.at' b hb] at h1
  exact (Option.some.inj h1).symm
theorem Idx.one {is : List (N × List N × T)} {f : N → Option Nat} (h : Idx is f) {a : Nat} {i j : N × List N × T} (ha : is[a]? = some i) (hj : j ∈ is) (e : j.1 = i.1) : j = i := by
  obtain ⟨b, hb⟩ := List.getElem?_of_mem hj
  have := h.inj (List.getElem?_eq_some_iff.1 hb).1 (List.getElem?_eq_some_iff.1 ha).1 (by rw [nmP_at hb, nmP_at ha, e])
  subst this
  rw [ha] at hb
  exact (Option.some.inj hb).symm
theorem can_place {is : List (N × List N × T)} {f : N → Option Nat} (h : Idx is f) {P : List Nat} (hP : ∀ z ∈ P, z < is.length) {a : Nat} (ha : a < is.length) :
    Can is (P.map (nmP is)) (nmP is a) ↔ ¬ a ∈ P ∧ ∀ z ∈ needE is f a, z ∈ P := by
  have hi : is[a]? = some is[a] := List.getElem?_eq_getElem ha
  have back : ∀ z, z < is.length → nmP is z ∈ P.map (nmP is) → z ∈ P := fun z hz hm => by
    obtain ⟨y, hy, e⟩ := List.mem_map.1 hm
    rw [h.inj (hP y hy) hz e] at hy
    exact hy
  constructor
  · rintro ⟨h1, i, hi2, e, hn⟩
    refine ⟨fun hm => h1 (List.mem_map.2 ⟨a, hm, rfl⟩), fun z hz => ?_⟩
    obtain ⟨j, hj, r, hr, hfr, hza⟩ := mem_needE.1 hz
    rw [hi] at hj
    cases hj
    have e2 := h.one hi hi2 (by rw [e, nmP_at hi])
    subst e2
    obtain ⟨hzl, hzn⟩ := h.of' r z hfr
    refine back z hzl (hzn ▸ hn r ⟨hr, ?_, fun e3 => hza ?_⟩)
    · rw [← hzn, nmP_at (List.getElem?_eq_getElem hzl)]
      exact List.mem_map.2 ⟨_, List.getElem_mem hzl, rfl⟩
    · rw [← nmP_at hi] at e3
      have h4 := h.at' a ha
      rw [← e3, hfr] at h4
      exact Option.some.inj h4
  · rintro ⟨h1, h2⟩
    refine ⟨fun hm => h1 (back a ha hm), is[a], List.getElem_mem ha, (nmP_at hi).symm, fun y hy => ?_⟩
    obtain ⟨q1, q2, q3⟩ := hy
    obtain ⟨j, hj, e⟩ := List.mem_map.1 q2
    obtain ⟨b, hb⟩ := List.getElem?_of_mem hj
    have hbl := (List.getElem?_eq_some_iff.1 hb).1
    have hf := h.at' b hbl
    rw [nmP_at hb, e] at hf
    have hm := h2 b (mem_needE.2 ⟨_, hi, y, q1, hf, fun e3 => q3 (by subst e3; rw [hi] at hb; cases hb; exact e.symm)⟩)
    exact List.mem_map.2 ⟨b, hm, by rw [nmP_at hb, e]⟩
theorem can_named {is : List (N × List N × T)} {o : List N} {x : N} (h : Can is o x) : ∃ a, a < is.length ∧ nmP is a = x := by
  obtain ⟨_, i, hi, e, _⟩ := h
  obtain ⟨a, ha⟩ := List.getElem?_of_mem hi
  exact ⟨a, (List.getElem?_eq_some_iff.1 ha).1, by rw [nmP_at ha, e]⟩

/-- How many of these are not among those. -/
def left (l P : List Nat) : Nat := (l.filter fun y => decide (¬ y ∈ P)).length
theorem left_nil (l : List Nat) : left l [] = l.length := by unfold left; rw [List.filter_eq_self.2]; intro a _; simp
theorem left_zero {l P : List Nat} : left l P = 0 ↔ ∀ z ∈ l, z ∈ P := by
  unfold left
  rw [List.length_eq_zero_iff, List.filter_eq_nil_iff]
  simp
theorem left_snoc {P : List Nat} {z : Nat} (hz : ¬ z ∈ P) : ∀ l : List Nat, left l P = left l (P ++ [z]) + l.count z
  | [] => rfl
  | y :: r => by
    have ih := left_snoc hz r
    unfold left at ih ⊢
    rw [List.filter_cons, List.filter_cons, List.count_cons]
    by_cases e : y = z
    · subst e
      rw [if_pos (by simpa using hz), if_neg (by simp), List.length_cons, ih]
      simp
      omega
    · by_cases e2 : y ∈ P
      · rw [if_neg (by simpa using e2), if_neg (by simp [e2]), ih]
        simp [e]
      · rw [if_pos (by simpa using e2), if_pos (by simp [e, e2]), List.length_cons, List.length_cons, ih]
        simp [e]
        omega

/-- How far it has come: P came, H could come next, and for so many each one waits. -/
structure Kahn (lt : N → N → Prop) (is : List (N × List N × T)) (f : N → Option Nat) (P H cs : List Nat) : Prop where
  len : cs.length = is.length
  each : (P ++ H).Nodup
  low : ∀ z ∈ P ++ H, z < is.length
  cnt : ∀ (a m : Nat), cs[a]? = some m → m = left (needE is f a) P
  zero : ∀ (a m : Nat), cs[a]? = some m → (m = 0 ↔ a ∈ P ++ H)
  ordered : Greedy lt is (P.map (nmP is))
theorem Kahn.free {lt : N → N → Prop} {is : List (N × List N × T)} {f : N → Option Nat} {P H cs : List Nat} (h : Kahn lt is f P H cs) (hf : Idx is f) {a : Nat} (ha : a < is.length) : Can is (P.map (nmP is)) (nmP is a) ↔ a ∈ H := by
  have hc : cs[a]? = some (cs[a]'(by have := h.len; omega)) := List.getElem?_eq_getElem _
  have h1 := h.cnt a _ hc
  have h2 := h.zero a _ hc
  rw [can_place hf (fun z hz => h.low z (List.mem_append_left _ hz)) ha]
  constructor
  · rintro ⟨k1, k2⟩
    rcases List.mem_append.1 (h2.1 (by rw [h1]; exact left_zero.2 k2)) with k | k
    · exact absurd k k1
    · exact k
  · intro k
    refine ⟨fun k1 => (List.nodup_append.1 h.each).2.2 a k1 a k rfl, left_zero.1 ?_⟩
    rw [← h1]
    exact h2.2 (List.mem_append_right _ k)
theorem Kahn.best {lt : N → N → Prop} {is : List (N × List N × T)} {f : N → Option Nat} {P H cs : List Nat} (h : Kahn lt is f P H cs) (hf : Idx is f) {z : Nat} (hz : z ∈ H) (hm : ∀ y ∈ H, ¬ lt (nmP is y) (nmP is z)) : Best lt is (P.map (nmP is)) (nmP is z) := by
  refine ⟨(h.free hf (h.low z (List.mem_append_right _ hz))).2 hz, fun y hy => ?_⟩
  obtain ⟨a, ha, rfl⟩ := can_named hy
  exact hm a ((h.free hf ha).1 hy)
/-- .. while those that waited for z are gone through. -/
structure Kin (lt : N → N → Prop) (is : List (N × List N × T)) (f : N → Option Nat) (P : List Nat) (z : Nat) (pre H cs : List Nat) : Prop where
  len : cs.length = is.length
  each : ((P ++ [z]) ++ H).Nodup
  low : ∀ y ∈ (P ++ [z]) ++ H, y < is.length
  cnt : ∀ (a m : Nat), cs[a]? = some m → m + pre.count a = left (needE is f a) P
  zero : ∀ (a m : Nat), cs[a]? = some m → (m = 0 ↔ a ∈ (P ++ [z]) ++ H)
  ordered : Greedy lt is ((P ++ [z]).map (nmP is))
theorem Kahn.take {lt : N → N → Prop} {is : List (N × List N × T)} {f : N → Option Nat} {P H H' cs : List Nat} {z : Nat} (h : Kahn lt is f P H cs) (hf : Idx is f) (hp : H.Perm (z :: H')) (hm : ∀ y ∈ H, ¬ lt (nmP is y) (nmP is z)) : Kin lt is f P z [] H' cs := by
  have hq : (P ++ H).Perm ((P ++ [z]) ++ H') := by
    rw [List.append_assoc]
    exact List.Perm.append_left P (by simpa using hp)
  refine ⟨h.len, hq.nodup_iff.1 h.each, fun y hy => h.low y (hq.mem_iff.2 hy), fun a m ha => by rw [List.count_nil, Nat.add_zero]; exact h.cnt a m ha, fun a m ha => by rw [← hq.mem_iff]; exact h.zero a m ha, ?_⟩
  rw [List.map_append]
  exact h.ordered.snoc (h.best hf (hp.mem_iff.2 List.mem_cons_self) hm)
theorem Kin.done {lt : N → N → Prop} {is : List (N × List N × T)} {f : N → Option Nat} {P H cs us : List Nat} {z : Nat} (h : Kin lt is f P z us H cs) (hu : ∀ a, a < is.length → us.count a = (needE is f a).count z) : Kahn lt is f (P ++ [z]) H cs := by
  have hz : ¬ z ∈ P := fun hm => by
    have h1 := (List.nodup_append.1 (List.nodup_append.1 h.each).1).2.2 z hm z (List.mem_singleton.2 rfl)
    exact h1 rfl
  refine ⟨h.len, h.each, h.low, fun a m ha => ?_, h.zero, h.ordered⟩
  have h1 := h.cnt a m ha
  rw [hu a (by have := (List.getElem?_eq_some_iff.1 ha).1; have := h.len; omega), left_snoc hz] at h1
  omega
/-- What waits for z still waits. -/
theorem Kin.waits {lt : N → N → Prop} {is : List (N × List N × T)} {f : N → Option Nat} {P H cs us : List Nat} {z k u m : Nat} (h : Kin lt is f P z (us.take k) H cs) (hz : ¬ z ∈ P) (hu : ∀ a, a < is.length → us.count a = (needE is f a).count z) (hk : us[k]? = some u) (hm : cs[u]? = some m) : 0 < m := by
  have h1 := h.cnt u m hm
  rw [left_snoc hz, ← hu u (by have := (List.getElem?_eq_some_iff.1 hm).1; have := h.len; omega)] at h1
  obtain ⟨hk2, e⟩ := List.getElem?_eq_some_iff.1 hk
  have h2 : us.count u = (us.take k).count u + (us.drop k).count u := by rw [← List.count_append, List.take_append_drop]
  rw [List.drop_eq_getElem_cons hk2, e, List.count_cons_self] at h2
  omega
theorem count_take {us : List Nat} {k u : Nat} (hk : us[k]? = some u) (a : Nat) : (us.take (k + 1)).count a = (us.take k).count a + if u = a then 1 else 0 := by
  obtain ⟨hk2, e⟩ := List.getElem?_eq_some_iff.1 hk
  rw [List.take_succ_eq_append_getElem hk2, List.count_append, e, List.count_singleton]
  simp
/-- One that waited waits for one less .. -/
theorem Kin.less {lt : N → N → Prop} {is : List (N × List N × T)} {f : N → Option Nat} {P H cs us : List Nat} {z k u m : Nat} (h : Kin lt is f P z (us.take k) H cs) (hk : us[k]? = some u) (hm : cs[u]? = some (m + 1)) (h0 : m ≠ 0) : Kin lt is f P z (us.take (k + 1)) H (cs.set u m) := by
  have get : ∀ a q, (cs.set u m)[a]? = some q → (a = u ∧ q = m) ∨ (a ≠ u ∧ cs[a]? = some q) := fun a q hq => by
    rw [List.getElem?_set] at hq
    by_cases e : u = a
    · rw [if_pos e] at hq
      split at hq
      · cases hq; exact .inl ⟨e.symm, rfl⟩
      · cases hq
    · rw [if_neg e] at hq
      exact .inr ⟨fun e2 => e e2.symm, hq⟩
  refine ⟨by rw [List.length_set]; exact h.len, h.each, h.low, fun a q hq => ?_, fun a q hq => ?_, h.ordered⟩
  · rw [count_take hk]
    rcases get a q hq with ⟨rfl, rfl⟩ | ⟨e, hq⟩
    · have := h.cnt a _ hm
      rw [if_pos rfl]
      omega
    · have := h.cnt a q hq
      rw [if_neg (fun e2 => e e2.symm)]
      omega
  · rcases get a q hq with ⟨rfl, rfl⟩ | ⟨e, hq⟩
    · have := h.zero a _ hm
      constructor
      · intro e; exact absurd e h0
      · intro e; exact absurd (this.2 e) (by omega)
    · exact h.zero a q hq
/-- .. or for none any more. -/
theorem Kin.last {lt : N → N → Prop} {is : List (N × List N × T)} {f : N → Option Nat} {P H H' cs us : List Nat} {z k u : Nat} (h : Kin lt is f P z (us.take k) H cs) (hk : us[k]? = some u) (hm : cs[u]? = some 1) (hp : H'.Perm (u :: H)) : Kin lt is f P z (us.take (k + 1)) H' (cs.set u 0) := by
  have get : ∀ a q, (cs.set u 0)[a]? = some q → (a = u ∧ q = 0) ∨ (a ≠ u ∧ cs[a]? = some q) := fun a q hq => by
    rw [List.getElem?_set] at hq
    by_cases e : u = a
    · rw [if_pos e] at hq
      split at hq
      · cases hq; exact .inl ⟨e.symm, rfl⟩
      · cases hq
    · rw [if_neg e] at hq
      exact .inr ⟨fun e2 => e e2.symm, hq⟩
  have hnot : ¬ u ∈ (P ++ [z]) ++ H := fun e => by have := (h.zero u 1 hm).2 e; omega
  have hq : ((P ++ [z]) ++ H').Perm (u :: ((P ++ [z]) ++ H)) := (List.Perm.append_left _ hp).trans List.perm_middle
  refine ⟨by rw [List.length_set]; exact h.len, hq.nodup_iff.2 (List.nodup_cons.2 ⟨hnot, h.each⟩), fun y hy => ?_, fun a q hq => ?_, fun a q hqq => ?_, h.ordered⟩
  · rcases List.mem_cons.1 (hq.mem_iff.1 hy) with rfl | hy
    · have := (List.getElem?_eq_some_iff.1 hm).1
      have := h.len
      omega
    · exact h.low y hy
  · rw [count_take hk]
    rcases get a q hq with ⟨rfl, rfl⟩ | ⟨e, hq⟩
    · have := h.cnt a _ hm
      rw [if_pos rfl]
      omega
    · have := h.cnt a q hq
      rw [if_neg (fun e2 => e e2.symm)]
      omega
  · rw [hq.mem_iff, List.mem_cons]
    rcases get a q hqq with ⟨rfl, rfl⟩ | ⟨e, hqq⟩
    · exact ⟨fun _ => .inl rfl, fun _ => rfl⟩
    · rw [h.zero a q hqq]
      constructor
      · exact .inr
      · rintro (e2 | e2)
        · exact absurd e2 e
        · exact e2
/-- Nothing could come next: it has ended. -/
theorem Kahn.ended {lt : N → N → Prop} {is : List (N × List N × T)} {f : N → Option Nat} {P cs : List Nat} (h : Kahn lt is f P [] cs) (hf : Idx is f) : OrdIs lt is (if P.length = is.length then some (P.map (nmP is)) else none) := by
  have hl := h.ordered.few
  rw [List.length_map] at hl
  by_cases e : P.length = is.length
  · rw [if_pos e]
    exact .all h.ordered (by rw [List.length_map]; exact e)
  · rw [if_neg e]
    refine .none h.ordered (by rw [List.length_map]; omega) fun x hx => ?_
    obtain ⟨a, ha, rfl⟩ := can_named hx
    exact absurd ((h.free hf ha).1 hx) (by simp)
/-- It begins with those that wait for none. -/
theorem Kahn.begin (lt : N → N → Prop) {is : List (N × List N × T)} {f : N → Option Nat} {H cs : List Nat} (hl : cs.length = is.length) (hc : ∀ (a m : Nat), cs[a]? = some m → m = (needE is f a).length) (hn : H.Nodup) (hH : ∀ a, a ∈ H ↔ a < cs.length ∧ cs[a]? = some 0) : Kahn lt is f [] H cs := by
  refine ⟨hl, by simpa using hn, fun z hz => ?_, fun a m ha => by rw [left_nil]; exact hc a m ha, fun a m ha => ?_, by simpa using Greedy.nil lt is⟩
  · have := (hH z).1 (by simpa using hz)
    omega
  · have h1 := hH a
    rw [List.nil_append, h1, ha]
    constructor
    · rintro rfl
      exact ⟨(List.getElem?_eq_some_iff.1 ha).1, rfl⟩
    · rintro ⟨_, e⟩
      exact Option.some.inj e
end
end Go.Proofs.Yticpljjbnfimkaa.Hog
