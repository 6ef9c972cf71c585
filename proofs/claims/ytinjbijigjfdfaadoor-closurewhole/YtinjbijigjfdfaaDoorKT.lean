/- Closures that are turned: other references, an item less, what is reached: as plain lists. -/
import Derived.Test.YtinjbijigjfdfaaDoorKA
namespace Go.Proofs.YtinjbijigjfdfaaDoor
open Go.RowKit

/-- Is a text in a list? -/
def hasB (l : List ByteArray) (x : ByteArray) : Bool := l.any fun y => decide (y = x)
theorem has_iff {l : List ByteArray} {x : ByteArray} : hasB l x = true ↔ x ∈ l := by
  unfold hasB
  rw [List.any_eq_true]
  constructor
  · rintro ⟨y, hy, e⟩
    rw [← of_decide_eq_true e]; exact hy
  · intro h; exact ⟨x, h, decide_eq_true rfl⟩
theorem has_not {l : List ByteArray} {x : ByteArray} : hasB l x = false ↔ ¬ x ∈ l := by rw [← has_iff, Bool.not_eq_true]
theorem names_set {is : List It} {k : Nat} {i : It} (hk : is[k]? = some i) (rs : List ByteArray) : namesI (is.set k (i.1, rs, i.2.2)) = namesI is := by
  unfold namesI
  refine List.ext_getElem? fun j => ?_
  rw [List.getElem?_map, List.getElem?_map, List.getElem?_set]
  by_cases e : k = j
  · subst e
    rw [if_pos rfl, if_pos (List.getElem?_eq_some_iff.1 hk).1, hk]; rfl
  · rw [if_neg e]
theorem stood_set {is : List It} {h : List UInt8} {k : Nat} {i : It} (s : Stood h is) (hk : is[k]? = some i) (rs : List ByteArray) : Stood h (is.set k (i.1, rs, i.2.2)) := by
  have hi := List.mem_of_getElem? hk
  obtain ⟨hl, e⟩ := List.getElem?_eq_some_iff.1 hk
  refine ⟨fun j hj => ?_, ?_, fun j hj => ?_⟩
  · rcases List.mem_or_eq_of_mem_set hj with hj | rfl
    · exact s.ahead j hj
    · exact s.ahead i hi
  · have hp := List.pairwise_iff_getElem.1 s.pair
    refine List.pairwise_iff_getElem.2 fun a b ha hb hab => ?_
    rw [List.length_set] at ha hb
    have key : ∀ a (ha : a < is.length), ((is.set k (i.1, rs, i.2.2))[a]'(by rw [List.length_set]; exact ha)).1 = is[a].1 := by
      intro a ha
      rw [List.getElem_set]
      by_cases e2 : k = a
      · subst e2; simp only [if_true]; rw [e]
      · rw [if_neg e2]
    rw [key a ha, key b hb]
    exact hp a b ha hb hab
  · rcases List.mem_or_eq_of_mem_set hj with hj | rfl
    · exact s.own j hj
    · exact s.own i hi
theorem val_more {p : ByteArray} {is : List It} {k : Nat} {i : It} (hp : prefB p = true) (h : Clos is) (hk : is[k]? = some i) {rs : List ByteArray} (hr : rs ≠ i.2.1) : valV p (is.set k (i.1, rs, i.2.2)) = 8 := by
  refine val_refs hp (by rw [List.length_set]; exact h.few) (stood_set h.stood hk rs) fun ha => hr ?_
  have hl := (List.getElem?_eq_some_iff.1 hk).1
  have := ha _ (List.mem_of_getElem? (show (is.set k (i.1, rs, i.2.2))[k]? = some (i.1, rs, i.2.2) by rw [List.getElem?_set, if_pos rfl, if_pos hl]))
  rw [names_set hk] at this
  exact this.trans (h.refs i (List.mem_of_getElem? hk)).symm

def lessI (is : List It) (k : Nat) : List It := is.take k ++ is.drop (k + 1)
theorem less_sub (is : List It) (k : Nat) : (lessI is k).Sublist is := by
  unfold lessI
  conv => rhs; rw [← List.take_append_drop k is]
  refine List.Sublist.append (List.Sublist.refl _) ?_
  rw [← List.drop_drop]
  exact List.drop_sublist _ _
theorem names_less_mem {is : List It} {k : Nat} {i : It} (hk : is[k]? = some i) {x : ByteArray} (hx : x ∈ namesI is) (hne : x ≠ i.1) : x ∈ namesI (lessI is k) := by
  obtain ⟨j, hj, rfl⟩ := List.mem_map.1 hx
  obtain ⟨hl, rfl⟩ := List.getElem?_eq_some_iff.1 hk
  rw [← List.take_append_drop k is, List.drop_eq_getElem_cons hl] at hj
  unfold namesI lessI
  rw [List.map_append]
  rcases List.mem_append.1 hj with hj | hj
  · exact List.mem_append_left _ (List.mem_map_of_mem hj)
  · rcases List.mem_cons.1 hj with e | hj
    · exact absurd (by rw [e]) hne
    · exact List.mem_append_right _ (List.mem_map_of_mem hj)
theorem names_less_not {is : List It} {k : Nat} {i : It} (hk : is[k]? = some i) (hn : (namesI is).Nodup) : i.1 ∉ namesI (lessI is k) := by
  obtain ⟨hl, rfl⟩ := List.getElem?_eq_some_iff.1 hk
  have e : namesI is = namesI (is.take k) ++ (is[k].1 :: namesI (is.drop (k + 1))) := by
    conv => lhs; rw [← List.take_append_drop k is, List.drop_eq_getElem_cons hl]
    unfold namesI; rw [List.map_append, List.map_cons]
  rw [e] at hn
  obtain ⟨h1, h2, h3⟩ := List.nodup_append.1 hn
  intro hm
  unfold lessI namesI at hm
  rw [List.map_append] at hm
  rcases List.mem_append.1 hm with hm | hm
  · exact h3 _ hm _ List.mem_cons_self rfl
  · exact (List.nodup_cons.1 h2).1 hm
/-- Does one of these items refer to that name? -/
def wantB (is : List It) (x : ByteArray) : Bool := is.any fun j => hasB j.2.1 x
theorem val_less {p : ByteArray} {is : List It} {k : Nat} {i : It} (hp : prefB p = true) (h : Clos is) (hk : is[k]? = some i) : valV p (lessI is k) = if wantB (lessI is k) i.1 = true then 8 else 0 := by
  by_cases hw : wantB (lessI is k) i.1 = true
  · rw [if_pos hw]
    obtain ⟨j, hj, hx⟩ := List.any_eq_true.1 hw
    have hx := has_iff.1 hx
    refine val_refs hp (Nat.le_trans (less_sub is k).length_le h.few) (h.stood.sub (less_sub is k)) fun ha => ?_
    rw [ha j hj] at hx
    exact names_less_not hk h.each (tell_mem.1 hx).1
  · rw [if_neg hw]
    refine val_iff.2 ⟨hp, h.sub (less_sub is k) fun j hj x hx => ?_⟩
    refine names_less_mem hk (h.there ((less_sub is k).subset hj) hx) fun e => hw ?_
    exact List.any_eq_true.2 ⟨j, hj, has_iff.2 (e ▸ hx)⟩

/-- What is reached from all names is all. -/
theorem reach_all {is : List It} (h : Clos is) : RchIs is (namesI is) (namesI is) :=
  ⟨h.stood.names, fun _ => ⟨fun hx => .start hx hx, fun hx => hx.there⟩⟩
/-- From there on nothing more is reached. -/
theorem RchIs.again {is : List It} {ns R : List ByteArray} (h : RchIs is ns R) : RchIs is R R :=
  ⟨h.rise, fun x => ⟨fun hx => .start hx ((h.mem x).1 hx).there, fun hx => (h.mem x).2 (hx.again fun y hy _ => (h.mem y).1 hy)⟩⟩
/-- The items whose names are in a list. -/
def someI (R : List ByteArray) (is : List It) : List It := is.filter fun i => hasB R i.1
theorem some_names {is : List It} {ns R : List ByteArray} (h : Clos is) (hR : RchIs is ns R) : namesI (someI R is) = R := by
  refine rise_same ?_ hR.rise fun x => ?_
  · have := h.stood.names
    unfold namesI someI plainT at *
    exact this.sublist ((List.filter_sublist.map _).map _)
  · unfold namesI someI
    rw [List.mem_map]
    constructor
    · rintro ⟨i, hi, rfl⟩
      exact has_iff.1 (List.mem_filter.1 hi).2
    · intro hx
      obtain ⟨i, hi, e⟩ := List.mem_map.1 ((hR.mem x).1 hx).there
      exact ⟨i, List.mem_filter.2 ⟨hi, has_iff.2 (by rw [e]; exact hx)⟩, e⟩
theorem get_at {is : List It} (hn : (namesI is).Nodup) {i : It} (hi : i ∈ is) : Hog.getK is i.1 = some i := by
  cases hg : Hog.getK is i.1 with
  | none => exact absurd (List.mem_map_of_mem (f := (·.1)) hi) (Hog.getK_none.1 hg)
  | some j =>
    obtain ⟨hj, e⟩ := Hog.getK_some hg
    obtain ⟨a, ha⟩ := List.getElem?_of_mem hi
    obtain ⟨b, hb⟩ := List.getElem?_of_mem hj
    have ea : (namesI is)[a]? = some i.1 := by unfold namesI; rw [List.getElem?_map, ha]; rfl
    have eb : (namesI is)[b]? = some i.1 := by unfold namesI; rw [List.getElem?_map, hb, ← e]; rfl
    obtain ⟨la, _⟩ := List.getElem?_eq_some_iff.1 ea
    have : a = b := (List.getElem?_inj la hn).1 (ea.trans eb.symm)
    subst this
    rw [ha] at hb; exact hb.symm
theorem some_clos {is : List It} {ns R : List ByteArray} (h : Clos is) (hR : RchIs is ns R) : Clos (someI R is) := by
  refine h.sub List.filter_sublist fun i hi x hx => ?_
  rw [some_names h hR]
  have hi' := List.mem_filter.1 hi
  refine (hR.mem x).2 (.step ((hR.mem _).1 (has_iff.1 hi'.2)) (get_at h.each hi'.1) hx (h.there hi'.1 hx))
theorem some_reach {is : List It} {ns R : List ByteArray} (h : Clos is) (hR : RchIs is ns R) : RchIs (someI R is) R R := by
  have := reach_all (some_clos h hR)
  rw [some_names h hR] at this
  exact this
theorem val_other {p : ByteArray} {is : List It} (h : Clos is) : valV p is = if prefB p = true then 0 else 11 := by
  by_cases hp : prefB p = true
  · rw [if_pos hp]; exact val_iff.2 ⟨hp, h⟩
  · rw [if_neg hp]; exact val_pref.2 (Bool.eq_false_iff.2 hp)
end Go.Proofs.YtinjbijigjfdfaaDoor
