/- A chain comes from behind: plainly. Nothing here names the program. -/
import Derived.Test.YticpljjbnfimkaaPlainX
namespace Go.Proofs.Yticpljjbnfimkaa.Hog
open Go

section
variable {N T : Type}
theorem ord_single {lt : N → N → Prop} (irr : ∀ x, ¬ lt x x) {i : N × List N × T} (h : i.2.1 = []) : OrdIs lt [i] (some [i.1]) := by
  refine .all ((Greedy.nil lt [i]).snoc (o := []) ⟨⟨by simp, i, List.mem_singleton.2 rfl, rfl, fun y hy => by have := hy.1; rw [h] at this; exact absurd this (by simp)⟩, fun y hy => ?_⟩) rfl
  obtain ⟨_, j, hj, e, _⟩ := hy
  rw [List.mem_singleton.1 hj] at e
  rw [← e]
  exact irr _
/-- An item more, to which nobody refers, and which refers to the one that comes last, comes behind that. -/
theorem ord_after {lt : N → N → Prop} (irr : ∀ x, ¬ lt x x) {is : List (N × List N × T)} {z : N × List N × T} (hz : ¬ z.1 ∈ is.map (·.1)) (hr : ∀ i ∈ is, ¬ z.1 ∈ i.2.1) {o' : List N} {y : N} (hy : y ∈ z.2.1) (h : OrdIs lt is (some (o' ++ [y]))) : OrdIs lt (z :: is) (some (o' ++ [y] ++ [z.1])) := by
  cases h with
  | all h1 h2 =>
    have hym : y ∈ is.map (·.1) := h1.there (by simp)
    have up : Greedy lt (z :: is) (o' ++ [y]) := fun k x hx => by
      have hb := h1 k x hx
      have hxm : x ∈ is.map (·.1) := h1.there (List.mem_of_getElem? hx)
      refine ⟨(can_last hz hr (fun e => hz (e ▸ hxm))).2 hb.1, fun u hu => ?_⟩
      by_cases e : u = z.1
      · subst e
        exfalso
        obtain ⟨_, i, hi, ei, hn⟩ := hu
        rcases List.mem_cons.1 hi with rfl | hi
        · have hyin := hn y ⟨hy, by rw [List.map_cons]; exact List.mem_cons_of_mem _ hym, fun e => hz (e ▸ hym)⟩
          have hk := (List.getElem?_eq_some_iff.1 hx).1
          have hnd := h1.each
          obtain ⟨j, hj⟩ := List.getElem?_of_mem hyin
          have hj2 : (o' ++ [y])[j]? = some y := by
            rw [List.getElem?_take] at hj
            split at hj
            · exact hj
            · cases hj
          have hjk : j < k := by
            have := (List.getElem?_eq_some_iff.1 hj).1
            rw [List.length_take] at this
            omega
          have hlast : (o' ++ [y])[o'.length]? = some y := by simp
          have := (List.getElem?_inj (List.getElem?_eq_some_iff.1 hj2).1 hnd).1 (hj2.trans hlast.symm)
          rw [List.length_append, List.length_singleton] at hk
          omega
        · exact hz (List.mem_map.2 ⟨i, hi, ei⟩)
      · exact hb.2 u ((can_last hz hr e).1 hu)
    refine .all (up.snoc ⟨⟨fun hm => hz (h1.there hm), z, List.mem_cons_self, rfl, fun u hu => ?_⟩, fun u hu => ?_⟩) (by rw [List.length_append, List.length_cons, h2]; rfl)
    · have h3 := hu.2.1
      rw [List.map_cons] at h3
      rcases List.mem_cons.1 h3 with h3 | h3
      · exact absurd h3 hu.2.2
      · exact h1.full h2 h3
    · by_cases e : u = z.1
      · rw [e]; exact irr _
      · have h3 := (can_last hz hr e).1 hu
        obtain ⟨i, hi, ei, _⟩ := h3.2
        exact absurd (h1.full h2 (List.mem_map.2 ⟨i, hi, ei⟩)) h3.1
/-- Each one but the last refers to the next one, and to no other. -/
inductive Chain : List (N × List N × T) → Prop
  | one {i : N × List N × T} (h : i.2.1 = []) : Chain [i]
  | more {i j : N × List N × T} {r : List (N × List N × T)} (h : i.2.1 = [j.1]) (k : Chain (j :: r)) : Chain (i :: j :: r)
theorem Chain.refs {is : List (N × List N × T)} (h : Chain is) : ∀ i ∈ is, ∀ x ∈ i.2.1, x ∈ is.map (·.1) := by
  induction h with
  | one h => intro i hi x hx; rw [List.mem_singleton.1 hi, h] at hx; simp at hx
  | more h k ih =>
    intro i hi x hx
    rcases List.mem_cons.1 hi with rfl | hi
    · rw [h] at hx
      rw [List.mem_singleton.1 hx]
      simp
    · rw [List.map_cons]
      exact List.mem_cons_of_mem _ (ih i hi x hx)
theorem ord_chain {lt : N → N → Prop} (irr : ∀ x, ¬ lt x x) {is : List (N × List N × T)} (h : Chain is) (hu : (is.map (·.1)).Nodup) : OrdIs lt is (some (is.map (·.1)).reverse) := by
  induction h with
  | one h => exact ord_single irr h
  | @more i j r h k ih =>
    rw [List.map_cons] at hu
    obtain ⟨h1, h2⟩ := List.nodup_cons.1 hu
    have h3 := ih h2
    rw [List.map_cons, List.reverse_cons] at h3
    rw [List.map_cons, List.reverse_cons, List.map_cons, List.reverse_cons]
    exact ord_after irr h1 (fun x hx hm => h1 (k.refs x hx _ hm)) (by rw [h]; exact List.mem_singleton.2 rfl) h3
end
end Go.Proofs.Yticpljjbnfimkaa.Hog
