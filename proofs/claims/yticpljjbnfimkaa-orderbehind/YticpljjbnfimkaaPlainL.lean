/- Who waits for whom, as it is gathered reference by reference: plainly. Nothing here names the program. -/
import Derived.Test.YticpljjbnfimkaaPlainZ
namespace Go.Proofs.Yticpljjbnfimkaa.Hog

/-- One waits for one more. -/
def updE (E : Nat → List Nat) (k z : Nat) : Nat → List Nat := fun a => if a = k then E k ++ [z] else E a
/-- ls has, at each place, those that wait for it; ws for how many each one waits; E for which. -/
structure Lnk (n : Nat) (E : Nat → List Nat) (ls : List (List Nat)) (ws : List Nat) (tot : Nat) : Prop where
  ll : ls.length = n
  wl : ws.length = n
  wait : ∀ (a m : Nat), ws[a]? = some m → m = (E a).length
  user : ∀ (z : Nat) (l : List Nat), ls[z]? = some l → ∀ a, l.count a = (E a).count z
  mem : ∀ l ∈ ls, (∀ u ∈ l, u < n) ∧ l.length ≤ tot
  few : ∀ m ∈ ws, m ≤ tot
theorem Lnk.begin (n : Nat) (E : Nat → List Nat) (hE : ∀ a, E a = []) : Lnk n E (List.replicate n []) (List.replicate n 0) 0 := by
  refine ⟨by simp, by simp, fun a m h => ?_, fun z l h a => ?_, fun l hl => ?_, fun m hm => ?_⟩
  · rw [List.getElem?_replicate] at h
    split at h
    · cases h; rw [hE]; rfl
    · cases h
  · rw [List.getElem?_replicate] at h
    split at h
    · cases h; rw [hE]; rfl
    · cases h
  · rw [(List.mem_replicate.1 hl).2]; simp
  · rw [(List.mem_replicate.1 hm).2]; exact Nat.le_refl _
theorem Lnk.more {n : Nat} {E : Nat → List Nat} {ls : List (List Nat)} {ws : List Nat} {tot k z m : Nat} {l : List Nat} (h : Lnk n E ls ws tot) (hk : k < n) (hl : ls[z]? = some l) (hm : ws[k]? = some m) :
    Lnk n (updE E k z) (ls.set z (l ++ [k])) (ws.set k (m + 1)) (tot + 1) := by
  refine ⟨by rw [List.length_set]; exact h.ll, by rw [List.length_set]; exact h.wl, fun a q hq => ?_, fun y l' hy a => ?_, fun l' hl' => ?_, fun q hq => ?_⟩
  · rw [List.getElem?_set] at hq
    unfold updE
    by_cases e : k = a
    · subst e
      rw [if_pos rfl] at hq
      split at hq
      · cases hq
        rw [if_pos rfl, List.length_append, List.length_singleton, h.wait k m hm]
      · cases hq
    · rw [if_neg e] at hq
      rw [if_neg (fun e2 => e e2.symm)]
      exact h.wait a q hq
  · rw [List.getElem?_set] at hy
    unfold updE
    by_cases e : z = y
    · subst e
      rw [if_pos rfl] at hy
      split at hy
      · cases hy
        rw [List.count_append, h.user z l hl a]
        by_cases e2 : a = k
        · subst e2
          rw [if_pos rfl, List.count_append]
          simp
        · rw [if_neg e2, List.count_singleton]
          simp
          intro e3
          exact absurd e3.symm e2
      · cases hy
    · rw [if_neg e] at hy
      rw [h.user y l' hy a]
      by_cases e2 : a = k
      · subst e2
        rw [if_pos rfl, List.count_append, List.count_singleton]
        simp [e]
      · rw [if_neg e2]
  · rcases List.mem_or_eq_of_mem_set hl' with hl' | rfl
    · obtain ⟨h1, h2⟩ := h.mem l' hl'
      exact ⟨h1, by omega⟩
    · obtain ⟨h1, h2⟩ := h.mem l (List.mem_of_getElem? hl)
      refine ⟨fun u hu => ?_, by rw [List.length_append]; simp; exact h2⟩
      rcases List.mem_append.1 hu with hu | hu
      · exact h1 u hu
      · rw [List.mem_singleton.1 hu]; exact hk
  · rcases List.mem_or_eq_of_mem_set hq with hq | rfl
    · have := h.few q hq; omega
    · have := h.few m (List.mem_of_getElem? hm); omega

section
variable {N T : Type}
/-- For which each one waits: of the first k items all, of the next one the first j references. -/
def partE (is : List (N × List N × T)) (f : N → Option Nat) (k j : Nat) : Nat → List Nat := fun a => if a < k then needE is f a else if a = k then (match is[k]? with | some i => (i.2.1.take j).filterMap (edge f k) | none => []) else []
theorem partE_zero (is : List (N × List N × T)) (f : N → Option Nat) (a : Nat) : partE is f 0 0 a = [] := by
  unfold partE
  rw [if_neg (by omega)]
  split
  · cases is[0]? <;> simp
  · rfl
theorem partE_next {is : List (N × List N × T)} {f : N → Option Nat} {k j : Nat} {i : N × List N × T} (hi : is[k]? = some i) (hj : i.2.1.length ≤ j) : partE is f k j = partE is f (k + 1) 0 := by
  funext a
  unfold partE
  by_cases h : a < k
  · rw [if_pos h, if_pos (by omega)]
  · rw [if_neg h]
    by_cases e : a = k
    · subst e
      rw [if_pos rfl, if_pos (by omega), hi]
      unfold needE
      rw [hi]
      show (i.2.1.take j).filterMap (edge f a) = _
      rw [List.take_of_length_le hj]
    · rw [if_neg e, if_neg (by omega)]
      split
      · cases is[k + 1]? <;> simp
      · rfl
theorem partE_skip {is : List (N × List N × T)} {f : N → Option Nat} {k j : Nat} {i : N × List N × T} {r : N} (hi : is[k]? = some i) (hr : i.2.1[j]? = some r) (he : edge f k r = none) : partE is f k (j + 1) = partE is f k j := by
  obtain ⟨hj, rfl⟩ := List.getElem?_eq_some_iff.1 hr
  funext a
  unfold partE
  by_cases h : a < k
  · rw [if_pos h, if_pos h]
  · rw [if_neg h, if_neg h]
    by_cases e : a = k
    · rw [if_pos e, if_pos e, hi]
      show (i.2.1.take (j + 1)).filterMap (edge f k) = (i.2.1.take j).filterMap (edge f k)
      rw [List.take_succ_eq_append_getElem hj, List.filterMap_append]
      simp [he]
    · rw [if_neg e, if_neg e]
theorem partE_hit {is : List (N × List N × T)} {f : N → Option Nat} {k j z : Nat} {i : N × List N × T} {r : N} (hi : is[k]? = some i) (hr : i.2.1[j]? = some r) (he : edge f k r = some z) : partE is f k (j + 1) = updE (partE is f k j) k z := by
  obtain ⟨hj, rfl⟩ := List.getElem?_eq_some_iff.1 hr
  funext a
  unfold updE
  by_cases e : a = k
  · subst e
    rw [if_pos rfl]
    unfold partE
    rw [if_neg (Nat.lt_irrefl a), if_pos rfl, if_neg (Nat.lt_irrefl a), if_pos rfl, hi]
    show (i.2.1.take (j + 1)).filterMap (edge f a) = (i.2.1.take j).filterMap (edge f a) ++ [z]
    rw [List.take_succ_eq_append_getElem hj, List.filterMap_append]
    simp [he]
  · rw [if_neg e]
    unfold partE
    rw [if_neg e, if_neg e]
theorem partE_end (is : List (N × List N × T)) (f : N → Option Nat) : partE is f is.length 0 = needE is f := by
  funext a
  unfold partE
  by_cases h : a < is.length
  · rw [if_pos h]
  · rw [if_neg h]
    have e1 : is[a]? = none := List.getElem?_eq_none (by omega)
    have e2 : needE is f a = [] := by unfold needE; rw [e1]
    rw [e2]
    split
    · rename_i e
      rw [← e, e1]
    · rfl
end
end Go.Proofs.Yticpljjbnfimkaa.Hog
