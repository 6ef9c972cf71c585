/- The walk of ScanTrees. -/
import Derived.Test.YteccbnhbdfplfaaSQ
import Derived.Test.YteccbnhbdfplfaaSS
import Derived.Test.YteccbnhbdfplfaaXB
import Derived.Test.YteccbnhbdfplfaaN11
namespace Go.Proofs.Yteccbnhbdfplfaa
open Go.RowKit

def memB (l : List ByteArray) (x : ByteArray) : Bool := l.any fun y => decide (y = x)
theorem memB_iff {l : List ByteArray} {x : ByteArray} : memB l x = true ↔ x ∈ l := by
  unfold memB
  rw [List.any_eq_true]
  constructor
  · rintro ⟨y, hy, e⟩
    rw [← of_decide_eq_true e]
    exact hy
  · exact fun h => ⟨x, h, decide_eq_true rfl⟩
theorem memB_no {l : List ByteArray} {x : ByteArray} : memB l x = false ↔ ¬ x ∈ l := by rw [← memB_iff, Bool.not_eq_true]
theorem memB_step {l : List ByteArray} {k : Nat} {y : ByteArray} (h : l[k]? = some y) (x : ByteArray) : memB (l.take (k + 1)) x = (memB (l.take k) x || decide (y = x)) := by
  obtain ⟨hk, rfl⟩ := List.getElem?_eq_some_iff.1 h
  unfold memB
  rw [List.take_succ_eq_append_getElem hk, List.any_append]
  simp
/-- The names ahead of k whose hash was seen, each where it stands first. -/
def firstsT (act : ByteArray → Bool) (xs : List ByteArray) : Nat → List ByteArray
  | 0 => []
  | k + 1 => firstsT act xs k ++ (match xs[k]? with | some x => if (act (hashT x) && !memB (xs.take k) x) = true then [x] else [] | none => [])
theorem firsts_in {act : ByteArray → Bool} {xs : List ByteArray} {k : Nat} {x : ByteArray} (hx : xs[k]? = some x) (h1 : act (hashT x) = true) (h2 : ¬ x ∈ xs.take k) : firstsT act xs (k + 1) = firstsT act xs k ++ [x] := by
  unfold firstsT
  rw [hx]
  simp only []
  rw [if_pos (by rw [h1, memB_no.2 h2]; rfl)]
  cases k <;> rfl
theorem firsts_out {act : ByteArray → Bool} {xs : List ByteArray} {k : Nat} {x : ByteArray} (hx : xs[k]? = some x) (h : ¬ (act (hashT x) = true ∧ ¬ x ∈ xs.take k)) : firstsT act xs (k + 1) = firstsT act xs k := by
  conv => lhs; unfold firstsT
  rw [hx]
  simp only []
  rw [if_neg (fun e => h (by rw [Bool.and_eq_true, Bool.not_eq_true'] at e; exact ⟨e.1, memB_no.1 e.2⟩)), List.append_nil]
theorem firsts_both (act : ByteArray → Bool) (xs : List ByteArray) : ∀ k, k ≤ xs.length → (firstsT act xs k).Nodup ∧ ∀ x, x ∈ firstsT act xs k ↔ x ∈ xs.take k ∧ act (hashT x) = true
  | 0, _ => ⟨by unfold firstsT; exact List.nodup_nil, fun x => by unfold firstsT; simp⟩
  | k + 1, hk => by
    obtain ⟨h1, h2⟩ := firsts_both act xs k (by omega)
    have hk' : k < xs.length := by omega
    have hx : xs[k]? = some xs[k] := List.getElem?_eq_getElem hk'
    have ht : xs.take (k + 1) = xs.take k ++ [xs[k]] := List.take_succ_eq_append_getElem hk'
    by_cases h : act (hashT xs[k]) = true ∧ ¬ xs[k] ∈ xs.take k
    · rw [firsts_in hx h.1 h.2, ht]
      refine ⟨?_, fun x => ?_⟩
      · refine List.nodup_append.2 ⟨h1, by simp, fun a ha b hb e => ?_⟩
        rw [List.mem_singleton] at hb
        rw [e, hb] at ha
        exact h.2 ((h2 _).1 ha).1
      · rw [List.mem_append, List.mem_append, List.mem_singleton, h2]
        constructor
        · rintro (⟨a, b⟩ | e)
          · exact ⟨.inl a, b⟩
          · exact ⟨.inr e, by rw [e]; exact h.1⟩
        · rintro ⟨a | a, b⟩
          · exact .inl ⟨a, b⟩
          · exact .inr a
    · rw [firsts_out hx h, ht]
      refine ⟨h1, fun x => ?_⟩
      rw [h2, List.mem_append, List.mem_singleton]
      constructor
      · rintro ⟨a, b⟩
        exact ⟨.inl a, b⟩
      · rintro ⟨a | a, b⟩
        · exact ⟨a, b⟩
        · subst a
          exact ⟨Classical.byContradiction fun hn => h ⟨b, hn⟩, b⟩
theorem told_mem {act : ByteArray → Bool} {xs : List ByteArray} {x : ByteArray} : x ∈ toldT act xs ↔ x ∈ xs ∧ act (hashT x) = true := by
  unfold toldT
  rw [List.mem_map]
  constructor
  · rintro ⟨y, hy, rfl⟩
    rw [Hog.pick_mem] at hy
    unfold plainT at hy
    obtain ⟨z, hz, rfl⟩ := List.mem_map.1 hy
    rw [Hog.data_mk]
    unfold seenT at hz
    exact List.mem_filter.1 hz
  · rintro h
    refine ⟨x.data.toList, ?_, Hog.data_mk x⟩
    rw [Hog.pick_mem]
    unfold plainT
    exact List.mem_map.2 ⟨x, by unfold seenT; exact List.mem_filter.2 h, rfl⟩
theorem told_nodup (act : ByteArray → Bool) (xs : List ByteArray) : (toldT act xs).Nodup := by
  unfold toldT
  refine List.Pairwise.map _ (fun a b h e => h ?_) (Hog.rise_nodup (Hog.pick_rise (plainT (seenT act xs))))
  rw [← Hog.mk_data a, e, Hog.mk_data]
theorem firsts_len (act : ByteArray → Bool) (xs : List ByteArray) : (firstsT act xs xs.length).length = (toldT act xs).length := by
  obtain ⟨h1, h2⟩ := firsts_both act xs xs.length (Nat.le_refl _)
  rw [List.take_length] at h2
  exact ((List.perm_ext_iff_of_nodup h1 (told_nodup act xs)).2 fun x => by rw [h2, told_mem]).length_eq
theorem firsts_le (act : ByteArray → Bool) (xs : List ByteArray) : ∀ k, k ≤ xs.length → (firstsT act xs k).length ≤ k
  | 0, _ => by unfold firstsT; simp
  | k + 1, hk => by
    have h1 := firsts_le act xs k (by omega)
    have hx : xs[k]? = some xs[k] := List.getElem?_eq_getElem (by omega)
    by_cases h : act (hashT xs[k]) = true ∧ ¬ xs[k] ∈ xs.take k
    · rw [firsts_in hx h.1 h.2, List.length_append]
      simp
      exact h1
    · rw [firsts_out hx h]
      omega

theorem flat_path : ∀ {ns : List Nd} {j : Nat} {n : Nd} (_ : ns[j]? = some n) (x : ByteArray), (flat ns).set (j * 3) (.string x) = flat (ns.set j (x, n.2.1, n.2.2))
  | [], j, n, h, x => by simp at h
  | y :: r, 0, n, h, x => by
    simp at h
    subst h
    simp [flat, ncells]
  | y :: r, j + 1, n, h, x => by
    rw [List.set_cons_succ, flat_cons, flat_cons, ← flat_path (by simpa using h) x]
    simp [ncells, Nat.add_mul]
theorem flat_data : ∀ {ns : List Nd} {j : Nat} {n : Nd} (_ : ns[j]? = some n) (x : ByteArray), (flat ns).set (j * 3 + 2) (.string x) = flat (ns.set j (n.1, n.2.1, x))
  | [], j, n, h, x => by simp at h
  | y :: r, 0, n, h, x => by
    simp at h
    subst h
    simp [flat, ncells]
  | y :: r, j + 1, n, h, x => by
    rw [List.set_cons_succ, flat_cons, flat_cons, ← flat_data (by simpa using h) x]
    simp [ncells, Nat.add_mul]
theorem OwnN.letters {base : Nat} {w : World} {g m c : Nat} {us : List Nd} (h : OwnN base w (.slice (some ⟨g, 0, none⟩) m c) us) : m = us.length := by
  obtain ⟨a, c', e⟩ := h.form
  simp only [Value.slice.injEq] at e
  exact e.2.1
theorem OwnN.pathAt {base : Nat} {w : World} {g m c : Nat} {us : List Nd} (h : OwnN base w (.slice (some ⟨g, 0, none⟩) m c) us) {j : Nat} {n : Nd} (hn : us[j]? = some n) : w.cell? ⟨g, j * 3, none⟩ = some (.string n.1) ∧ w.cell? ⟨g, j * 3 + 2, none⟩ = some (.string n.2.2) := by
  have hm := h.letters
  subst hm
  have hj := (List.getElem?_eq_some_iff.1 hn).1
  obtain ⟨e1, e2, e3⟩ := flat_get hn
  exact ⟨(World.ownsRow.cellAt h (j * 3) (by omega)).trans e1, (World.ownsRow.cellAt h (j * 3 + 2) (by omega)).trans e3⟩
theorem OwnN.free {base : Nat} {w : World} {g m c : Nat} {us : List Nd} (h : OwnN base w (.slice (some ⟨g, 0, none⟩) m c) us) (j : Nat) : w.frozen? ⟨g, j, none⟩ = false := by
  have hm := h.letters
  subst hm
  exact World.ownsRow.frozenAt h j
theorem OwnN.putPath {base : Nat} {w : World} {g m c : Nat} {us : List Nd} (h : OwnN base w (.slice (some ⟨g, 0, none⟩) m c) us) {j : Nat} {n : Nd} (hn : us[j]? = some n) (x : ByteArray) :
    OwnN base (w.setCell ⟨g, j * 3, none⟩ (.string x)) (.slice (some ⟨g, 0, none⟩) m c) (us.set j (x, n.2.1, n.2.2)) := by
  have hm := h.letters
  subst hm
  have h1 := (World.ownsRow.stored h (j * 3) (.string x)).1
  unfold OwnN
  rw [flat_path hn] at h1
  rw [List.length_set]
  exact h1
theorem OwnN.putData {base : Nat} {w : World} {g m c : Nat} {us : List Nd} (h : OwnN base w (.slice (some ⟨g, 0, none⟩) m c) us) {j : Nat} {n : Nd} (hn : us[j]? = some n) (x : ByteArray) :
    OwnN base (w.setCell ⟨g, j * 3 + 2, none⟩ (.string x)) (.slice (some ⟨g, 0, none⟩) m c) (us.set j (n.1, n.2.1, x)) := by
  have hm := h.letters
  subst hm
  have h1 := (World.ownsRow.stored h (j * 3 + 2) (.string x)).1
  unfold OwnN
  rw [flat_data hn] at h1
  rw [List.length_set]
  exact h1
/-- The data of nodes. -/
def datas (ns : List Nd) : List ByteArray := ns.map fun n => n.2.2
theorem hit_datas (ns : List Nd) (q : ByteArray) : hitN ns q = (datas ns).any fun s => hitB s q := by unfold hitN datas; rw [List.any_map]; rfl
theorem datas_path {us : List Nd} {j : Nat} {n : Nd} (hn : us[j]? = some n) (x : ByteArray) : datas (us.set j (x, n.2.1, n.2.2)) = datas us := by
  obtain ⟨hj, rfl⟩ := List.getElem?_eq_some_iff.1 hn
  unfold datas
  rw [List.map_set]
  simp only []
  refine List.ext_getElem (by simp) fun i h1 h2 => ?_
  rw [List.getElem_set]
  split
  · rename_i e
    subst e
    simp
  · rfl
theorem hit_same {us ns : List Nd} (h : datas us = datas ns) : hitN us = hitN ns := by funext q; rw [hit_datas, hit_datas, h]
theorem datas_all {us ns : List Nd} {P : ByteArray → Prop} (h : datas us = datas ns) (k : ∀ x ∈ ns, P x.2.2) : ∀ x ∈ us, P x.2.2 := by
  intro x hx
  have h1 : x.2.2 ∈ datas ns := by rw [← h]; exact List.mem_map.2 ⟨x, hx, rfl⟩
  obtain ⟨y, hy, e⟩ := List.mem_map.1 h1
  rw [← e]
  exact k y hy
end Go.Proofs.Yteccbnhbdfplfaa
