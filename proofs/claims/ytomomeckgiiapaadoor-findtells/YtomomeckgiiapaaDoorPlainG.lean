/- Plain facts on what comes of one tree at a path of another. -/
import Derived.Test.YtomomeckgiiapaaDoorG2
import Derived.Test.YtomomeckgiiapaaDoorD1
namespace Go.Proofs.YtomomeckgiiapaaDoor
open Go.RowKit

theorem rising_eq {l m : List Nd} (hl : Rising l) (hm : Rising m) (hp : l.Perm m) : l = m :=
  List.Perm.eq_of_pairwise (le := fun x y => ltN x y = true) (fun a b _ _ h k => by rw [ltN_asymm h] at k; cases k) (rising_iff.1 hl) (rising_iff.1 hm) hp
theorem rising_nodup {l : List Nd} (h : Rising l) : (l.map key).Nodup := by
  rw [rising_iff] at h
  show List.Pairwise (· ≠ ·) (l.map key)
  rw [List.pairwise_map]
  refine h.imp fun {a b} hab e => ?_
  unfold ltN at hab
  rw [show a.1.data.toList = b.1.data.toList from e, Hog.less_irr] at hab
  cases hab
theorem srtd_nodup_rising {l : List Nd} (h : Srtd l) (hn : (l.map key).Nodup) : Rising l := by
  rw [rising_iff]
  have hn' : l.Pairwise fun x y => key x ≠ key y := by
    have : List.Pairwise (· ≠ ·) (l.map key) := hn
    rwa [List.pairwise_map] at this
  refine (h.and hn').imp fun {a b} hab => ?_
  cases k : ltN a b with
  | true => rfl
  | false => exact absurd (key_inj.2 (key_eq k hab.1)) hab.2
theorem tree_first {t : List Nd} (h : Tree t) {y : Nd} (hy : t[0]? = some y) : key y = [] := by
  obtain ⟨r, hr, hr0⟩ := h.root
  obtain ⟨j, hj⟩ := List.mem_iff_getElem?.1 hr
  cases j with
  | zero => rw [hy] at hj; cases hj; exact hr0
  | succ j =>
    have := h.rise 0 (j + 1) y r (by omega) hy hj
    unfold ltN at this
    rw [show r.1.data.toList = [] from hr0, Hog.less_nil] at this
    cases this
theorem behF_key (p q : ByteArray) : (behF p q).data.toList = if q.data.toList = [] then p.data.toList else p.data.toList ++ 47 :: q.data.toList := by
  unfold behF
  by_cases h : q.data.toList = []
  · rw [if_pos h, if_pos h]
  · rw [if_neg h, if_neg h]
    simp
theorem putF_key {p : ByteArray} (hp : p.data.toList ≠ []) (n : Nd) : key (putF p n) = Hog.behL p.data.toList (key n) := by
  show (behF p n.1).data.toList = _
  rw [behF_key, Hog.beh_eq, if_neg hp]
theorem putF_root {p : ByteArray} {n : Nd} (hn : key n = []) : (putF p n).1 = p := by
  show behF p n.1 = p
  unfold behF
  rw [if_pos hn]
/-- What stands under p has, in a tree, p itself ahead. -/
theorem up_there {t : List Nd} (h : Tree t) {P : List UInt8} (hP : P ≠ []) : ∀ (m : Nat) (x : Nd), x ∈ t → (key x).length ≤ m → Hog.In (key x) P → ∃ y ∈ t, key y = P := by
  intro m
  induction m with
  | zero =>
    intro x hx hl hin
    have h0 : key x = [] := List.eq_nil_of_length_eq_zero (by omega)
    have := hin.pre
    rw [h0] at this
    exact absurd (List.prefix_nil.1 this) hP
  | succ m ih =>
    intro x hx hl hin
    by_cases e : key x = P
    · exact ⟨x, hx, e⟩
    · have h0 : key x ≠ [] := by
        intro h0
        have := hin.pre
        rw [h0] at this
        exact hP (List.prefix_nil.1 this)
      obtain ⟨y, hy, e1, _⟩ := h.up x hx h0
      have hmx := h.may hx
      have hlen : (key y).length < (key x).length := by
        have h1 := (Hog.in_parent hmx h0).pre
        rw [e1]
        rcases Nat.lt_or_ge (Hog.parentL (key x)).length (key x).length with h2 | h2
        · exact h2
        · exact absurd (h1.eq_of_length (Nat.le_antisymm h1.length_le h2)) (Hog.parent_ne hmx h0)
      exact ih y hy (by omega) (by rw [e1]; exact Hog.up_in hmx h0 hin e)

structure Grafted (t : List Nd) (p : ByteArray) (s g : List Nd) : Prop where
  ne : p.data.toList ≠ []
  len : g.length = t.length + s.length
  back : sub g p.data.toList = s
  stands : ∃ n ∈ g, n.1 = p
  old : ∀ x ∈ t, x ∈ g ∧ Hog.underL (key x) p.data.toList = false
theorem grafted {t s g : List Nd} {p : ByteArray} (hp : Hog.mayL p.data.toList = true) (ht : Tree t) (hs : Tree s) (hg : Tree g) (hP : g.Perm (t ++ s.map (putF p))) : Grafted t p s g := by
  have hnd : ((t ++ s.map (putF p)).map key).Nodup := (hP.map key).nodup_iff.1 (rising_nodup hg.rise)
  rw [List.map_append, List.nodup_append] at hnd
  obtain ⟨_, _, hdis⟩ := hnd
  obtain ⟨r, hr, hr0⟩ := hs.root
  have hrp : (putF p r).1 = p := putF_root hr0
  have hpin : p.data.toList ∈ (s.map (putF p)).map key := List.mem_map.2 ⟨putF p r, List.mem_map.2 ⟨r, hr, rfl⟩, by unfold key; rw [hrp]⟩
  have hne : p.data.toList ≠ [] := by
    intro e
    obtain ⟨r', hr', hr0'⟩ := ht.root
    exact hdis [] (List.mem_map.2 ⟨r', hr', hr0'⟩) [] (by rw [e] at hpin; exact hpin) rfl
  have hnot : ∀ x ∈ t, ¬ Hog.In (key x) p.data.toList := by
    intro x hx hin
    obtain ⟨y, hy, e⟩ := up_there ht hne _ x hx (Nat.le_refl _) hin
    exact hdis _ (List.mem_map.2 ⟨y, hy, e⟩) _ hpin rfl
  have hund : ∀ x ∈ t, Hog.underL (key x) p.data.toList = false := by
    intro x hx
    cases h : Hog.underL (key x) p.data.toList with
    | false => rfl
    | true => exact absurd ((Hog.under_iff _ _).1 h).2.2 (hnot x hx)
  refine ⟨hne, by rw [hP.length_eq]; simp, ?_, ⟨putF p r, hP.mem_iff.2 (List.mem_append.2 (.inr (List.mem_map.2 ⟨r, hr, rfl⟩))), hrp⟩, fun x hx => ⟨hP.mem_iff.2 (List.mem_append.2 (.inl hx)), hund x hx⟩⟩
  refine rising_eq (sub_rise hg.rise _) hs.rise ?_
  unfold sub
  have h1 := ((hP.filter fun n => Hog.underL (key n) p.data.toList).map (mov p.data.toList))
  rw [List.filter_append] at h1
  have e1 : t.filter (fun n => Hog.underL (key n) p.data.toList) = [] := List.filter_eq_nil_iff.2 fun x hx => by rw [hund x hx]; decide
  have e2 : (s.map (putF p)).filter (fun n => Hog.underL (key n) p.data.toList) = s.map (putF p) := List.filter_eq_self.2 fun x hx => by
    obtain ⟨n, hn, rfl⟩ := List.mem_map.1 hx
    have hm := hg.may (hP.mem_iff.2 (List.mem_append.2 (.inr hx)))
    refine (Hog.under_iff _ _).2 ⟨hm, hp, ?_⟩
    rw [putF_key hne]
    exact Hog.beh_in hp (hs.may hn)
  rw [e1, e2, List.nil_append, List.map_map] at h1
  have e3 : s.map (mov p.data.toList ∘ putF p) = s := by
    have : s.map (mov p.data.toList ∘ putF p) = s.map id := by
      refine List.map_congr_left fun n hn => ?_
      show (Hog.mk (Hog.stripL (key (putF p n)) p.data.toList), n.2) = n
      rw [putF_key hne, Hog.strip_beh hp (hs.may hn), mk_key]
    rw [this, List.map_id]
  rw [e3] at h1
  exact h1
theorem sub_first {g : List Nd} (h : Tree g) {n y : Nd} (hn : n ∈ g) (hy : (sub g (key n))[0]? = some y) : y.2.1 = n.2.1 := by
  have hs := h.sub hn
  have h1 : mov (key n) n ∈ sub g (key n) := sub_mem.2 ⟨n, hn, Hog.under_self (h.may hn), rfl⟩
  have h2 := rising_key hs.rise (List.mem_of_getElem? hy) h1 (by rw [tree_first hs hy, mov_key, Hog.strip_self])
  rw [h2]
  rfl
end Go.Proofs.YtomomeckgiiapaaDoor
