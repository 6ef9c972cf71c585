/- Trees over one another: what stays of nodes that are laid, what is found of it in other orders, and that it is a tree. -/
import Derived.Test.YteablfekfijnhaaDoorPlainF
import Derived.Test.YteablfekfijnhaaDoorJ6
import Derived.Test.YteablfekfijnhaaDoorM1
namespace Go.Proofs.YteablfekfijnhaaDoor

theorem nodup_key : ∀ {P : List Nd}, (P.map key).Nodup → ∀ {n m : Nd}, n ∈ P → m ∈ P → key n = key m → n = m
  | [], _, _, _, hn, _, _ => by cases hn
  | x :: r, h, n, m, hn, hm, e => by
    rw [List.map_cons, List.nodup_cons] at h
    rcases List.mem_cons.1 hn with e1 | h1
    · rcases List.mem_cons.1 hm with e2 | h2
      · rw [e1, e2]
      · exact absurd (List.mem_map.2 ⟨m, h2, by rw [← e1, e]⟩) h.1
    · rcases List.mem_cons.1 hm with e2 | h2
      · exact absurd (List.mem_map.2 ⟨n, h1, by rw [← e2, e]⟩) h.1
      · exact nodup_key h.2 h1 h2 e
theorem lookN_some {t : List Nd} {p : ByteArray} {n : Nd} (h : lookN t p = some n) : n ∈ t ∧ n.1 = p := look_some h
theorem lookN_none {t : List Nd} {p : ByteArray} : lookN t p = none ↔ ∀ n ∈ t, n.1 ≠ p := look_none
theorem lookN_of {P : List Nd} (h : (P.map key).Nodup) {n : Nd} (hn : n ∈ P) {p : ByteArray} (e : n.1 = p) : lookN P p = some n := by
  cases k : lookN P p with
  | none => exact absurd e (lookN_none.1 k n hn)
  | some m =>
    obtain ⟨h1, h2⟩ := lookN_some k
    rw [nodup_key h h1 hn (by unfold key; rw [h2, e])]

/-- What stays of the nodes so far. -/
structure Pil (P : List Nd) : Prop where
  nd : (P.map key).Nodup
  good : ∀ n ∈ P, goodB n = true
  root : ndRoot ∈ P
  up : ∀ n ∈ P, key n ≠ [] → ∃ m ∈ P, key m = Hog.parentL (key n) ∧ m.2.1 = 1
theorem Pil.may {P : List Nd} (h : Pil P) {n : Nd} (hn : n ∈ P) : Hog.mayL (key n) = true := good_may (h.good n hn)
theorem key_root : key ndRoot = [] := rfl
theorem Pil.one : Pil [ndRoot] := ⟨by simp, by decide +kernel, by simp, fun n hn h => by rw [List.mem_singleton.1 hn] at h; exact absurd rfl h⟩
theorem Pil.at_root {P : List Nd} (h : Pil P) {n : Nd} (hn : n ∈ P) (e : key n = []) : n = ndRoot := nodup_key h.nd hn h.root e

/-- Has n a Dir to stand in? -/
def housesB (n : Nd) (P : List Nd) : Bool := Hog.parentOk (key n) && decide ((atN P (parentP n.1)).2.1 = 1)
def layN (P : List Nd) (n : Nd) : List Nd × Bool :=
  match lookN P n.1 with
  | some m => (P, decide (n = m))
  | none => if housesB n P = true then (P ++ [n], true) else (P, false)
def layAll (P : List Nd) (a : Bool) : List Nd → List Nd × Bool
  | [] => (P, a)
  | n :: r => layAll (layN P n).1 ((layN P n).2 && a) r
theorem layAll_app (P : List Nd) (a : Bool) (x y : List Nd) : layAll P a (x ++ y) = layAll (layAll P a x).1 (layAll P a x).2 y := by
  induction x generalizing P a with
  | nil => rfl
  | cons n r ih => exact ih _ _

theorem lay_found {P : List Nd} {n m : Nd} (h : lookN P n.1 = some m) : layN P n = (P, decide (n = m)) := by unfold layN; rw [h]
theorem lay_new {P : List Nd} {n : Nd} (h : lookN P n.1 = none) (k : housesB n P = true) : layN P n = (P ++ [n], true) := by unfold layN; rw [h]; simp [k]
theorem lay_not {P : List Nd} {n : Nd} (h : lookN P n.1 = none) (k : housesB n P = false) : layN P n = (P, false) := by unfold layN; rw [h]; simp [k]
theorem parentP_key (n : Nd) : (parentP n.1).data.toList = Hog.parentL (key n) := Hog.mk_data _
theorem houses_iff {P : List Nd} (h : (P.map key).Nodup) {n : Nd} : housesB n P = true ↔ Hog.parentOk (key n) = true ∧ ∃ m ∈ P, key m = Hog.parentL (key n) ∧ m.2.1 = 1 := by
  unfold housesB
  rw [Bool.and_eq_true, decide_eq_true_iff]
  refine and_congr_right fun _ => ⟨fun e => ?_, fun ⟨m, hm, e1, e2⟩ => ?_⟩
  · unfold atN at e
    cases k : lookN P (parentP n.1) with
    | none => rw [k] at e; exact absurd e (by decide)
    | some m =>
      rw [k] at e
      obtain ⟨h1, h2⟩ := lookN_some k
      exact ⟨m, h1, by rw [← parentP_key, ← h2], e⟩
  · unfold atN
    rw [lookN_of h hm (key_inj.1 (by rw [parentP_key]; exact e1))]
    exact e2

theorem lay_sub (P : List Nd) (n : Nd) {x : Nd} (h : x ∈ P) : x ∈ (layN P n).1 := by
  unfold layN
  split
  · exact h
  · split
    · exact List.mem_append.2 (.inl h)
    · exact h
theorem lay_mem {P : List Nd} {n x : Nd} (h : x ∈ (layN P n).1) : x ∈ P ∨ x = n := by
  unfold layN at h
  split at h
  · exact .inl h
  · split at h
    · simpa using h
    · exact .inl h
theorem layAll_sub (P : List Nd) (a : Bool) (ns : List Nd) {x : Nd} (h : x ∈ P) : x ∈ (layAll P a ns).1 := by
  induction ns generalizing P a with
  | nil => exact h
  | cons n r ih => exact ih _ _ (lay_sub P n h)
theorem layAll_mem {P : List Nd} {a : Bool} {ns : List Nd} {x : Nd} (h : x ∈ (layAll P a ns).1) : x ∈ P ∨ x ∈ ns := by
  induction ns generalizing P a with
  | nil => exact .inl h
  | cons n r ih =>
    rcases ih h with h | h
    · rcases lay_mem h with h | rfl
      · exact .inl h
      · exact .inr (by simp)
    · exact .inr (by simp [h])
theorem layAll_len (P : List Nd) (a : Bool) (ns : List Nd) : (layAll P a ns).1.length ≤ P.length + ns.length := by
  induction ns generalizing P a with
  | nil => exact Nat.le_refl _
  | cons n r ih =>
    have h1 := ih (layN P n).1 ((layN P n).2 && a)
    have h2 : (layN P n).1.length ≤ P.length + 1 := by
      unfold layN
      split
      · simp
      · split <;> simp
    show (layAll (layN P n).1 ((layN P n).2 && a) r).1.length ≤ _
    simp only [List.length_cons]
    omega
theorem layAll_fst (P : List Nd) (a b : Bool) (ns : List Nd) : (layAll P a ns).1 = (layAll P b ns).1 := by
  induction ns generalizing P a b with
  | nil => rfl
  | cons n r ih => exact ih _ _ _
theorem layAll_down {P : List Nd} {a : Bool} {ns : List Nd} (h : (layAll P a ns).2 = true) : a = true := by
  induction ns generalizing P a with
  | nil => exact h
  | cons n r ih =>
    have := ih h
    rw [Bool.and_eq_true] at this
    exact this.2

theorem Pil.lay {P : List Nd} (h : Pil P) {n : Nd} (hg : goodB n = true) : Pil (layN P n).1 := by
  cases k : lookN P n.1 with
  | some m => rw [lay_found k]; exact h
  | none =>
    cases k2 : housesB n P with
    | false => rw [lay_not k k2]; exact h
    | true =>
      rw [lay_new k k2]
      obtain ⟨_, m, hm, e1, e2⟩ := (houses_iff h.nd).1 k2
      refine ⟨?_, fun x hx => ?_, List.mem_append.2 (.inl h.root), fun x hx hne => ?_⟩
      · rw [List.map_append, List.nodup_append]
        refine ⟨h.nd, by simp, fun a ha b hb e => ?_⟩
        obtain ⟨x, hx, rfl⟩ := List.mem_map.1 ha
        have hb' : b = key n := by simpa using hb
        exact lookN_none.1 k x hx (key_inj.1 (e.trans hb'))
      · rcases List.mem_append.1 hx with hx | hx
        · exact h.good x hx
        · rw [List.mem_singleton.1 hx]; exact hg
      · rcases List.mem_append.1 hx with hx | hx
        · obtain ⟨y, hy, e⟩ := h.up x hx hne
          exact ⟨y, List.mem_append.2 (.inl hy), e⟩
        · rw [List.mem_singleton.1 hx]
          exact ⟨m, List.mem_append.2 (.inl hm), e1, e2⟩
theorem Pil.layAll {P : List Nd} (h : Pil P) {ns : List Nd} (hg : ∀ n ∈ ns, goodB n = true) (a : Bool) : Pil (layAll P a ns).1 := by
  induction ns generalizing P a with
  | nil => exact h
  | cons n r ih => exact ih (h.lay (hg n (by simp))) (fun x hx => hg x (by simp [hx])) _

/-- Each node is good, and its Dir stands ahead of it. -/
def Ahead (S : List Nd) : List Nd → Prop
  | [] => True
  | n :: r => goodB n = true ∧ (key n ≠ [] → ∃ m ∈ S, key m = Hog.parentL (key n) ∧ m.2.1 = 1) ∧ Ahead (n :: S) r
theorem Ahead.mono : ∀ {ns S S' : List Nd}, (∀ x ∈ S, x ∈ S') → Ahead S ns → Ahead S' ns
  | [], _, _, _, _ => trivial
  | n :: r, S, S', hs, h => ⟨h.1, fun hne => by obtain ⟨m, hm, e⟩ := h.2.1 hne; exact ⟨m, hs m hm, e⟩, Ahead.mono (fun x hx => (List.mem_cons.1 hx).elim (fun e => by simp [e]) (fun k => by simp [hs x k])) h.2.2⟩
theorem Ahead.app : ∀ {a b S : List Nd}, Ahead S a → Ahead S b → Ahead S (a ++ b)
  | [], _, _, _, h => h
  | n :: r, b, S, h, k => ⟨h.1, h.2.1, Ahead.app h.2.2 (k.mono fun x hx => by simp [hx])⟩
theorem Ahead.good : ∀ {ns S : List Nd}, Ahead S ns → ∀ n ∈ ns, goodB n = true
  | [], _, _, n, hn => by cases hn
  | m :: r, S, h, n, hn => by
    rcases List.mem_cons.1 hn with rfl | hn
    · exact h.1
    · exact Ahead.good h.2.2 n hn
theorem tree_ahead_of : ∀ (r d : List Nd), Tree (d ++ r) → Ahead d r
  | [], _, _ => trivial
  | n :: r, d, h => by
    have hn : n ∈ d ++ n :: r := by simp
    refine ⟨h.good n hn, fun hne => ?_, (tree_ahead_of r (d ++ [n]) (by simpa using h)).mono fun x hx => by simpa [or_comm] using hx⟩
    obtain ⟨m, hm, e1, e2⟩ := h.up n hn hne
    refine ⟨m, ?_, e1, e2⟩
    have hlt : ltN m n = true := by unfold ltN; show Op.bytesLess (key m) (key n) = true; rw [e1]; exact Hog.parent_less (h.may hn) hne
    have hp := rising_iff.1 h.rise
    rw [List.pairwise_append, List.pairwise_cons] at hp
    rcases List.mem_append.1 hm with hm | hm
    · exact hm
    · rcases List.mem_cons.1 hm with rfl | hm
      · rw [ltN_irr] at hlt; cases hlt
      · have h2 := hp.2.1.1 m hm
        rw [ltN_asymm h2] at hlt
        cases hlt
theorem tree_ahead {t : List Nd} (h : Tree t) : Ahead [] t := tree_ahead_of t [] h

/-- Nodes of one path are the same. -/
def Fun (P ns : List Nd) : Prop := ∀ x y, (x ∈ P ∨ x ∈ ns) → (y ∈ P ∨ y ∈ ns) → x.1 = y.1 → x = y
theorem Pil.ne {P : List Nd} (h : Pil P) {n : Nd} (k : lookN P n.1 = none) : key n ≠ [] := fun e => lookN_none.1 k ndRoot h.root (key_inj.1 (by rw [key_root.symm] at e; exact e.symm))
theorem all_ok : ∀ {ns P : List Nd}, Pil P → Ahead P ns → Fun P ns → (layAll P true ns).2 = true ∧ ∀ x, x ∈ (layAll P true ns).1 ↔ x ∈ P ∨ x ∈ ns
  | [], P, _, _, _ => ⟨rfl, fun x => by simp [layAll]⟩
  | n :: r, P, h, ha, hf => by
    cases k : lookN P n.1 with
    | some m =>
      obtain ⟨h1, h2⟩ := lookN_some k
      have e : n = m := hf n m (.inr (by simp)) (.inl h1) h2.symm
      subst e
      have hl : layAll P true (n :: r) = layAll P true r := by
        show layAll (layN P n).1 ((layN P n).2 && true) r = _
        rw [lay_found k]; simp
      rw [hl]
      obtain ⟨r1, r2⟩ := all_ok h (ha.2.2.mono fun x hx => (List.mem_cons.1 hx).elim (fun e => e ▸ h1) id) fun x y hx hy => hf x y (hx.imp id fun h => by simp [h]) (hy.imp id fun h => by simp [h])
      refine ⟨r1, fun x => ?_⟩
      rw [r2 x, List.mem_cons]
      constructor
      · rintro (h | h)
        · exact .inl h
        · exact .inr (.inr h)
      · rintro (h | rfl | h)
        · exact .inl h
        · exact .inl h1
        · exact .inr h
    | none =>
      have hne := h.ne k
      have hh : housesB n P = true := (houses_iff h.nd).2 ⟨Hog.parent_ok (good_may ha.1) hne, ha.2.1 hne⟩
      have hp := h.lay ha.1
      have hl : layAll P true (n :: r) = layAll (P ++ [n]) true r := by
        show layAll (layN P n).1 ((layN P n).2 && true) r = _
        rw [lay_new k hh]; rfl
      rw [lay_new k hh] at hp
      rw [hl]
      obtain ⟨r1, r2⟩ := all_ok hp (ha.2.2.mono fun x hx => by simpa [or_comm] using hx) fun x y hx hy => hf x y (by simpa [or_assoc] using hx) (by simpa [or_assoc] using hy)
      exact ⟨r1, fun x => by rw [r2 x]; simp [or_assoc]⟩
theorem ok_mem : ∀ {ns P : List Nd} {a : Bool}, (layAll P a ns).2 = true → ∀ x ∈ ns, x ∈ (layAll P a ns).1
  | [], _, _, _, x, hx => by cases hx
  | n :: r, P, a, h, x, hx => by
    rcases List.mem_cons.1 hx with rfl | hx
    · show x ∈ (layAll (layN P x).1 ((layN P x).2 && a) r).1
      refine layAll_sub _ _ _ ?_
      have h1 := layAll_down (P := (layN P x).1) (a := (layN P x).2 && a) (ns := r) h
      rw [Bool.and_eq_true] at h1
      cases k : lookN P x.1 with
      | some m =>
        rw [lay_found k] at h1 ⊢
        rw [of_decide_eq_true h1.1]
        exact (lookN_some k).1
      | none =>
        cases k2 : housesB x P with
        | false => rw [lay_not k k2] at h1; cases h1.1
        | true => rw [lay_new k k2]; simp
    · exact ok_mem (ns := r) h x hx
/-- All go together just if nodes of one path are the same. -/
theorem ok_iff {ns P : List Nd} (h : Pil P) (ha : Ahead P ns) : (layAll P true ns).2 = true ↔ Fun P ns := by
  refine ⟨fun k x y hx hy e => ?_, fun k => (all_ok h ha k).1⟩
  have hp := h.layAll ha.good true
  have hto : ∀ z, (z ∈ P ∨ z ∈ ns) → z ∈ (layAll P true ns).1 := fun z hz => hz.elim (layAll_sub _ _ _) (ok_mem k z)
  exact nodup_key hp.nd (hto x hx) (hto y hy) (by unfold key; rw [e])

/-- Nodes that are all new stay all, in their order. -/
theorem lay_fresh : ∀ {ns P : List Nd} (a : Bool), Pil P → ((P ++ ns).map key).Nodup → Ahead P ns → layAll P a ns = (P ++ ns, a)
  | [], P, a, _, _, _ => by simp [layAll]
  | n :: r, P, a, h, hn, ha => by
    have k : lookN P n.1 = none := by
      rw [lookN_none]
      intro m hm e
      rw [List.map_append, List.nodup_append] at hn
      exact hn.2.2 (key m) (List.mem_map.2 ⟨m, hm, rfl⟩) (key n) (by simp) (by unfold key; rw [e])
    have hne := h.ne k
    have hh : housesB n P = true := (houses_iff h.nd).2 ⟨Hog.parent_ok (good_may ha.1) hne, ha.2.1 hne⟩
    have hp := h.lay ha.1
    rw [lay_new k hh] at hp
    show layAll (layN P n).1 ((layN P n).2 && a) r = _
    rw [lay_new k hh]
    rw [Bool.true_and, lay_fresh a hp (by simpa using hn) (ha.2.2.mono fun x hx => by simpa [or_comm] using hx)]
    simp

/-- Laid onto what has the same nodes comes to what has the same nodes. -/
theorem lookN_same {P Q : List Nd} (hq : Pil Q) (e : ∀ x, x ∈ P ↔ x ∈ Q) (p : ByteArray) : lookN P p = lookN Q p := by
  cases k : lookN P p with
  | none => exact (lookN_none.2 fun n hn => lookN_none.1 k n ((e n).2 hn)).symm
  | some m =>
    obtain ⟨h1, h2⟩ := lookN_some k
    exact (lookN_of hq.nd ((e m).1 h1) h2).symm
theorem lay_same {P Q : List Nd} (hq : Pil Q) (e : ∀ x, x ∈ P ↔ x ∈ Q) (n : Nd) : (layN P n).2 = (layN Q n).2 ∧ ∀ x, x ∈ (layN P n).1 ↔ x ∈ (layN Q n).1 := by
  have e1 := lookN_same hq e n.1
  have e2 : housesB n P = housesB n Q := by unfold housesB atN; rw [lookN_same hq e]
  unfold layN
  rw [e1, e2]
  split
  · exact ⟨rfl, e⟩
  · split
    · exact ⟨rfl, fun x => by simp [e x]⟩
    · exact ⟨rfl, e⟩
theorem layAll_same : ∀ {ns P Q : List Nd} (a : Bool), Pil P → Pil Q → (∀ x, x ∈ P ↔ x ∈ Q) → (∀ n ∈ ns, goodB n = true) → (layAll P a ns).2 = (layAll Q a ns).2 ∧ ∀ x, x ∈ (layAll P a ns).1 ↔ x ∈ (layAll Q a ns).1
  | [], _, _, _, _, _, e, _ => ⟨rfl, e⟩
  | n :: r, P, Q, a, hp, hq, e, hg => by
    obtain ⟨e1, e2⟩ := lay_same hq e n
    have hn := hg n (by simp)
    have := layAll_same (ns := r) ((layN P n).2 && a) (hp.lay hn) (hq.lay hn) e2 fun x hx => hg x (by simp [hx])
    show (layAll (layN P n).1 ((layN P n).2 && a) r).2 = (layAll (layN Q n).1 ((layN Q n).2 && a) r).2 ∧ _
    rw [← e1]
    refine ⟨this.1, fun x => ?_⟩
    show x ∈ (layAll (layN P n).1 ((layN P n).2 && a) r).1 ↔ x ∈ (layAll (layN Q n).1 ((layN Q n).2 && a) r).1
    rw [← e1]
    exact this.2 x
theorem lay_again {P : List Nd} (h : Pil P) {n : Nd} (hn : n ∈ P) : layN P n = (P, true) := by rw [lay_found (lookN_of h.nd hn rfl)]; simp

/-- Sorted. -/
structure Sorted (P es : List Nd) : Prop where
  srtd : Srtd es
  alike : Alike P es
theorem alike_perm {l m : List Nd} (h : Alike l m) : l.Perm m := by
  letI : BEq Nd := instBEqOfDecidableEq
  rw [List.perm_iff_count]
  intro x
  have e : ∀ k : List Nd, List.count x k = List.count x (k.filter fun y => decide (y.1 = x.1)) := fun k => by
    rw [List.count_filter]
    simp
  rw [e l, e m, h x.1]
theorem Sorted.mem {P es : List Nd} (h : Sorted P es) (x : Nd) : x ∈ es ↔ x ∈ P := (h.alike.mem (x := x)).symm
theorem Sorted.rise {P es : List Nd} (h : Sorted P es) (hn : (P.map key).Nodup) : Rising es := by
  have h2 : (es.map key).Nodup := ((alike_perm h.alike).map key).nodup_iff.1 hn
  rw [rising_iff]
  have h3 : es.Pairwise fun x y => key x ≠ key y := List.pairwise_map.1 h2
  refine (List.Pairwise.and h.srtd h3).imp ?_
  rintro x y ⟨h4, h5⟩
  unfold ltN at h4 ⊢
  rcases Hog.less_three x.1.data.toList y.1.data.toList with h | h | h
  · exact h
  · exact absurd h h5
  · rw [h] at h4; cases h4
theorem Sorted.tree {P es : List Nd} (h : Sorted P es) (hp : Pil P) (hl : P.length ≤ 400) : Tree es := by
  refine ⟨by rw [← (alike_perm h.alike).length_eq]; exact hl, fun n hn => hp.good n ((h.mem n).1 hn), h.rise hp.nd, ⟨ndRoot, (h.mem _).2 hp.root, rfl⟩, fun n hn hne => ?_⟩
  obtain ⟨m, hm, e⟩ := hp.up n ((h.mem n).1 hn) hne
  exact ⟨m, (h.mem m).2 hm, e⟩
theorem rising_same {l m : List Nd} (hl : Rising l) (hm : Rising m) (e : ∀ x, x ∈ l ↔ x ∈ m) : l = m := by
  have nd : ∀ {k : List Nd}, Rising k → k.Nodup := fun h => (rising_iff.1 h).imp fun {x y} h e => by rw [e, ltN_irr] at h; cases h
  exact List.Perm.eq_of_pairwise (le := fun x y => ltN x y = true) (fun a b _ _ h k => by rw [ltN_asymm h] at k; cases k) (rising_iff.1 hl) (rising_iff.1 hm) ((List.perm_ext_iff_of_nodup (nd hl) (nd hm)).2 e)
theorem rising_nd {l : List Nd} (h : Rising l) : (l.map key).Nodup := by
  rw [rising_iff] at h
  show List.Pairwise (· ≠ ·) (l.map key)
  rw [List.pairwise_map]
  refine h.imp fun {a b} hab e => ?_
  unfold ltN at hab
  rw [show a.1.data.toList = b.1.data.toList from e, Hog.less_irr] at hab
  cases hab
theorem Sorted.eq {P Q es fs : List Nd} (h : Sorted P es) (k : Sorted Q fs) (hp : Pil P) (hq : Pil Q) (e : ∀ x, x ∈ P ↔ x ∈ Q) : es = fs :=
  rising_same (h.rise hp.nd) (k.rise hq.nd) fun x => by rw [h.mem, k.mem, e]


theorem nd_root {n : Nd} (h0 : key n = []) (h1 : n.2.1 = 1) (h2 : ruleB n.2.1 n.2.2 = true) : n = ndRoot := by
  rw [h1] at h2
  have h3 : n.2.2.data.toList = [] := (dataEmpty_iff _).1 h2
  rw [nd_eq]
  exact ⟨key_inj.1 h0, h1, key_inj.1 h3⟩
/-- A tree whose root is a Dir. -/
def rootedB (t : List Nd) : Bool := mayN t && (match t with | [] => false | n :: _ => decide (n.2.1 = 1))
theorem rooted_tree {t : List Nd} (h : rootedB t = true) : Tree t ∧ ∃ r, t = ndRoot :: r := by
  unfold rootedB at h
  rw [Bool.and_eq_true] at h
  have ht := may_tree h.1
  refine ⟨ht, ?_⟩
  cases t with
  | nil => cases h.2
  | cons n r =>
    have hk : n.2.1 = 1 := of_decide_eq_true h.2
    have h0 : key n = [] := by
      obtain ⟨x, hx, e⟩ := ht.root
      rcases List.mem_cons.1 hx with rfl | hx
      · exact e
      · have := (List.pairwise_cons.1 (rising_iff.1 ht.rise)).1 x hx
        unfold ltN at this
        rw [show x.1.data.toList = [] from e, Hog.less_nil] at this
        cases this
    have hg := ht.good n (by simp)
    refine ⟨r, ?_⟩
    rw [show n = ndRoot from ?_]
    unfold goodB at hg
    rw [Bool.and_eq_true] at hg
    exact nd_root h0 hk hg.2
theorem rooted_of {t : List Nd} (h : Tree t) (hr : ndRoot ∈ t) : rootedB t = true := by
  unfold rootedB
  rw [tree_may h]
  cases t with
  | nil => cases hr
  | cons n r =>
    rcases List.mem_cons.1 hr with e | hx
    · rw [← e]; rfl
    · have := (List.pairwise_cons.1 (rising_iff.1 h.rise)).1 ndRoot hx
      unfold ltN at this
      rw [show ndRoot.1.data.toList = [] from rfl, Hog.less_nil] at this
      cases this
theorem lay_tree {t : List Nd} (h : rootedB t = true) (a : Bool) : layAll [ndRoot] a t = (t, a) := by
  obtain ⟨ht, r, rfl⟩ := rooted_tree h
  show layAll (layN [ndRoot] ndRoot).1 ((layN [ndRoot] ndRoot).2 && a) r = _
  rw [lay_again Pil.one (by simp), Bool.true_and]
  exact lay_fresh a Pil.one (rising_nd ht.rise) (tree_ahead ht).2.2
theorem rooted_ahead {ts : List (List Nd)} (h : ts.all rootedB = true) : Ahead [] ts.flatten := by
  induction ts with
  | nil => trivial
  | cons t r ih =>
    rw [List.all_cons, Bool.and_eq_true] at h
    exact (tree_ahead (rooted_tree h.1).1).app (ih h.2)

/-- What trees come to. -/
def UnionIs (policy : Int) (ts : List (List Nd)) (es : List Nd) (err : Int) : Prop :=
  if policy ≠ 0 ∧ policy ≠ 1 then es = [] ∧ err = 2
  else if ts.all rootedB = false then es = [] ∧ err = 7
  else if policy = 0 ∧ (layAll [ndRoot] true ts.flatten).2 = false then es = [] ∧ err = 9
  else if 400 < (layAll [ndRoot] true ts.flatten).1.length then es = [] ∧ err = 3
  else Sorted (layAll [ndRoot] true ts.flatten).1 es ∧ err = 0
end Go.Proofs.YteablfekfijnhaaDoor
