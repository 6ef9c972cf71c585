/- What the document passes over is what the pile passes over. -/
import Derived.Test.YteablfekfijnhaaDoorPlainV
namespace Go.Proofs.YteablfekfijnhaaDoor

/-- Does the path p stand under n, which is no Dir? -/
def blk1 (p : ByteArray) (n : Nd) : Bool := (n.2.1 != 1) && Lib.hasPrefix p.data.toList (key n ++ [47])

theorem blk1_iff {p : ByteArray} {n : Nd} : blk1 p n = true ↔ n.2.1 ≠ 1 ∧ key n ++ [47] <+: p.data.toList := by
  unfold blk1
  rw [Bool.and_eq_true, Hog.hasPrefix_iff]
  simp
theorem Pil.above {P : List Nd} (h : Pil P) {d : List UInt8} : ∀ (m : Nat) (n : Nd), n ∈ P → (key n).length ≤ m → Hog.In (key n) d → key n ≠ d → ∃ y ∈ P, key y = d ∧ y.2.1 = 1 := by
  intro m
  induction m with
  | zero =>
    intro n hn hl hin hne
    have h0 : key n = [] := List.eq_nil_of_length_eq_zero (by omega)
    have := hin.pre
    rw [h0] at this hne
    exact absurd (List.prefix_nil.1 this).symm hne
  | succ m ih =>
    intro n hn hl hin hne
    have h0 : key n ≠ [] := by
      intro h0
      have := hin.pre
      rw [h0] at this hne
      exact absurd (List.prefix_nil.1 this).symm hne
    obtain ⟨y, hy, e1, e2⟩ := h.up n hn h0
    have hmx := h.may hn
    by_cases e : key y = d
    · exact ⟨y, hy, e, e2⟩
    · have hlen : (key y).length < (key n).length := by
        have h1 := (Hog.in_parent hmx h0).pre
        rw [e1]
        rcases Nat.lt_or_ge (Hog.parentL (key n)).length (key n).length with h2 | h2
        · exact h2
        · exact absurd (h1.eq_of_length (Nat.le_antisymm h1.length_le h2)) (Hog.parent_ne hmx h0)
      exact ih y hy (by omega) (by rw [e1]; exact Hog.up_in hmx h0 hin hne) e
theorem pre_ne {a b : List UInt8} (h : a ++ [47] <+: b) : b ≠ a := fun e => by
  have := h.length_le
  rw [e, List.length_append] at this
  simp at this
  omega
/-- A node at whose path something stands is not blocked. -/
theorem Pil.free {P : List Nd} (h : Pil P) {n m : Nd} (hm : m ∈ P) (e : m.1 = n.1) : P.any (blk1 n.1) = false := by
  rw [List.any_eq_false]
  intro f hf hb
  obtain ⟨h1, h2⟩ := blk1_iff.1 hb
  rw [← e] at h2
  obtain ⟨y, hy, e1, e2⟩ := h.above (d := key f) _ m hm (Nat.le_refl _) (.inr (.inr h2)) (pre_ne h2)
  rw [nodup_key h.nd hy hf e1] at e2
  exact h1 e2
theorem Pil.free2 {P : List Nd} (h : Pil P) {n : Nd} (hg : goodB n = true) (hne : key n ≠ []) (hh : housesB n P = true) : P.any (blk1 n.1) = false := by
  rw [List.any_eq_false]
  intro f hf hb
  obtain ⟨h1, h2⟩ := blk1_iff.1 hb
  obtain ⟨_, pm, hpm, e1, e2⟩ := (houses_iff h.nd).1 hh
  have hin : Hog.In (key pm) (key f) := by rw [e1]; exact Hog.up_in (good_may hg) hne (.inr (.inr h2)) (pre_ne h2)
  by_cases e : key pm = key f
  · rw [nodup_key h.nd hpm hf e] at e2
    exact h1 e2
  · obtain ⟨y, hy, e3, e4⟩ := h.above (d := key f) _ pm hpm (Nat.le_refl _) hin e
    rw [nodup_key h.nd hy hf e3] at e4
    exact h1 e4
/-- Each node that was laid has something at its path, or is blocked. -/
def InvS (P S : List Nd) : Prop := ∀ m ∈ S, (∃ f ∈ P, f.1 = m.1) ∨ P.any (blk1 m.1) = true
theorem Pil.shut {P S : List Nd} (h : Pil P) (hi : InvS P S) {n : Nd} (hg : goodB n = true) (hu : key n ≠ [] → ∃ m ∈ S, key m = Hog.parentL (key n) ∧ m.2.1 = 1) (k : lookN P n.1 = none) (hh : housesB n P = false) : P.any (blk1 n.1) = true := by
  have hne := h.ne k
  have hmay := good_may hg
  obtain ⟨m, hm, e1, _⟩ := hu hne
  have hpre := (Hog.in_parent hmay hne)
  rw [List.any_eq_true]
  rcases hi m hm with ⟨f, hf, e3⟩ | hb
  · have e4 : key f = Hog.parentL (key n) := by unfold key; rw [e3]; exact e1
    have hk : f.2.1 ≠ 1 := fun e => by
      rw [(houses_iff h.nd).2 ⟨Hog.parent_ok hmay hne, f, hf, e4, e⟩] at hh
      cases hh
    refine ⟨f, hf, blk1_iff.2 ⟨hk, ?_⟩⟩
    rw [← e4] at hpre
    rcases hpre with e | e | e
    · exact absurd (e4.symm.trans e.symm) (Hog.parent_ne hmay hne)
    · rw [h.at_root hf e] at hk
      exact absurd rfl hk
    · exact e
  · obtain ⟨f, hf, hbf⟩ := List.any_eq_true.1 hb
    obtain ⟨h1, h2⟩ := blk1_iff.1 hbf
    refine ⟨f, hf, blk1_iff.2 ⟨h1, h2.trans ?_⟩⟩
    show key m <+: key n
    rw [e1]
    exact hpre.pre
theorem any_mono {P Q : List Nd} {p : Nd → Bool} (h : ∀ x ∈ P, x ∈ Q) (k : P.any p = true) : Q.any p = true := by
  obtain ⟨x, hx, hp⟩ := List.any_eq_true.1 k
  exact List.any_eq_true.2 ⟨x, h x hx, hp⟩
theorem InvS.step {P S : List Nd} (h : Pil P) (hi : InvS P S) {n : Nd} (hg : goodB n = true) (hu : key n ≠ [] → ∃ m ∈ S, key m = Hog.parentL (key n) ∧ m.2.1 = 1) : InvS (layN P n).1 (n :: S) := by
  intro m hm
  rcases List.mem_cons.1 hm with rfl | hm
  · cases k : lookN P m.1 with
    | some x =>
      rw [lay_found k]
      obtain ⟨h1, h2⟩ := lookN_some k
      exact .inl ⟨x, h1, h2⟩
    | none =>
      cases k2 : housesB m P with
      | true => rw [lay_new k k2]; exact .inl ⟨m, by simp, rfl⟩
      | false => rw [lay_not k k2]; exact .inr (h.shut hi hg hu k k2)
  · rcases hi m hm with ⟨f, hf, e⟩ | hb
    · exact .inl ⟨f, lay_sub P n hf, e⟩
    · exact .inr (any_mono (fun x hx => lay_sub P n hx) hb)
theorem inv_all : ∀ {ns P S : List Nd} (a : Bool), Pil P → InvS P S → Ahead S ns → ∀ m, (m ∈ ns ∨ m ∈ S) → (∃ f ∈ (layAll P a ns).1, f.1 = m.1) ∨ (layAll P a ns).1.any (blk1 m.1) = true
  | [], _, _, _, _, hi, _, m, hm => hi m (hm.elim (fun h => by cases h) id)
  | n :: r, P, S, a, hp, hi, ha, m, hm =>
    inv_all (ns := r) ((layN P n).2 && a) (hp.lay ha.1) (InvS.step hp hi ha.1 ha.2.1) ha.2.2 m (by
      rcases hm with hm | hm
      · rcases List.mem_cons.1 hm with rfl | hm
        · exact .inr (by simp)
        · exact .inl hm
      · exact .inr (by simp [hm]))
theorem ahead_at : ∀ {xs S ys : List Nd} {n : Nd}, Ahead S (xs ++ n :: ys) → goodB n = true ∧ (key n ≠ [] → ∃ m, (m ∈ xs ∨ m ∈ S) ∧ key m = Hog.parentL (key n) ∧ m.2.1 = 1) ∧ Ahead S xs
  | [], S, ys, n, h => ⟨h.1, fun hne => by obtain ⟨m, hm, e⟩ := h.2.1 hne; exact ⟨m, .inr hm, e⟩, trivial⟩
  | x :: r, S, ys, n, h => by
    obtain ⟨h1, h2, h3⟩ := ahead_at (xs := r) h.2.2
    refine ⟨h1, fun hne => ?_, h.1, h.2.1, h3⟩
    obtain ⟨m, hm, e⟩ := h2 hne
    refine ⟨m, ?_, e⟩
    rcases hm with hm | hm
    · exact .inl (by simp [hm])
    · rcases List.mem_cons.1 hm with rfl | hm
      · exact .inl (by simp)
      · exact .inr hm
/-- What the document looks at, at each node. -/
theorem ref_at {xs ys : List Nd} {n : Nd} {P : List Nd} {a : Bool} (h : Ahead [] (xs ++ n :: ys)) (hl : layAll [ndRoot] true xs = (P, a)) :
    Pil P ∧ goodB n = true ∧ (∀ m, lookN P n.1 = some m → P.any (blk1 n.1) = false) ∧ (lookN P n.1 = none → P.any (blk1 n.1) = !housesB n P) := by
  obtain ⟨h1, h2, h3⟩ := ahead_at h
  have hp : Pil P := by have := Pil.one.layAll (ns := xs) h3.good true; rw [hl] at this; exact this
  have hi : InvS P xs := fun m hm => by
    have := inv_all (S := []) true Pil.one (fun m hm => by cases hm) h3 m (.inl hm)
    rw [hl] at this
    exact this
  refine ⟨hp, h1, fun m hm => ?_, fun k => ?_⟩
  · obtain ⟨k1, k2⟩ := lookN_some hm
    exact hp.free k1 k2
  · cases hh : housesB n P with
    | true => exact hp.free2 h1 (hp.ne k) hh
    | false =>
      exact hp.shut hi h1 (fun hne => by
        obtain ⟨m, hm, e⟩ := h2 hne
        exact ⟨m, hm.elim id (fun h => by cases h), e⟩) k hh
end Go.Proofs.YteablfekfijnhaaDoor
