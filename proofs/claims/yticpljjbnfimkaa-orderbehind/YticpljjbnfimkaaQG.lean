/- Who waits for whom, in memory: a table of rows, each in a block of its own, and a row of counts. -/
import Derived.Test.YticpljjbnfimkaaJ16
import Derived.Test.YticpljjbnfimkaaJ15
namespace Go.Proofs.Yticpljjbnfimkaa
open Go.RowKit

/-- Block U is a table of rows of places, each in a block of its own from B on; block W holds counts. -/
structure LkM (B U W n : Nat) (w : World) (cs : List Value) (ls : List (List Nat)) (ws : List Nat) : Prop where
  hu : U < B
  hw : W < B
  ne : U ≠ W
  tab : w.ownsRow 0 28 1 (.slice (some ⟨U, 0, none⟩) n n) n cs
  wait : OwnZ 0 w (.slice (some ⟨W, 0, none⟩) n n) (numK ws)
  ll : ls.length = n
  wl : ws.length = n
  row : ∀ (z : Nat) v l, cs[z]? = some v → ls[z]? = some l → (∃ a c, v = .slice a l.length c) ∧ OwnZ B w v (numK l)
  apart : ∀ (z z' : Nat) v v', z ≠ z' → cs[z]? = some v → cs[z']? = some v' → v.ownBlock = none ∨ v.ownBlock ≠ v'.ownBlock
  hB : B ≤ w.heap.size
theorem LkM.cl {B U W n : Nat} {w : World} {cs : List Value} {ls : List (List Nat)} {ws : List Nat} (h : LkM B U W n w cs ls ws) : cs.length = n := by have := h.tab.1; omega
theorem LkM.below {B U W n : Nat} {w w' : World} {cs : List Value} {ls : List (List Nat)} {ws : List Nat} (h : LkM B U W n w cs ls ws) (hb : Below w.heap.size w w') : LkM B U W n w' cs ls ws := by
  refine ⟨h.hu, h.hw, h.ne, ?_, h.wait.below hb, h.ll, h.wl, fun z v l hz hl => ⟨(h.row z v l hz hl).1, (h.row z v l hz hl).2.below hb⟩, h.apart, Nat.le_trans h.hB hb.size⟩
  exact World.ownsRow.kept h.tab (row := none) ⟨hb.os, hb.tape, hb.output, hb.size, fun k hk _ => hb.block k hk⟩ (.inr (by simp [Value.ownBlock]))
/-- What is seen of the table at a place. -/
theorem LkM.at' {B U W n : Nat} {w : World} {cs : List Value} {ls : List (List Nat)} {ws : List Nat} (h : LkM B U W n w cs ls ws) {z : Nat} (hz : z < n) : ∃ a q c l, cs[z]? = some (.slice a q c) ∧ ls[z]? = some l ∧ l.length = q ∧ OwnZ B w (.slice a q c) (numK l) ∧ w.cell? ⟨U, z, none⟩ = some (.slice a q c) ∧ w.frozen? ⟨U, z, none⟩ = false := by
  have hc := h.cl
  have h1 : cs[z]? = some cs[z] := List.getElem?_eq_getElem (by omega)
  have h2 : ls[z]? = some (ls[z]'(by have := h.ll; omega)) := List.getElem?_eq_getElem _
  obtain ⟨⟨a, c, e⟩, ho⟩ := h.row z _ _ h1 h2
  rw [e] at h1 ho
  exact ⟨a, _, c, _, h1, h2, rfl, ho, by rw [World.ownsRow.cellAt h.tab z (by omega)]; exact h1, World.ownsRow.frozenAt h.tab z⟩
theorem LkM.count {B U W n : Nat} {w : World} {cs : List Value} {ls : List (List Nat)} {ws : List Nat} (h : LkM B U W n w cs ls ws) {k : Nat} (hk : k < n) : ∃ m, ws[k]? = some m ∧ w.cell? ⟨W, k, none⟩ = some (.int .i64 m) ∧ w.frozen? ⟨W, k, none⟩ = false := by
  have h1 : ws[k]? = some (ws[k]'(by have := h.wl; omega)) := List.getElem?_eq_getElem _
  obtain ⟨g, e, hc⟩ := h.wait.at' h1
  cases e
  refine ⟨_, h1, hc, ?_⟩
  have h2 := h.wait
  have e2 : n = (numK ws).length := by rw [nums_len, h.wl]
  unfold OwnZ at h2
  rw [e2] at h2
  exact World.ownsRow.frozenAt h2 k
/-- A row of the table is one longer. -/
theorem LkM.longer {B U W n : Nat} {w w1 w2 w3 : World} {cs : List Value} {ls : List (List Nat)} {ws : List Nat} (h : LkM B U W n w cs ls ws) {z q c k : Nat} {a : Option Addr} {l : List Nat} (hz : cs[z]? = some (.slice a q c)) (hl : ls[z]? = some l)
    (hb1 : Below w.heap.size w w1) {b2 : Option Addr} {c2 : Nat} (hlen : l.length = q) (ho : OwnZ B w2 (.slice b2 (q + 1) c2) (numK (l ++ [k]))) (hg : w1.grownBy w2 (Value.slice a q c).ownBlock) (hs : Stays w1 (.slice a q c) (.slice b2 (q + 1) c2))
    (hw3 : w3 = w2.setCell ⟨U, z, none⟩ (.slice b2 (q + 1) c2)) : LkM B U W n w3 (cs.set z (.slice b2 (q + 1) c2)) (ls.set z (l ++ [k])) ws := by
  have h1 := h.below hb1
  have hzn := (List.getElem?_eq_some_iff.1 hz).1
  have hr : ∀ j, (Value.slice a q c).ownBlock = some j → B ≤ j ∧ j < w1.heap.size := fun j e => (h1.row z _ _ hz hl).2.lt j e
  have hr2 : ∀ j, (Value.slice b2 (q + 1) c2).ownBlock = some j → B ≤ j := fun j e => (ho.lt j e).1
  have offU : ∀ j, j < B → some j ≠ (Value.slice a q c).ownBlock := fun j hj e => by have := (hr j e.symm).1; omega
  have hu := h.hu
  have hw := h.hw
  have htab : w2.ownsRow 0 28 1 (.slice (some ⟨U, 0, none⟩) n n) n cs := World.ownsRow.kept h1.tab hg (.inr (offU U h.hu))
  have hgs := grown_setCell w2 U z (.slice b2 (q + 1) c2)
  subst hw3
  refine ⟨h.hu, h.hw, h.ne, (htab.stored z _).1, ?_, by rw [List.length_set]; exact h.ll, h.wl, fun y v l' hy hl' => ?_, fun y y' v v' hne hy hy' => ?_, Nat.le_trans h1.hB (Nat.le_trans hg.size hgs.size)⟩
  · exact World.ownsRow.kept (World.ownsRow.kept h1.wait hg (.inr (offU W h.hw))) hgs (.inr (by intro e; exact h.ne (Option.some.inj e).symm))
  · rw [List.getElem?_set] at hy hl'
    by_cases e : z = y
    · subst e
      rw [if_pos rfl] at hy hl'
      rw [if_pos hzn] at hy
      rw [if_pos (List.getElem?_eq_some_iff.1 hl).1] at hl'
      cases hy; cases hl'
      exact ⟨⟨b2, c2, by rw [List.length_append, hlen]; rfl⟩, World.ownsRow.kept ho hgs (.inr (by intro e2; have := hr2 U e2; omega))⟩
    · rw [if_neg e] at hy hl'
      obtain ⟨k1, k2⟩ := h1.row y v l' hy hl'
      exact ⟨k1, World.ownsRow.kept (World.ownsRow.kept k2 hg (h1.apart y z v _ (fun e2 => e e2.symm) hy hz)) hgs (.inr (by intro e2; have := (k2.lt U e2).1; omega))⟩
  · rw [List.getElem?_set] at hy hy'
    by_cases e : z = y
    · subst e
      rw [if_pos rfl, if_pos hzn] at hy
      rw [if_neg hne] at hy'
      cases hy
      rcases hs with e2 | ⟨j, e2, hj⟩
      · rw [e2]
        exact h1.apart z y' _ v' hne hz hy'
      · refine .inr fun e3 => ?_
        have h2 : ls[y']? = some (ls[y']'(by have := h.ll; have := h.cl; have := (List.getElem?_eq_some_iff.1 hy').1; omega)) := List.getElem?_eq_getElem _
        have := ((h1.row y' v' _ hy' h2).2.lt j (by rw [← e3]; exact e2)).2
        omega
    · rw [if_neg e] at hy
      by_cases e2 : z = y'
      · subst e2
        rw [if_pos rfl, if_pos hzn] at hy'
        cases hy'
        rcases hs with e3 | ⟨j, e3, hj⟩
        · rw [e3]
          exact h1.apart y z v _ hne hy hz
        · have h2 : ls[y]? = some (ls[y]'(by have := h.ll; have := h.cl; have := (List.getElem?_eq_some_iff.1 hy).1; omega)) := List.getElem?_eq_getElem _
          refine .inr fun e4 => ?_
          have := ((h1.row y v _ hy h2).2.lt j (by rw [e4]; exact e3)).2
          omega
      · rw [if_neg e2] at hy'
        exact h1.apart y y' v v' hne hy hy'
/-- A count is set. -/
theorem LkM.counted {B U W n : Nat} {w : World} {cs : List Value} {ls : List (List Nat)} {ws : List Nat} (h : LkM B U W n w cs ls ws) (k m : Nat) : LkM B U W n (w.setCell ⟨W, k, none⟩ (.int .i64 m)) cs ls (ws.set k m) := by
  have hg := grown_setCell w W k (.int .i64 m)
  have h2 : OwnZ 0 (w.setCell ⟨W, k, none⟩ (.int .i64 m)) (.slice (some ⟨W, 0, none⟩) n n) (numK (ws.set k m)) := by
    have h3 := h.wait
    have e2 : n = (numK ws).length := by rw [nums_len, h.wl]
    unfold OwnZ at h3
    rw [e2] at h3
    have h4 := OwnZ.stored h3 k (m : Int)
    rw [List.length_set, ← e2] at h4
    unfold numK
    rw [List.map_set]
    exact h4
  refine ⟨h.hu, h.hw, h.ne, World.ownsRow.kept h.tab hg (.inr (by intro e; exact h.ne (Option.some.inj e))), h2, h.ll, by rw [List.length_set]; exact h.wl, fun z v l hz hl => ?_, h.apart, Nat.le_trans h.hB hg.size⟩
  obtain ⟨k1, k2⟩ := h.row z v l hz hl
  exact ⟨k1, World.ownsRow.kept k2 hg (.inr (by intro e; have := (k2.lt W e).1; have := h.hw; omega))⟩
/-- Nobody waits yet. -/
theorem LkM.made {B U W n : Nat} {w : World} (hu : U < B) (hw : W < B) (ne : U ≠ W) (hB : B ≤ w.heap.size) (tab : w.ownsRow 0 28 1 (.slice (some ⟨U, 0, none⟩) n n) n (List.replicate n (.slice none 0 0))) (wait : w.ownsRow 0 3 1 (.slice (some ⟨W, 0, none⟩) n n) n (List.replicate n (.int .i64 0))) :
    LkM B U W n w (List.replicate n (.slice none 0 0)) (List.replicate n []) (List.replicate n 0) := by
  refine ⟨hu, hw, ne, tab, ?_, by simp, by simp, fun z v l hz hl => ?_, fun z z' v v' _ hz _ => ?_, hB⟩
  · unfold OwnZ numK
    simpa using wait
  · rw [List.getElem?_replicate] at hz hl
    by_cases e : z < n
    · rw [if_pos e] at hz hl
      cases hz; cases hl
      exact ⟨⟨none, 0, rfl⟩, OwnZ.nil _ _⟩
    · rw [if_neg e] at hz
      cases hz
  · rw [List.getElem?_replicate] at hz
    split at hz
    · cases hz; exact .inl rfl
    · cases hz
end Go.Proofs.Yticpljjbnfimkaa
