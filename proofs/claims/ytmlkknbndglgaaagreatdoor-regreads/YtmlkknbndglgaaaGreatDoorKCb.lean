/- Slices of items of one's own: a field of one that is stored; an append as a step of a region. -/
import Derived.Test.YtmlkknbndglgaaaGreatDoorJ12
namespace Go.Proofs.YtmlkknbndglgaaaGreatDoor
open Go.RowKit

theorem OwnS.letters {base : Nat} {w : World} {a : Option Addr} {m c : Nat} {ps : List Pr} (h : OwnS base w (.slice a m c) ps) : m = ps.length := by
  obtain ⟨a', c', e⟩ := h.form
  simp only [Value.slice.injEq] at e
  exact e.2.1
theorem OwnS.block {base : Nat} {w : World} {b : Option Addr} {n c : Nat} {ps : List Pr} (h : OwnS base w (.slice b n c) ps) (hn : 0 < n) : ∃ g, b = .some ⟨g, 0, Option.none⟩ ∧ base ≤ g ∧ g < w.heap.size ∧ n ≤ c := by
  rcases h.2 with ⟨e, h0⟩ | ⟨g, cap, cur, e, hb, hg, hc, _⟩
  · have := h.letters; omega
  · obtain ⟨rfl, rfl, rfl⟩ : b = .some ⟨g, 0, Option.none⟩ ∧ n = ps.length ∧ c = cap := by simpa using e
    exact ⟨g, rfl, hb, (Array.getElem?_eq_some_iff.1 hg).1, hc⟩
theorem OwnS.free {base : Nat} {w : World} {g m c : Nat} {ps : List Pr} (h : OwnS base w (.slice (some ⟨g, 0, Option.none⟩) m c) ps) (j : Nat) : w.frozen? ⟨g, j, Option.none⟩ = false := by
  have hm := h.letters
  subst hm
  exact World.ownsRow.frozenAt h j
theorem OwnS.cellAt {base : Nat} {w : World} {g m c : Nat} {ps : List Pr} (h : OwnS base w (.slice (some ⟨g, 0, Option.none⟩) m c) ps) {j : Nat} {p : Pr} (hp : ps[j]? = some p) : w.cell? ⟨g, j * 3 + 1, Option.none⟩ = some (refsV p.1) := by
  have hm := h.letters
  subst hm
  have hj := (List.getElem?_eq_some_iff.1 hp).1
  exact (World.ownsRow.cellAt h (j * 3 + 1) (by omega)).trans (rflat_get hp).2.1
/-- An item's references, others put in. -/
def putR (p : Pr) (a : Option Addr) (l c : Nat) (rs : List ByteArray) : Pr := ((p.1.1, (a, l, c), p.1.2.2), (p.2.1, rs, p.2.2.2))
theorem rflat_put : ∀ {ps : List Pr} {j : Nat} {p : Pr}, ps[j]? = some p → ∀ (a : Option Addr) (l c : Nat) (rs : List ByteArray), (rflat ps).set (j * 3 + 1) (.slice a l c) = rflat (ps.set j (putR p a l c rs))
  | [], j, p, h, a, l, c, rs => by simp at h
  | y :: r, 0, p, h, a, l, c, rs => by
    simp at h
    subst h
    simp [rflat, rcells, putR, refsV, treeV]
  | y :: r, j + 1, p, h, a, l, c, rs => by
    rw [List.set_cons_succ, rflat_cons, rflat_cons, ← rflat_put (by simpa using h) a l c rs]
    simp [rcells, Nat.add_mul]
theorem OwnS.put {base : Nat} {w : World} {g m c : Nat} {ps : List Pr} (h : OwnS base w (.slice (some ⟨g, 0, Option.none⟩) m c) ps) {j : Nat} {p : Pr} (hp : ps[j]? = some p) (a : Option Addr) (l cc : Nat) (rs : List ByteArray) :
    OwnS base (w.setCell ⟨g, j * 3 + 1, Option.none⟩ (.slice a l cc)) (.slice (some ⟨g, 0, Option.none⟩) m c) (ps.set j (putR p a l cc rs)) := by
  have hm := h.letters
  subst hm
  have h1 := (World.ownsRow.stored h (j * 3 + 1) (.slice a l cc)).1
  unfold OwnS
  rw [rflat_put hp a l cc rs] at h1
  rw [List.length_set]
  exact h1
theorem its_put {ps : List Pr} {j : Nat} {p : Pr} (a : Option Addr) (l c : Nat) (rs : List ByteArray) : itsOf (ps.set j (putR p a l c rs)) = (itsOf ps).set j (p.2.1, rs, p.2.2.2) := by
  unfold itsOf
  rw [List.map_set]; rfl
/-- An append of items onto items of one's own, as a step of a region. -/
theorem step_append_items {ops : Array Oper} {o : Oper} {a : Act} {w : World} {K : Act → World → Prop} {Q : Exit → Act → World → Prop} {E : Prop} (hgd : o.guard = none) (s x : Operand)
    (ho : o.op = .call { callee := .builtin .append, args := #[s, x], argTypes := #[22, 22] })
    (base : Nat) (v : Value) (xs : List Pr) (hs : a.eval s = v) (hown : OwnS base w v xs) (ad : Addr) (m c : Nat) (ys : List Pr) (hx : a.eval x = .slice (some ad) m c) (hu : ArgS w (some ad) m c ys)
    (q : Nat) (hq : xs.length + ys.length = q) (zs : List Pr) (hz : xs ++ ys = zs) (hlen : q < 1000000) (hbase : base ≤ w.heap.size)
    (h : ∀ b c w', OwnS base w' (.slice b q c) zs → Below base w w' → K (a.put o.dst (.slice b q c)) w') :
    if Region.wanted o (yielded ops a.tmps) = true then Oper.wp Tryz.prog o a w K Q else E := by
  have hw : Region.wanted o (yielded ops a.tmps) = true := by simp [Region.wanted, hgd]
  rw [if_pos hw]
  subst hq hz
  obtain ⟨i0, hi, hz0, hz1, hz2⟩ := info_parts AItem
  obtain rfl := hu.len
  obtain ⟨v', w', hr, h2, h3, h4⟩ := run_append_own (P := Tryz.prog) w base 22 o.type 47 i0 (.agg #[.string ByteArray.empty, .slice none 0 0, .slice none 0 0]) 3 64 Tryz.underlying22 hi hz0 hz1 hz2 rfl (by decide) v xs.length (rflat xs) hown ad ys.length c (rflat ys) (rflat_len ys) (hu.cell ad rfl) (rflat_one ys) (by unfold maxLen; omega) (by omega) hbase
  have h5 : OwnS base w' v' (xs ++ ys) := OwnS.joined h2
  obtain ⟨b, c', e⟩ := h5.form
  rw [List.length_append] at e
  subst e
  unfold Oper.wp
  simp [execOp, ho, resolve, invoke, builtin, hs, hx, hr, Result.andThen]
  exact h b c' w' h5 (hown.grownBelow h3 hbase)
theorem argS_one {w : World} {q : Pr} (h : IsI w q) : ArgS (w.alloc (.cells #[.string q.2.1, .slice q.1.2.1.1 q.1.2.1.2.1 q.1.2.1.2.2, .slice q.1.2.2.1 q.1.2.2.2.1 q.1.2.2.2.2] 47)) (some ⟨w.heap.size, 0, none⟩) 1 1 [q] := by
  have hO := OwnS.made w [q] (by unfold maxLen; simp)
  have e : (rflat [q]).toArray = #[.string q.2.1, .slice q.1.2.1.1 q.1.2.1.2.1 q.1.2.1.2.2, .slice q.1.2.2.1 q.1.2.2.2.1 q.1.2.2.2.2] := by
    rw [← h.name]; rfl
  rw [e] at hO
  obtain ⟨ao, c, e2, ha⟩ := hO.arg fun p hp => by rw [List.mem_singleton.1 hp]; exact h.below (below_box _ _)
  injection e2 with e3 e4 e5
  subst e3; subst e5
  exact ha
end Go.Proofs.YtmlkknbndglgaaaGreatDoor
