/- The walk of find.Lookup. -/
import Derived.Test.YteablfekfijnhaaDoorF2
import Derived.Test.YteablfekfijnhaaDoorPlainF
import Derived.Laws.ResultCell
namespace Go.Proofs.YteablfekfijnhaaDoor
open Go.RowKit

def nd0 : Nd := (ByteArray.empty, 0, ByteArray.empty)
/-- What Lookup tells. -/
def lookP (t : List Nd) (p : ByteArray) : Nd × Bool := if mayN t = true then match look t p with
  | some n => (n, true)
  | none => (nd0, false)
  else (nd0, false)
theorem lookP_not {t : List Nd} {p : ByteArray} (h : mayN t = false) : lookP t p = (nd0, false) := by unfold lookP; rw [if_neg (by rw [h]; decide)]
theorem lookP_none {t : List Nd} {p : ByteArray} (h : look t p = none) : lookP t p = (nd0, false) := by unfold lookP; rw [h]; split <;> rfl
theorem lookP_some {t : List Nd} {p : ByteArray} {n : Nd} (hm : mayN t = true) (h : look t p = some n) : lookP t p = (n, true) := by unfold lookP; rw [if_pos hm, h]
theorem lookP_true {t : List Nd} {p : ByteArray} {n : Nd} (h : lookP t p = (n, true)) : mayN t = true ∧ look t p = some n := by
  unfold lookP at h
  by_cases hm : mayN t = true
  · rw [if_pos hm] at h
    refine ⟨hm, ?_⟩
    cases hl : look t p with
    | none => rw [hl] at h; simp at h
    | some m => rw [hl] at h; simp at h; rw [h]
  · rw [if_neg hm] at h; simp at h
theorem lookP_false {t : List Nd} {p : ByteArray} {n : Nd} (h : lookP t p = (n, false)) : n = nd0 ∧ (mayN t = false ∨ look t p = none) := by
  unfold lookP at h
  by_cases hm : mayN t = true
  · rw [if_pos hm] at h
    cases hl : look t p with
    | none => rw [hl] at h; simp at h; exact ⟨h.symm, .inr rfl⟩
    | some m => rw [hl] at h; simp at h
  · rw [if_neg hm] at h
    simp at h
    exact ⟨h.symm, .inl (by simpa using hm)⟩

/-- A block that holds a node. -/
def Blk (w : World) (g : Nat) (n : Nd) : Prop := w.heap[g]? = some (.cells #[.string n.1, .int .i64 n.2.1, .string n.2.2] 37 (0, 0))
theorem Blk.facts {w : World} {g : Nat} {n : Nd} (h : Blk w g n) : (w.cell? ⟨g, 0, none⟩ = some (.string n.1) ∧ w.cell? ⟨g, 1, none⟩ = some (.int .i64 n.2.1) ∧ w.cell? ⟨g, 2, none⟩ = some (.string n.2.2)) ∧
    (w.frozen? ⟨g, 0, none⟩ = false ∧ w.frozen? ⟨g, 1, none⟩ = false ∧ w.frozen? ⟨g, 2, none⟩ = false) ∧ g < w.heap.size :=
  ⟨⟨by rw [cell_of_row w g 0 _ _ (0, 0) h]; rfl, by rw [cell_of_row w g 1 _ _ (0, 0) h]; rfl, by rw [cell_of_row w g 2 _ _ (0, 0) h]; rfl⟩,
   ⟨frozen_of_row w g 0 _ _ h, frozen_of_row w g 1 _ _ h, frozen_of_row w g 2 _ _ h⟩, (Array.getElem?_eq_some_iff.1 h).1⟩
theorem Blk.below {w w' : World} {g : Nat} {n : Nd} (h : Blk w g n) (hb : Below w.heap.size w w') : Blk w' g n := by
  unfold Blk
  rw [hb.block g h.facts.2.2]
  exact h
theorem Blk.made (w : World) (n : Nd) : Blk (w.alloc (.cells #[.string n.1, .int .i64 n.2.1, .string n.2.2] 37)) w.heap.size n := heap_alloc_new w _

theorem ret_nb {a b : Nd} {x y : Bool} (h : a = b) (k : x = y) : Ending.returned (.tuple #[.agg #[.string a.1, .int .i64 a.2.1, .string a.2.2], .bool x]) = .returned (.tuple #[.agg #[.string b.1, .int .i64 b.2.1, .string b.2.2], .bool y]) := by rw [h, k]

theorem size_of_node : (Tryd.prog.info? 37).map (·.size) = some 3 := by kernel_rfl
theorem results_node {fn : Func} {q u : Tmp} (h : fn.results = #[.cell q 37, .tmp u]) (tmps : Array Value) (w : World) (g : Nat) (n : Nd) (hp : tmps.getD q undef = .pointer (some ⟨g, 0, none⟩)) (hg : Blk w g n) :
    (results fn tmps).run Tryd.prog w = .ok (.tuple #[.agg #[.string n.1, .int .i64 n.2.1, .string n.2.2], tmps.getD u undef]) w := by
  rw [results_cell_tmp h, hp]
  simp [asAddr, Result.andThen, run_loadVar_row w g 37 37 _ (0, 0) _ hg struct_node rfl size_of_node]
theorem Blk.stored {w : World} {g : Nat} {n : Nd} (h : Blk w g n) (x : Nd) : Blk (((w.setCell ⟨g, 0, none⟩ (.string x.1)).setCell ⟨g, 1, none⟩ (.int .i64 x.2.1)).setCell ⟨g, 2, none⟩ (.string x.2.2)) g x := by
  have h1 := heap_setCell_same w g 0 _ _ (.string x.1) h
  have h2 := heap_setCell_same _ g 1 _ _ (.int .i64 x.2.1) h1
  have h3 := heap_setCell_same _ g 2 _ _ (.string x.2.2) h2
  unfold Blk
  rw [h3]; rfl
theorem stored_below {B : Nat} {w0 w : World} {g : Nat} (h : Below B w0 w) (hg : B ≤ g) (x : Nd) : Below B w0 (((w.setCell ⟨g, 0, none⟩ (.string x.1)).setCell ⟨g, 1, none⟩ (.int .i64 x.2.1)).setCell ⟨g, 2, none⟩ (.string x.2.2)) :=
  ((h.setCell (p := ⟨g, 0, none⟩) hg _).setCell (p := ⟨g, 1, none⟩) hg _).setCell (p := ⟨g, 2, none⟩) hg _

set_option maxRecDepth 100000 in
set_option maxHeartbeats 1000000 in
theorem lookup_not (v : Value) (t : List Nd) (p : ByteArray) (w0 w : World) (h : Ok w0 w) (hp : ∀ n ∈ t, n.1.size < 999999) (hn : Nods w v t) (hm : t.length < 900000) (hy : mayN t = false) :
    Calls Tryd.prog 15 #[v, .string p] w fun e w' => e = .returned (.tuple #[.agg #[.string nd0.1, .int .i64 nd0.2.1, .string nd0.2.2], .bool false]) ∧ Ok w0 w' ∧ Below w.heap.size w w' := by
  have HP := hide hp
  have HN := hide (hn.below (below_box w (.cells #[.string ByteArray.empty, .int .i64 0, .string ByteArray.empty] 37)))
  have HY := hide hy
  have HB := hide (Blk.made w nd0)
  clear hp hn hy
  go_enter Tryd.func15, Tryd.ntmps15
  go_wp2_with fail
  refine (mayT_ok v t false w0 _ (h.alloc _) HP.out HN.out (by omega) HY.out).mono ?_
  rintro e w1 ⟨rfl, ok1, hb1⟩
  have HB1 := hide (HB.out.below hb1)
  have HB2 := hide ((below_box w _).trans (hb1.mono (by simp)))
  obtain ⟨⟨c1, c2, c3⟩, ⟨f1, f2, f3⟩, hl⟩ := HB1.out.facts
  clear hb1
  go_wp2
  refine bodyPost_ret (results_node rfl _ _ _ nd0 rfl (HB1.out.stored nd0)) rfl ?_
  exact ⟨rfl, h.next (stored_below HB2.out (Nat.le_refl _) nd0), stored_below HB2.out (Nat.le_refl _) nd0⟩

set_option maxRecDepth 100000 in
set_option maxHeartbeats 1000000 in
theorem lookup_may (v : Value) (t : List Nd) (p : ByteArray) (x : Nd) (f : Bool) (w0 w : World) (h : Ok w0 w) (hp : ∀ n ∈ t, n.1.size < 999999) (hn : Nods w v t) (hm : t.length < 900000) (hy : mayN t = true) (hx : lookP t p = (x, f)) :
    Calls Tryd.prog 15 #[v, .string p] w fun e w' => e = .returned (.tuple #[.agg #[.string x.1, .int .i64 x.2.1, .string x.2.2], .bool f]) ∧ Ok w0 w' ∧ Below w.heap.size w w' := by
  have hne : t ≠ [] := (mayF_iff.1 hy).1
  have HP := hide hp
  have HN := hide (hn.below (below_box w (.cells #[.string ByteArray.empty, .int .i64 0, .string ByteArray.empty] 37)))
  have HY := hide hy
  have HX := hide hx
  have HR := hide (mayF_rising hy)
  have HB := hide (Blk.made w nd0)
  have HNE := hide hne
  clear hp hn hy hx hne
  go_enter Tryd.func15, Tryd.ntmps15
  go_wp2_with fail
  refine (mayT_ok v t true w0 _ (h.alloc _) HP.out HN.out (by omega) HY.out).mono ?_
  rintro e w1 ⟨rfl, ok1, hb1⟩
  have HB1 := hide (HB.out.below hb1)
  have HN1 := hide (HN.out.below hb1)
  have HW1 := hide ((below_box w _).trans (hb1.mono (by simp)))
  clear hb1 HB HN
  go_wp2_with fail
  refine (placed_any v t w1 HN1.out hm).mono ?_
  rintro e w2 ⟨u, rfl, ho2, hb2⟩
  have HB2 := hide (HB1.out.below hb2)
  have HW2 := hide (HW1.out.trans (hb2.mono HW1.out.size))
  obtain ⟨b, o, c, hu, hc, hrun⟩ : ∃ b o c, u = .slice (some ⟨b, o, none⟩) t.length c ∧ t.length ≤ c ∧ Run w2 b o t := by
    rcases ho2.nods with ⟨e, _⟩ | h2
    · exact absurd e HNE.out
    · exact h2
  subst hu
  have HRUN := hide hrun
  clear hb2 HB1 HN1 HW1 ho2 hrun
  obtain ⟨m, hmt⟩ : ∃ m, m = t.length := ⟨_, rfl⟩
  rw [← hmt]
  have HMT := hide hmt
  clear hmt
  go_wp2_with fail
  rw [HMT.out]
  refine (fsearch_some b o c t (p, 0, ByteArray.empty) w2 HRUN.out HR.out (by omega)).mono ?_
  rintro e w3 ⟨i, g, rfl, hf, hb3⟩
  have HB3 := hide (HB2.out.below hb3)
  have HW3 := hide (HW2.out.trans (hb3.mono HW2.out.size))
  have HRUN3 := hide (HRUN.out.below hb3 HRUN.out.1)
  have HF := hide (look_found HR.out (p := p) rfl hf)
  have hil := hf.1
  clear hb3 HB2 HW2 HRUN hf
  obtain ⟨⟨c1, c2, c3⟩, ⟨f1, f2, f3⟩, hl⟩ := HB3.out.facts
  cases g with
  | false =>
    have he : x = nd0 ∧ f = false := by
      have := lookP_none (HF.out.2 rfl)
      rw [HX.out] at this
      simpa using this
    obtain ⟨rfl, rfl⟩ := he
    go_wp2
    refine bodyPost_ret (results_node rfl _ _ _ nd0 rfl (HB3.out.stored nd0)) rfl ?_
    exact ⟨rfl, h.next (stored_below HW3.out (Nat.le_refl _) nd0), stored_below HW3.out (Nat.le_refl _) nd0⟩
  | true =>
    obtain ⟨y, hy1, hy2⟩ := HF.out.1 rfl
    have he : x = y ∧ f = true := by
      have := lookP_some HY.out hy2
      rw [HX.out] at this
      simpa using this
    obtain ⟨rfl, rfl⟩ := he
    obtain ⟨g1, g2, g3⟩ := HRUN3.out.2 i x hy1
    have hit : (i : Int) < (t.length : Int) := by have := (List.getElem?_eq_some_iff.1 hy1).1; omega
    clear hy1 hy2
    go_wp2
    refine bodyPost_ret (results_node rfl _ _ _ x rfl (HB3.out.stored x)) rfl ?_
    exact ⟨rfl, h.next (stored_below HW3.out (Nat.le_refl _) x), stored_below HW3.out (Nat.le_refl _) x⟩

theorem lookup_ok (v : Value) (t : List Nd) (p : ByteArray) (x : Nd) (f : Bool) (w0 w : World) (h : Ok w0 w) (hp : ∀ n ∈ t, n.1.size < 999999) (hn : Nods w v t) (hm : t.length < 900000) (hx : lookP t p = (x, f)) :
    Calls Tryd.prog 15 #[v, .string p] w fun e w' => e = .returned (.tuple #[.agg #[.string x.1, .int .i64 x.2.1, .string x.2.2], .bool f]) ∧ Ok w0 w' ∧ Below w.heap.size w w' := by
  cases hy : mayN t with
  | true => exact lookup_may v t p x f w0 w h hp hn hm hy hx
  | false =>
    rw [lookP_not hy] at hx
    cases hx
    exact lookup_not v t p w0 w h hp hn hm hy
end Go.Proofs.YteablfekfijnhaaDoor
