/- The walk of ItemEdges. -/
import Derived.Test.YtggojmimodpfaaaDoorO4
import Derived.Test.YtggojmimodpfaaaDoorRdI
import Derived.Test.YtggojmimodpfaaaDoorBs
namespace Go.Proofs.YtggojmimodpfaaaDoor
open Go.RowKit

theorem size_set (W : World) (p : Addr) (u : Value) : (W.setCell p u).heap.size = W.heap.size := by simp [World.setCell]
theorem Txt.two_set (W : World) (p : Addr) (u : Value) (x y : ByteArray) : Txt ((W.setCell p u).alloc (.cells #[.string x, .string y] 9)) (.slice (some ⟨W.heap.size, 0, Option.none⟩) 2 2) [x, y] := by
  have h := Txt.two (W.setCell p u) x y
  rw [size_set] at h
  exact h
theorem OwnN.one_set (W : World) (p : Addr) (u : Value) (n : Nd) (base : Nat) (hb : base ≤ W.heap.size) : OwnN base ((W.setCell p u).alloc (.cells #[.string n.1, .int .i64 n.2.1, .string n.2.2] 44)) (.slice (some ⟨W.heap.size, 0, none⟩) 1 1) [n] := by
  have h := OwnN.made (W.setCell p u) [n] (by unfold maxLen; simp)
  rw [size_set] at h
  exact h.base hb
/-- The box of an item, a field of which is set. -/
theorem box_set {w : World} {g : Nat} {v0 v1 v2 : Value} (h : w.heap[g]? = some (.cells #[v0, v1, v2] 25)) (k : Nat) (u : Value) : (w.setCell ⟨g, k, none⟩ u).heap[g]? = some (.cells (#[v0, v1, v2].setIfInBounds k u) 25) := heap_setCell_same w g k _ _ u h
theorem box_cells {w : World} {g : Nat} {v0 v1 v2 : Value} (h : w.heap[g]? = some (.cells #[v0, v1, v2] 25)) : w.cell? ⟨g, 0, none⟩ = some v0 ∧ w.cell? ⟨g, 1, none⟩ = some v1 ∧ w.cell? ⟨g, 2, none⟩ = some v2 :=
  ⟨by rw [cell_of_row w g 0 _ _ (0, 0) h]; rfl, by rw [cell_of_row w g 1 _ _ (0, 0) h]; rfl, by rw [cell_of_row w g 2 _ _ (0, 0) h]; rfl⟩
theorem box_free {w : World} {g : Nat} {v0 v1 v2 : Value} (h : w.heap[g]? = some (.cells #[v0, v1, v2] 25)) (k : Nat) : w.frozen? ⟨g, k, none⟩ = false := frozen_of_row w g k _ _ h
theorem box_old {w : World} {g : Nat} {o : Obj} (h : w.heap[g]? = some o) (x : Obj) : (w.alloc x).heap[g]? = some o := by rw [heap_alloc_old _ _ (Array.getElem?_eq_some_iff.1 h).1]; exact h

theorem mayI3_ok (nm : ByteArray) (rs : List ByteArray) (ns : List Nd) (ra : Option Addr) (rn rc : Nat) (ta : Option Addr) (tn tc : Nat) (r : Bool) (w0 w : World) (hok : Ok w0 w) (hf : Fair (nm, rs, ns)) (hr : Txt w (.slice ra rn rc) rs) (ht : Nods w (.slice ta tn tc) ns) (hv : mayI (nm, rs, ns) = r) :
    Calls Tryd.prog 17 #[.agg #[.string nm, .slice ra rn rc, .slice ta tn tc]] w fun e w' => e = .returned (.bool r) ∧ Ok w0 w' ∧ Below w.heap.size w w' := mayI_ok (nm, rs, ns) ra rn rc ta tn tc r w0 w hok hf hr ht hv
theorem sameI3_ok (a : It) (nm : ByteArray) (rs : List ByteArray) (ns : List Nd) (ra : Option Addr) (rn rc : Nat) (ta : Option Addr) (tn tc : Nat) (ra' : Option Addr) (rn' rc' : Nat) (ta' : Option Addr) (tn' tc' : Nat) (r : Bool) (w : World) (hr : Txt w (.slice ra rn rc) a.2.1) (ht : Nods w (.slice ta tn tc) a.2.2)
    (hr' : Txt w (.slice ra' rn' rc') rs) (ht' : Nods w (.slice ta' tn' tc') ns) (h1 : a.2.1.length < 1000000) (h2 : a.2.2.length < 1000000) (hv : decide (a = (nm, rs, ns)) = r) :
    Calls Tryd.prog 19 #[.agg #[.string a.1, .slice ra rn rc, .slice ta tn tc], .agg #[.string nm, .slice ra' rn' rc', .slice ta' tn' tc']] w fun e w' => e = .returned (.bool r) ∧ Below w.heap.size w w' :=
  sameI_ok a (nm, rs, ns) ra rn rc ta tn tc ra' rn' rc' ta' tn' tc' r w hr ht hr' ht' h1 h2 hv

set_option maxRecDepth 100000 in
set_option maxHeartbeats 2000000 in
theorem edges_main (i : It) (ra : Option Addr) (rn rc : Nat) (ta : Option Addr) (tn tc : Nat) (which : Int) (w : World) (hsh : w.ShapedOpen Tryd.prog) (hi : ItArg w i ra rn rc ta tn tc) (hg : bigI i = false) (hm : mayI i = true) :
    Calls Tryd.prog 5 #[.agg #[.string i.1, .slice ra rn rc, .slice ta tn tc], .int .i64 which] w fun e w' => e = .returned (.bool true) ∧ Below w.heap.size w w' := by
  have HSH := hide hsh
  have HI := hide hi
  have HM := hide hm
  have HFI := hide (bigI_fair hg)
  have HFN : Hid (i.1.size ≤ 100) := (bigI_not hg).1
  have HFT : Hid (i.2.2.length ≤ 30) := (bigI_not hg).2.2.2.1
  have HLT : Hid (i.2.2.length = tn) := hi.tree.len
  have HGI : Hid (greatI [i] = false) := by unfold greatI; simp [hg, Hid]
  have hrn : rn < 900000 := by have := (bigI_not hg).2.1; rw [hi.refs.len] at this; omega
  have htn : tn < 900000 := by have := (bigI_not hg).2.2.2.1; rw [hi.tree.len] at this; omega
  obtain ⟨W0, hW0⟩ : ∃ W0, W0 = w.alloc (.cells #[.string i.1, .slice ra rn rc, .slice ta tn tc] 25) := ⟨_, rfl⟩
  have HB0 : Hid (Below w.heap.size w W0) := by rw [hW0]; exact below_box _ _
  have a0 : W0.cell? ⟨w.heap.size, 0, none⟩ = some (.string i.1) := by rw [hW0]; simp
  have a1 : W0.cell? ⟨w.heap.size, 1, none⟩ = some (.slice ra rn rc) := by rw [hW0]; simp
  have a2 : W0.cell? ⟨w.heap.size, 2, none⟩ = some (.slice ta tn tc) := by rw [hW0]; simp
  have hsz0 : w.heap.size < W0.heap.size := by rw [hW0]; simp
  have HA : Hid (∀ W', Below W0.heap.size W0 W' → W'.cell? ⟨w.heap.size, 0, none⟩ = some (.string i.1) ∧ W'.cell? ⟨w.heap.size, 1, none⟩ = some (.slice ra rn rc) ∧ W'.cell? ⟨w.heap.size, 2, none⟩ = some (.slice ta tn tc)) := fun W' hb =>
    ⟨(hb.cell (p := ⟨w.heap.size, 0, none⟩) hsz0).trans a0, (hb.cell (p := ⟨w.heap.size, 1, none⟩) hsz0).trans a1, (hb.cell (p := ⟨w.heap.size, 2, none⟩) hsz0).trans a2⟩
  have HI0 := hide (hi.below HB0.out)
  have HIT := hide (Its.one (i := i) HI0.out.refs.txt HI0.out.tree.nods)
  have HLN : Hid (Lens [i]) := fun x hx => by
    simp at hx
    subst hx
    exact ⟨by rw [hi.refs.len]; exact hi.rlen, by rw [hi.tree.len]; exact hi.tlen⟩
  have HW0 := hide hW0.symm
  have hsz1 : W0.heap.size = w.heap.size + 1 := by rw [hW0]; simp
  rw [hsz1] at HIT
  clear hi hm hg hsh hW0
  go_enter Tryd.func5, Tryd.ntmps5
  go_wp2_with fail
  rw [HW0.out]
  refine (greatI_ok _ [i] false _ HIT.out (by unfold maxLen; simp) HLN.out HGI.out).mono ?_
  rintro e w1 ⟨rfl, rfl⟩
  have HB1 := hide (below_box W0 (.cells #[.string i.1, .slice ra rn rc, .slice ta tn tc] 25))
  obtain ⟨W1, hW1⟩ : ∃ W1, W1 = W0.alloc (.cells #[.string i.1, .slice ra rn rc, .slice ta tn tc] 25) := ⟨_, rfl⟩
  rw [← hW1] at HB1 ⊢
  obtain ⟨b0, b1, b2⟩ := HA.out W1 HB1.out
  have HWB1 := hide (below_two HB0.out HB1.out)
  clear hW1 a0 a1 a2 HIT
  go_wp2_with fail
  refine (mayI_ok i ra rn rc ta tn tc true w W1 ⟨HSH.out, HWB1.out⟩ HFI.out (HI.out.below HWB1.out).refs.txt (HI.out.below HWB1.out).tree.nods HM.out).mono ?_
  rintro e w2 ⟨rfl, ok2, hb2⟩
  have HB2 := hide (below_two HB1.out hb2)
  have HWB2 := hide ok2.2
  clear hb2 ok2 b0 b1 b2 HB1 HWB1
  obtain ⟨b0, b1, b2⟩ := HA.out w2 HB2.out
  go_wp2_with fail
  refine (ownI_ok i.1 i.2.1 i.2.2 ra rn rc ta tn tc w2 (HI.out.below HWB2.out).refs (HI.out.below HWB2.out).tree hrn htn).mono ?_
  rintro e w3 ⟨ra', rc', ta', tc', base, rfl, ho3, hn3, hbs, hbe, hbk, hb3⟩
  have HO3 := hide ho3
  have HN3 := hide hn3
  have HB3 := hide (below_two HB2.out hb3)
  have hw02 : W0.heap.size ≤ w2.heap.size := HB2.out.size
  have hw2 : w.heap.size ≤ w2.heap.size := HWB2.out.size
  have HWB3 := hide (below_two HWB2.out hb3)
  clear ho3 hn3 hb3 b0 b1 b2 HB2
  go_wp2_with fail
  refine (low_any which 6 _ (by decide) (by decide)).mono ?_
  rintro e w4 ⟨r, rfl, hr6, rfl⟩
  obtain ⟨W4, hW4⟩ : ∃ W4, W4 = w3.alloc (.cells #[.string i.1, .slice ra' rn rc', .slice ta' tn tc'] 25) := ⟨_, rfl⟩
  rw [← hW4]
  have HBX : Hid (W4.heap[w3.heap.size]? = some (.cells #[.string i.1, .slice ra' rn rc', .slice ta' tn tc'] 25)) := by rw [hW4]; exact heap_alloc_new w3 _
  have HB34 : Hid (Below w3.heap.size w3 W4) := by rw [hW4]; exact below_box _ _
  have hsz4 : W4.heap.size = w3.heap.size + 1 := by rw [hW4]; simp
  obtain ⟨c0, c1, c2⟩ := box_cells HBX.out
  have z0 := box_free HBX.out 0
  have z1 := box_free HBX.out 1
  have z2 := box_free HBX.out 2
  have hw03 : W0.heap.size ≤ w3.heap.size := HB3.out.size
  have hw3 : w.heap.size ≤ w3.heap.size := HWB3.out.size
  have HSZ4 := hide hsz4
  have hlt4 : w3.heap.size < W4.heap.size := by omega
  clear hW4 hsz4
  by_cases r0 : r = 0
  · have e0 : ((r : Int) == 0) = true := by rw [r0]; rfl
    have hnm : i.1.size ≤ 100 := HFN.out
    have HMJ := hide (edge_name HM.out)
    have FJ : Hid (Fair (i.1 ++ ⟨#[47]⟩, i.2.1, i.2.2)) := ⟨by show (i.1 ++ ⟨#[47]⟩).size < 900000; rw [Hog.size_len, app_data, List.length_append, ← Hog.size_len]; have := HFN.out; simp; omega, HFI.out.refs, HFI.out.ref, HFI.out.tree, HFI.out.path⟩
    have HBX5 := hide (box_set HBX.out 0 (.string (i.1 ++ ⟨#[47]⟩)))
    have HB35 := hide (HB34.out.setCell (p := ⟨w3.heap.size, 0, none⟩) (Nat.le_refl _) (.string (i.1 ++ ⟨#[47]⟩)))
    have HTJ := hide (HO3.out.txt.below HB35.out)
    have HNJ := hide (HN3.out.nods.below HB35.out)
    have HB5 := hide (HB3.out.trans (HB35.out.mono hw03))
    have HWB5 := hide (HWB3.out.trans (HB35.out.mono hw3))
    obtain ⟨y0, y1, y2⟩ := box_cells HBX5.out
    clear HB35
    go_wp2_with fail
    obtain ⟨W5, hW5⟩ : ∃ W5, W5 = W4.setCell ⟨w3.heap.size, 0, none⟩ (.string (i.1 ++ ⟨#[47]⟩)) := ⟨_, rfl⟩
    rw [← hW5] at HBX5 HTJ HNJ HB5 HWB5 ⊢
    obtain ⟨d0, d1, d2⟩ := box_cells HBX5.out
    have hg5 : w3.heap.size < W5.heap.size := (Array.getElem?_eq_some_iff.1 HBX5.out).1
    clear hW5 y0 y1 y2 c0 c1 c2 z0 z1 z2
    refine (mayI3_ok _ _ _ ra' rn rc' ta' tn tc' false w W5 ⟨HSH.out, HWB5.out⟩ FJ.out HTJ.out HNJ.out HMJ.out).mono ?_
    rintro e w6 ⟨rfl, ok6, hb6⟩
    have HWB6 := hide ok6.2
    have HTJ6 := hide (HTJ.out.below hb6)
    have HNJ6 := hide (HNJ.out.below hb6)
    have x0 := (hb6.cell (p := ⟨w3.heap.size, 0, none⟩) hg5).trans d0
    have x1 := (hb6.cell (p := ⟨w3.heap.size, 1, none⟩) hg5).trans d1
    have x2 := (hb6.cell (p := ⟨w3.heap.size, 2, none⟩) hg5).trans d2
    obtain ⟨b0, b1, b2⟩ := HA.out w6 (below_two HB5.out hb6)
    clear hb6 ok6 d0 d1 d2 HTJ HNJ HWB5 HB5
    go_wp2_with fail
    refine (sameI3_ok i _ _ _ ra rn rc ta tn tc ra' rn rc' ta' tn tc' false w6 (HI.out.below HWB6.out).refs.txt (HI.out.below HWB6.out).tree.nods HTJ6.out HNJ6.out (by have := HFI.out.refs; omega) (by have := HFI.out.tree; omega) (edge_unlike HM.out HMJ.out)).mono ?_
    rintro e w7 ⟨rfl, hb7⟩
    have HWB7 := hide (below_two HWB6.out hb7)
    clear hb7 x0 x1 x2 b0 b1 b2 HTJ6 HNJ6 HWB6
    go_wp2_with fail
    refine (awake7_ok w w7 ⟨HSH.out, HWB7.out⟩).mono ?_
    rintro e w8 ⟨rfl, ok8, _⟩
    go_wp2
    go_ret
    exact ⟨rfl, ok8.2⟩
  have e0 : ((r : Int) == 0) = false := by rw [beq_eq_false_iff_ne]; omega
  by_cases r1 : r = 1
  · have e1 : ((r : Int) == 1) = true := by rw [r1]; rfl
    have HMJ := hide (edge_twice HM.out)
    have FJ : Hid (Fair (i.1, [i.1, i.1], i.2.2)) := ⟨HFI.out.name, by simp, fun x hx => by simp at hx; subst hx; exact HFI.out.name, HFI.out.tree, HFI.out.path⟩
    have HBX5 := hide (box_old (box_set HBX.out 1 (.slice (some ⟨W4.heap.size, 0, none⟩) 2 2)) (.cells #[.string i.1, .string i.1] 9))
    have HB35 := hide ((HB34.out.setCell (p := ⟨w3.heap.size, 1, none⟩) (Nat.le_refl _) (.slice (some ⟨W4.heap.size, 0, none⟩) 2 2)).alloc (by rw [size_set, HSZ4.out]; omega) (.cells #[.string i.1, .string i.1] 9))
    have HTJ := hide (Txt.two_set W4 ⟨w3.heap.size, 1, none⟩ (.slice (some ⟨W4.heap.size, 0, none⟩) 2 2) i.1 i.1)
    have HNJ := hide (HN3.out.nods.below HB35.out)
    have HB5 := hide (HB3.out.trans (HB35.out.mono hw03))
    have HWB5 := hide (HWB3.out.trans (HB35.out.mono hw3))
    obtain ⟨y0, y1, y2⟩ := box_cells HBX5.out
    clear HB35
    go_wp2_with fail
    obtain ⟨W5, hW5⟩ : ∃ W5, W5 = (W4.setCell ⟨w3.heap.size, 1, none⟩ (.slice (some ⟨W4.heap.size, 0, none⟩) 2 2)).alloc (.cells #[.string i.1, .string i.1] 9) := ⟨_, rfl⟩
    rw [← hW5] at HBX5 HTJ HNJ HB5 HWB5 ⊢
    obtain ⟨d0, d1, d2⟩ := box_cells HBX5.out
    have hg5 : w3.heap.size < W5.heap.size := (Array.getElem?_eq_some_iff.1 HBX5.out).1
    clear hW5 y0 y1 y2 c0 c1 c2 z0 z1 z2
    refine (mayI3_ok _ _ _ (some ⟨W4.heap.size, 0, none⟩) 2 2 ta' tn tc' false w W5 ⟨HSH.out, HWB5.out⟩ FJ.out HTJ.out HNJ.out HMJ.out).mono ?_
    rintro e w6 ⟨rfl, ok6, hb6⟩
    have HWB6 := hide ok6.2
    have HTJ6 := hide (HTJ.out.below hb6)
    have HNJ6 := hide (HNJ.out.below hb6)
    have x0 := (hb6.cell (p := ⟨w3.heap.size, 0, none⟩) hg5).trans d0
    have x1 := (hb6.cell (p := ⟨w3.heap.size, 1, none⟩) hg5).trans d1
    have x2 := (hb6.cell (p := ⟨w3.heap.size, 2, none⟩) hg5).trans d2
    obtain ⟨b0, b1, b2⟩ := HA.out w6 (below_two HB5.out hb6)
    clear hb6 ok6 d0 d1 d2 HTJ HNJ HWB5 HB5
    go_wp2_with fail
    refine (sameI3_ok i _ _ _ ra rn rc ta tn tc (some ⟨W4.heap.size, 0, none⟩) 2 2 ta' tn tc' false w6 (HI.out.below HWB6.out).refs.txt (HI.out.below HWB6.out).tree.nods HTJ6.out HNJ6.out (by have := HFI.out.refs; omega) (by have := HFI.out.tree; omega) (edge_unlike HM.out HMJ.out)).mono ?_
    rintro e w7 ⟨rfl, hb7⟩
    have HWB7 := hide (below_two HWB6.out hb7)
    clear hb7 x0 x1 x2 b0 b1 b2 HTJ6 HNJ6 HWB6
    go_wp2_with fail
    refine (awake7_ok w w7 ⟨HSH.out, HWB7.out⟩).mono ?_
    rintro e w8 ⟨rfl, ok8, _⟩
    go_wp2
    go_ret
    exact ⟨rfl, ok8.2⟩
  have e1 : ((r : Int) == 1) = false := by rw [beq_eq_false_iff_ne]; omega
  by_cases r2 : r = 2
  · have e2 : ((r : Int) == 2) = true := by rw [r2]; rfl
    have HMJ := hide (edge_order (i := i))
    have FJ : Hid (Fair (i.1, [⟨#[49, 49, 50, 51, 52, 53, 54, 97, 45, 120]⟩, ⟨#[48, 49, 50, 51, 52, 53, 54, 97, 45, 120]⟩], i.2.2)) := ⟨HFI.out.name, by simp, fun x hx => by simp at hx; rcases hx with rfl | rfl <;> decide, HFI.out.tree, HFI.out.path⟩
    have HBX5 := hide (box_old (box_set HBX.out 1 (.slice (some ⟨W4.heap.size, 0, none⟩) 2 2)) (.cells #[.string ⟨#[49, 49, 50, 51, 52, 53, 54, 97, 45, 120]⟩, .string ⟨#[48, 49, 50, 51, 52, 53, 54, 97, 45, 120]⟩] 9))
    have HB35 := hide ((HB34.out.setCell (p := ⟨w3.heap.size, 1, none⟩) (Nat.le_refl _) (.slice (some ⟨W4.heap.size, 0, none⟩) 2 2)).alloc (by rw [size_set, HSZ4.out]; omega) (.cells #[.string ⟨#[49, 49, 50, 51, 52, 53, 54, 97, 45, 120]⟩, .string ⟨#[48, 49, 50, 51, 52, 53, 54, 97, 45, 120]⟩] 9))
    have HTJ := hide (Txt.two_set W4 ⟨w3.heap.size, 1, none⟩ (.slice (some ⟨W4.heap.size, 0, none⟩) 2 2) ⟨#[49, 49, 50, 51, 52, 53, 54, 97, 45, 120]⟩ ⟨#[48, 49, 50, 51, 52, 53, 54, 97, 45, 120]⟩)
    have HNJ := hide (HN3.out.nods.below HB35.out)
    have HB5 := hide (HB3.out.trans (HB35.out.mono hw03))
    have HWB5 := hide (HWB3.out.trans (HB35.out.mono hw3))
    obtain ⟨y0, y1, y2⟩ := box_cells HBX5.out
    clear HB35
    go_wp2_with fail
    obtain ⟨W5, hW5⟩ : ∃ W5, W5 = (W4.setCell ⟨w3.heap.size, 1, none⟩ (.slice (some ⟨W4.heap.size, 0, none⟩) 2 2)).alloc (.cells #[.string ⟨#[49, 49, 50, 51, 52, 53, 54, 97, 45, 120]⟩, .string ⟨#[48, 49, 50, 51, 52, 53, 54, 97, 45, 120]⟩] 9) := ⟨_, rfl⟩
    rw [← hW5] at HBX5 HTJ HNJ HB5 HWB5 ⊢
    obtain ⟨d0, d1, d2⟩ := box_cells HBX5.out
    have hg5 : w3.heap.size < W5.heap.size := (Array.getElem?_eq_some_iff.1 HBX5.out).1
    clear hW5 y0 y1 y2 c0 c1 c2 z0 z1 z2
    refine (mayI3_ok _ _ _ (some ⟨W4.heap.size, 0, none⟩) 2 2 ta' tn tc' false w W5 ⟨HSH.out, HWB5.out⟩ FJ.out HTJ.out HNJ.out HMJ.out).mono ?_
    rintro e w6 ⟨rfl, ok6, hb6⟩
    have HWB6 := hide ok6.2
    have HTJ6 := hide (HTJ.out.below hb6)
    have HNJ6 := hide (HNJ.out.below hb6)
    have x0 := (hb6.cell (p := ⟨w3.heap.size, 0, none⟩) hg5).trans d0
    have x1 := (hb6.cell (p := ⟨w3.heap.size, 1, none⟩) hg5).trans d1
    have x2 := (hb6.cell (p := ⟨w3.heap.size, 2, none⟩) hg5).trans d2
    obtain ⟨b0, b1, b2⟩ := HA.out w6 (below_two HB5.out hb6)
    clear hb6 ok6 d0 d1 d2 HTJ HNJ HWB5 HB5
    go_wp2_with fail
    refine (sameI3_ok i _ _ _ ra rn rc ta tn tc (some ⟨W4.heap.size, 0, none⟩) 2 2 ta' tn tc' false w6 (HI.out.below HWB6.out).refs.txt (HI.out.below HWB6.out).tree.nods HTJ6.out HNJ6.out (by have := HFI.out.refs; omega) (by have := HFI.out.tree; omega) (edge_unlike HM.out HMJ.out)).mono ?_
    rintro e w7 ⟨rfl, hb7⟩
    have HWB7 := hide (below_two HWB6.out hb7)
    clear hb7 x0 x1 x2 b0 b1 b2 HTJ6 HNJ6 HWB6
    go_wp2_with fail
    refine (awake7_ok w w7 ⟨HSH.out, HWB7.out⟩).mono ?_
    rintro e w8 ⟨rfl, ok8, _⟩
    go_wp2
    go_ret
    exact ⟨rfl, ok8.2⟩
  have e2 : ((r : Int) == 2) = false := by rw [beq_eq_false_iff_ne]; omega
  by_cases r3 : r = 3
  · have e3 : ((r : Int) == 3) = true := by rw [r3]; rfl
    have HMJ := hide (edge_none (i := i))
    have FJ : Hid (Fair (i.1, i.2.1, [])) := ⟨HFI.out.name, HFI.out.refs, HFI.out.ref, by simp, fun x hx => by simp at hx⟩
    have HBX5 := hide (box_set HBX.out 2 (.slice none 0 0))
    have HB35 := hide (HB34.out.setCell (p := ⟨w3.heap.size, 2, none⟩) (Nat.le_refl _) (.slice none 0 0))
    have HTJ := hide (HO3.out.txt.below HB35.out)
    have HNJ := hide (Nods.nil (W4.setCell ⟨w3.heap.size, 2, none⟩ (.slice none 0 0)) none 0)
    have HB5 := hide (HB3.out.trans (HB35.out.mono hw03))
    have HWB5 := hide (HWB3.out.trans (HB35.out.mono hw3))
    obtain ⟨y0, y1, y2⟩ := box_cells HBX5.out
    clear HB35
    go_wp2_with fail
    obtain ⟨W5, hW5⟩ : ∃ W5, W5 = W4.setCell ⟨w3.heap.size, 2, none⟩ (.slice none 0 0) := ⟨_, rfl⟩
    rw [← hW5] at HBX5 HTJ HNJ HB5 HWB5 ⊢
    obtain ⟨d0, d1, d2⟩ := box_cells HBX5.out
    have hg5 : w3.heap.size < W5.heap.size := (Array.getElem?_eq_some_iff.1 HBX5.out).1
    clear hW5 y0 y1 y2 c0 c1 c2 z0 z1 z2
    refine (mayI3_ok _ _ _ ra' rn rc' none 0 0 false w W5 ⟨HSH.out, HWB5.out⟩ FJ.out HTJ.out HNJ.out HMJ.out).mono ?_
    rintro e w6 ⟨rfl, ok6, hb6⟩
    have HWB6 := hide ok6.2
    have HTJ6 := hide (HTJ.out.below hb6)
    have HNJ6 := hide (HNJ.out.below hb6)
    have x0 := (hb6.cell (p := ⟨w3.heap.size, 0, none⟩) hg5).trans d0
    have x1 := (hb6.cell (p := ⟨w3.heap.size, 1, none⟩) hg5).trans d1
    have x2 := (hb6.cell (p := ⟨w3.heap.size, 2, none⟩) hg5).trans d2
    obtain ⟨b0, b1, b2⟩ := HA.out w6 (below_two HB5.out hb6)
    clear hb6 ok6 d0 d1 d2 HTJ HNJ HWB5 HB5
    go_wp2_with fail
    refine (sameI3_ok i _ _ _ ra rn rc ta tn tc ra' rn rc' none 0 0 false w6 (HI.out.below HWB6.out).refs.txt (HI.out.below HWB6.out).tree.nods HTJ6.out HNJ6.out (by have := HFI.out.refs; omega) (by have := HFI.out.tree; omega) (edge_unlike HM.out HMJ.out)).mono ?_
    rintro e w7 ⟨rfl, hb7⟩
    have HWB7 := hide (below_two HWB6.out hb7)
    clear hb7 x0 x1 x2 b0 b1 b2 HTJ6 HNJ6 HWB6
    go_wp2_with fail
    refine (awake7_ok w w7 ⟨HSH.out, HWB7.out⟩).mono ?_
    rintro e w8 ⟨rfl, ok8, _⟩
    go_wp2
    go_ret
    exact ⟨rfl, ok8.2⟩
  have e3 : ((r : Int) == 3) = false := by rw [beq_eq_false_iff_ne]; omega
  by_cases r4 : r = 4
  · have e4 : ((r : Int) == 4) = true := by rw [r4]; rfl
    have HMJ := hide (edge_root HM.out)
    have FJ : Hid (Fair (i.1, i.2.1, i.2.2 ++ [(⟨#[]⟩, 2, ⟨#[]⟩)])) := ⟨HFI.out.name, HFI.out.refs, HFI.out.ref, by have := HFT.out; rw [List.length_append]; simp; omega, fun x hx => by
      rcases List.mem_append.1 hx with k | k
      · exact HFI.out.path x k
      · simp at k; subst k; decide⟩
    have HNA := hide ((HN3.out.below HB34.out).alloc (.cells #[.string ⟨#[]⟩, .int .i64 2, .string ⟨#[]⟩] 44))
    have HOA := hide ((HO3.out.below HB34.out).alloc (.cells #[.string ⟨#[]⟩, .int .i64 2, .string ⟨#[]⟩] 44))
    have HAR := hide ((Run.one W4 (⟨#[]⟩, 2, ⟨#[]⟩)).arg (c := 1) (by simp))
    have HB4A := hide (below_two HB34.out (below_box W4 (.cells #[.string ⟨#[]⟩, .int .i64 2, .string ⟨#[]⟩] 44)))
    have HBXA := hide (box_old HBX.out (.cells #[.string ⟨#[]⟩, .int .i64 2, .string ⟨#[]⟩] 44))
    have hT : ∀ k, (Value.slice ta' tn tc').ownBlock = some k → base ≤ k ∧ k < w3.heap.size := HN3.out.lt
    have hR : ∀ k, (Value.slice ra' rn rc').ownBlock = some k → k < w3.heap.size := fun k hk => (HO3.out.lt k hk).2
    have HT := hide hT
    have HRR := hide hR
    clear hT hR
    go_wp2_with (at_builtin; refine wpList_append_where rfl _ _ rfl base _ i.2.2 rfl HNA.out _ _ _ [(⟨#[]⟩, 2, ⟨#[]⟩)] rfl HAR.out ?f1 ?f2 ?_)
    case f1 => have := HFT.out; simp; omega
    case f2 => have := HB4A.out.size; omega
    intro b6 c6 w6 ho6 hg6 hst6
    rw [HLT.out] at ho6 hst6 ⊢
    have HBX6 : Hid (w6.heap[w3.heap.size]? = some (.cells #[.string i.1, .slice ra' rn rc', .slice ta' tn tc'] 25)) := by
      rw [hg6.block w3.heap.size (Array.getElem?_eq_some_iff.1 HBXA.out).1 (fun e => by have := (HT.out _ e.symm).2; omega)]
      exact HBXA.out
    have hb6 : Below base w3 w6 := (HB4A.out.mono hbe).trans (HNA.out.grownBelow hg6 (by have := HB4A.out.size; omega))
    have hO6 : Own w2.heap.size w6 (.slice ra' rn rc') i.2.1 := World.ownsRow.kept HOA.out hg6 (by
      cases hk : (Value.slice ra' rn rc').ownBlock with
      | none => exact .inl rfl
      | some k => exact .inr fun e => by have h1 := hbk k hk; have h2 := (HT.out k e.symm).1; omega)
    have hO5 : Own w2.heap.size (w6.setCell ⟨w3.heap.size, 2, none⟩ (.slice b6 (tn + 1) c6)) (.slice ra' rn rc') i.2.1 := World.ownsRow.kept hO6 (grown_setCell w6 w3.heap.size 2 _) (.inr fun e => by have := HRR.out _ e; omega)
    have hN5 : OwnN base (w6.setCell ⟨w3.heap.size, 2, none⟩ (.slice b6 (tn + 1) c6)) (.slice b6 (tn + 1) c6) (i.2.2 ++ [(⟨#[]⟩, 2, ⟨#[]⟩)]) := World.ownsRow.kept ho6 (grown_setCell w6 w3.heap.size 2 _) (.inr fun e => by
      rcases hst6 with h1 | ⟨k, h1, h2⟩
      · rw [e] at h1
        have := (HT.out _ h1.symm).2
        omega
      · rw [e] at h1
        have h3 := HB4A.out.size
        have h4 : (W4.alloc (.cells #[.string ⟨#[]⟩, .int .i64 2, .string ⟨#[]⟩] 44)).heap.size = W4.heap.size + 1 := by simp
        rw [h4] at h2
        have := Option.some.inj h1
        omega)
    have HBX5 := hide (box_set HBX6.out 2 (.slice b6 (tn + 1) c6))
    have HB35 := hide (hb6.setCell (p := ⟨w3.heap.size, 2, none⟩) hbe (.slice b6 (tn + 1) c6))
    have HTJ := hide hO5.txt
    have HNJ := hide hN5.nods
    have HB5 := hide (HB3.out.trans (HB35.out.mono (show W0.heap.size ≤ base by omega)))
    have HWB5 := hide (HWB3.out.trans (HB35.out.mono (show w.heap.size ≤ base by omega)))
    obtain ⟨y0, y1, y2⟩ := box_cells HBX5.out
    obtain ⟨v0, v1, v2⟩ := box_cells HBX6.out
    have z6 := box_free HBX6.out 2
    clear HB35 ho6 hg6 hst6 hb6 hO6 hO5 hN5 c0 c1 c2 z0 z1 z2
    go_wp2_with fail
    obtain ⟨W5, hW5⟩ : ∃ W5, W5 = w6.setCell ⟨w3.heap.size, 2, none⟩ (.slice b6 (tn + 1) c6) := ⟨_, rfl⟩
    rw [← hW5] at HBX5 HTJ HNJ HB5 HWB5 ⊢
    obtain ⟨d0, d1, d2⟩ := box_cells HBX5.out
    have hg5 : w3.heap.size < W5.heap.size := (Array.getElem?_eq_some_iff.1 HBX5.out).1
    clear hW5 y0 y1 y2 v0 v1 v2 z6
    refine (mayI3_ok _ _ _ ra' rn rc' b6 (tn + 1) c6 false w W5 ⟨HSH.out, HWB5.out⟩ FJ.out HTJ.out HNJ.out HMJ.out).mono ?_
    rintro e w6 ⟨rfl, ok6, hb6⟩
    have HWB6 := hide ok6.2
    have HTJ6 := hide (HTJ.out.below hb6)
    have HNJ6 := hide (HNJ.out.below hb6)
    have x0 := (hb6.cell (p := ⟨w3.heap.size, 0, none⟩) hg5).trans d0
    have x1 := (hb6.cell (p := ⟨w3.heap.size, 1, none⟩) hg5).trans d1
    have x2 := (hb6.cell (p := ⟨w3.heap.size, 2, none⟩) hg5).trans d2
    obtain ⟨b0, b1, b2⟩ := HA.out w6 (below_two HB5.out hb6)
    clear hb6 ok6 d0 d1 d2 HTJ HNJ HWB5 HB5
    go_wp2_with fail
    refine (sameI3_ok i _ _ _ ra rn rc ta tn tc ra' rn rc' b6 (tn + 1) c6 false w6 (HI.out.below HWB6.out).refs.txt (HI.out.below HWB6.out).tree.nods HTJ6.out HNJ6.out (by have := HFI.out.refs; omega) (by have := HFI.out.tree; omega) (edge_unlike HM.out HMJ.out)).mono ?_
    rintro e w7 ⟨rfl, hb7⟩
    have HWB7 := hide (below_two HWB6.out hb7)
    clear hb7 x0 x1 x2 b0 b1 b2 HTJ6 HNJ6 HWB6
    go_wp2_with fail
    refine (awake7_ok w w7 ⟨HSH.out, HWB7.out⟩).mono ?_
    rintro e w8 ⟨rfl, ok8, _⟩
    go_wp2
    go_ret
    exact ⟨rfl, ok8.2⟩
  have e4 : ((r : Int) == 4) = false := by rw [beq_eq_false_iff_ne]; omega
  have HN0 := hide (OwnN.one_set W4 ⟨w3.heap.size, 2, none⟩ (.slice (some ⟨W4.heap.size, 0, none⟩) 1 1) (⟨#[]⟩, 1, ⟨#[]⟩) (w3.heap.size + 1) (by rw [HSZ4.out]; exact Nat.le_refl _))
  have HBX0 := hide (box_old (box_set HBX.out 2 (.slice (some ⟨W4.heap.size, 0, none⟩) 1 1)) (.cells #[.string ⟨#[]⟩, .int .i64 1, .string ⟨#[]⟩] 44))
  have HB30 := hide ((HB34.out.setCell (p := ⟨w3.heap.size, 2, none⟩) (Nat.le_refl _) (.slice (some ⟨W4.heap.size, 0, none⟩) 1 1)).alloc (by rw [size_set, HSZ4.out]; omega) (.cells #[.string ⟨#[]⟩, .int .i64 1, .string ⟨#[]⟩] 44))
  go_wp2
  go_loopw [6] (fun q wr => ∃ (k n : Nat) (ns : List Nd) (b : Option Addr) (d : Nat), k ≤ 24 ∧ q = .int .i64 k ∧ Hid (n = k + 1) ∧ Hid (ns.length = n) ∧ Hid (∀ x ∈ ns, x.1.size ≤ 1 ∧ x.2.2.size ≤ 1) ∧ Hid (wr.heap[w3.heap.size]? = some (.cells #[.string i.1, .slice ra' rn rc', .slice b n d] 25)) ∧ Hid (OwnN (w3.heap.size + 1) wr (.slice b n d) ns) ∧ Hid (Below w3.heap.size w3 wr)) (fun q _ => 24 - (intOf q).toNat)
  case atStart => exact ⟨0, 1, [(⟨#[]⟩, 1, ⟨#[]⟩)], some ⟨W4.heap.size, 0, none⟩, 1, by omega, rfl, rfl, rfl, fun x hx => by simp at hx; subst hx; decide, HBX0, HN0, HB30⟩
  case round =>
    clear HN0 HBX0 HB30 c0 c1 c2 z0 z1 z2
    obtain ⟨k, n, ns, b, d, hk, rfl, HKN, HNL, HSM, HBXR, HO, HBR⟩ := hrel
    obtain ⟨c0, c1, c2⟩ := box_cells HBXR.out
    have z2 := box_free HBXR.out 2
    have hgr : w3.heap.size < wr.heap.size := (Array.getElem?_eq_some_iff.1 HBXR.out).1
    by_cases hlt : k < 24
    · have hki : (k : Int) < 24 := by omega
      obtain ⟨y, hy⟩ : ∃ y : UInt8, y = UInt8.ofNat (97 + k) := ⟨_, rfl⟩
      have hcv : IntKind.u8.wrap (97 + (k : Int)) = (y.toNat : Int) := by
        rw [hy, UInt8.toNat_ofNat', Nat.mod_eq_of_lt (by omega), IntKind.wrap_u8]
        omega
      obtain ⟨s, hs⟩ : ∃ s, s = Hog.mk [y] := ⟨_, rfl⟩
      have hstr := str_bytes (ArgB.one wr y _ rfl)
      rw [← hs] at hstr
      have HSS : Hid (s.size ≤ 1) := by rw [hs, Hog.mk_size]; exact Nat.le_refl _
      have HNA := hide ((HO.out.alloc (.cells #[.int .u8 y.toNat] 5)).alloc (.cells #[.string s, .int .i64 2, .string ⟨#[]⟩] 44))
      have HAR := hide ((Run.one (wr.alloc (.cells #[.int .u8 y.toNat] 5)) (s, 2, ⟨#[]⟩)).arg (c := 1) (by simp))
      rw [show (wr.alloc (.cells #[.int .u8 y.toNat] 5)).heap.size = wr.heap.size + 1 by simp] at HAR
      have HBA := hide (below_two HBR.out (below_two (below_box wr (.cells #[.int .u8 y.toNat] 5)) (below_box _ (.cells #[.string s, .int .i64 2, .string ⟨#[]⟩] 44))))
      have HBXA := hide (box_old (box_old HBXR.out (.cells #[.int .u8 y.toNat] 5)) (.cells #[.string s, .int .i64 2, .string ⟨#[]⟩] 44))
      have HT := hide (show ∀ j, (Value.slice b n d).ownBlock = some j → w3.heap.size + 1 ≤ j from fun j hj => (HO.out.lt j hj).1)
      clear hy hs
      go_wp2_with (at_builtin; refine wpList_append_where rfl _ _ rfl (w3.heap.size + 1) _ ns rfl HNA.out _ _ _ [(s, 2, ⟨#[]⟩)] rfl HAR.out ?g1 ?g2 ?_)
      case g1 => rw [HNL.out, HKN.out]; try simp
                 omega
      case g2 => try simp
                 omega
      intro b6 c6 w6 ho6 hg6 hst6
      rw [HNL.out] at ho6 hst6 ⊢
      have HBX6 : Hid (w6.heap[w3.heap.size]? = some (.cells #[.string i.1, .slice ra' rn rc', .slice b n d] 25)) := by
        rw [hg6.block w3.heap.size (Array.getElem?_eq_some_iff.1 HBXA.out).1 (fun e => by have := HT.out _ e.symm; omega)]
        exact HBXA.out
      have hb6 : Below w3.heap.size w3 w6 := HBA.out.trans ((HNA.out.grownBelow hg6 (by simp; omega)).mono (Nat.le_succ _))
      have HN6 : Hid (OwnN (w3.heap.size + 1) (w6.setCell ⟨w3.heap.size, 2, none⟩ (.slice b6 (n + 1) c6)) (.slice b6 (n + 1) c6) (ns ++ [(s, 2, ⟨#[]⟩)])) := World.ownsRow.kept ho6 (grown_setCell w6 w3.heap.size 2 _) (.inr fun e => by have h1 := (ho6.lt _ e).1; omega)
      have HBX7 := hide (box_set HBX6.out 2 (.slice b6 (n + 1) c6))
      have HB7 := hide (hb6.setCell (p := ⟨w3.heap.size, 2, none⟩) (Nat.le_refl _) (.slice b6 (n + 1) c6))
      obtain ⟨v0, v1, v2⟩ := box_cells HBX6.out
      have z6 := box_free HBX6.out 2
      clear ho6 hg6 hst6 hb6 c0 c1 c2 z2 hstr
      go_wp2
      go_roundw
      case rel =>
        refine ⟨k + 1, n + 1, ns ++ [(s, 2, ⟨#[]⟩)], b6, c6, by omega, by go_num, by rw [HKN.out]; exact hide rfl, by rw [List.length_append, HNL.out]; exact hide rfl, fun x hx => ?_, HBX7, HN6, HB7⟩
        rcases List.mem_append.1 hx with q | q
        · exact HSM.out x q
        · simp at q
          subst q
          exact ⟨HSS.out, Nat.zero_le 1⟩
      case measure => simp [intOf]; omega
    · have hk24 : (24 : Int) ≤ (k : Int) := by omega
      have hk' : k = 24 := by omega
      have HMJ := hide (edge_many (i := i) (t := ns) (by rw [HNL.out, HKN.out, hk']; omega))
      have FJ : Hid (Fair (i.1, i.2.1, ns)) := ⟨HFI.out.name, HFI.out.refs, HFI.out.ref, by rw [HNL.out, HKN.out]; omega, fun x hx => by have := HSM.out x hx; omega⟩
      have HBX5 := HBXR
      have HTJ := hide (HO3.out.txt.below HBR.out)
      have HNJ := hide HO.out.nods
      have HB5 := hide (HB3.out.trans (HBR.out.mono hw03))
      have HWB5 := hide (HWB3.out.trans (HBR.out.mono hw3))
      clear hk' HBXR
      go_wp2_with fail
      obtain ⟨W5, hW5⟩ : ∃ W5, W5 = wr := ⟨_, rfl⟩
      rw [← hW5] at HBX5 HTJ HNJ HB5 HWB5 ⊢
      obtain ⟨d0, d1, d2⟩ := box_cells HBX5.out
      have hg5 : w3.heap.size < W5.heap.size := (Array.getElem?_eq_some_iff.1 HBX5.out).1
      clear hW5 c0 c1 c2 z2
      refine (mayI3_ok _ _ _ ra' rn rc' b n d false w W5 ⟨HSH.out, HWB5.out⟩ FJ.out HTJ.out HNJ.out HMJ.out).mono ?_
      rintro e w6 ⟨rfl, ok6, hb6⟩
      have HWB6 := hide ok6.2
      have HTJ6 := hide (HTJ.out.below hb6)
      have HNJ6 := hide (HNJ.out.below hb6)
      have x0 := (hb6.cell (p := ⟨w3.heap.size, 0, none⟩) hg5).trans d0
      have x1 := (hb6.cell (p := ⟨w3.heap.size, 1, none⟩) hg5).trans d1
      have x2 := (hb6.cell (p := ⟨w3.heap.size, 2, none⟩) hg5).trans d2
      obtain ⟨b0, b1, b2⟩ := HA.out w6 (below_two HB5.out hb6)
      clear hb6 ok6 d0 d1 d2 HTJ HNJ HWB5 HB5
      go_wp2_with fail
      refine (sameI3_ok i _ _ _ ra rn rc ta tn tc ra' rn rc' b n d false w6 (HI.out.below HWB6.out).refs.txt (HI.out.below HWB6.out).tree.nods HTJ6.out HNJ6.out (by have := HFI.out.refs; omega) (by have := HFI.out.tree; omega) (edge_unlike HM.out HMJ.out)).mono ?_
      rintro e w7 ⟨rfl, hb7⟩
      have HWB7 := hide (below_two HWB6.out hb7)
      clear hb7 x0 x1 x2 b0 b1 b2 HTJ6 HNJ6 HWB6
      go_wp2_with fail
      refine (awake7_ok w w7 ⟨HSH.out, HWB7.out⟩).mono ?_
      rintro e w8 ⟨rfl, ok8, _⟩
      go_wp2
      go_ret
      exact ⟨rfl, ok8.2⟩

set_option maxRecDepth 100000 in
set_option maxHeartbeats 1000000 in
theorem edges_rest (i : It) (ra : Option Addr) (rn rc : Nat) (ta : Option Addr) (tn tc : Nat) (which : Int) (w : World) (hsh : w.ShapedOpen Tryd.prog) (hi : ItArg w i ra rn rc ta tn tc) (hg : bigI i = true ∨ mayI i = false) :
    Calls Tryd.prog 5 #[.agg #[.string i.1, .slice ra rn rc, .slice ta tn tc], .int .i64 which] w fun e w' => e = .returned (.bool true) ∧ Below w.heap.size w w' := by
  have HSH := hide hsh
  have HI := hide hi
  obtain ⟨W0, hW0⟩ : ∃ W0, W0 = w.alloc (.cells #[.string i.1, .slice ra rn rc, .slice ta tn tc] 25) := ⟨_, rfl⟩
  have HB0 : Hid (Below w.heap.size w W0) := by rw [hW0]; exact below_box _ _
  have a0 : W0.cell? ⟨w.heap.size, 0, none⟩ = some (.string i.1) := by rw [hW0]; simp
  have a1 : W0.cell? ⟨w.heap.size, 1, none⟩ = some (.slice ra rn rc) := by rw [hW0]; simp
  have a2 : W0.cell? ⟨w.heap.size, 2, none⟩ = some (.slice ta tn tc) := by rw [hW0]; simp
  have hsz0 : w.heap.size < W0.heap.size := by rw [hW0]; simp
  have HI0 := hide (hi.below HB0.out)
  have HIT := hide (Its.one (i := i) HI0.out.refs.txt HI0.out.tree.nods)
  have HLN : Hid (Lens [i]) := fun x hx => by
    simp at hx
    subst hx
    exact ⟨by rw [hi.refs.len]; exact hi.rlen, by rw [hi.tree.len]; exact hi.tlen⟩
  have HW0 := hide hW0.symm
  have hsz1 : W0.heap.size = w.heap.size + 1 := by rw [hW0]; simp
  rw [hsz1] at HIT
  have HB1 := hide (below_box W0 (.cells #[.string i.1, .slice ra rn rc, .slice ta tn tc] 25))
  have HWB1 := hide (below_two HB0.out HB1.out)
  clear hi hsh hW0
  cases hb : bigI i with
  | true =>
    have HGI : Hid (greatI [i] = true) := by unfold greatI; simp [hb, Hid]
    clear hb hg
    go_enter Tryd.func5, Tryd.ntmps5
    go_wp2_with fail
    rw [HW0.out]
    refine (greatI_ok _ [i] true _ HIT.out (by unfold maxLen; simp) HLN.out HGI.out).mono ?_
    rintro e w1 ⟨rfl, rfl⟩
    go_wp2_with fail
    refine (awake7_ok w _ ⟨HSH.out, HWB1.out⟩).mono ?_
    rintro e w8 ⟨rfl, ok8, _⟩
    go_wp2
    go_ret
    exact ⟨rfl, ok8.2⟩
  | false =>
    have HM : Hid (mayI i = false) := by
      rcases hg with h | h
      · rw [hb] at h; cases h
      · exact h
    have HFI := hide (bigI_fair hb)
    have HGI : Hid (greatI [i] = false) := by unfold greatI; simp [hb, Hid]
    clear hb hg
    go_enter Tryd.func5, Tryd.ntmps5
    go_wp2_with fail
    rw [HW0.out]
    refine (greatI_ok _ [i] false _ HIT.out (by unfold maxLen; simp) HLN.out HGI.out).mono ?_
    rintro e w1 ⟨rfl, rfl⟩
    obtain ⟨W1, hW1⟩ : ∃ W1, W1 = W0.alloc (.cells #[.string i.1, .slice ra rn rc, .slice ta tn tc] 25) := ⟨_, rfl⟩
    rw [← hW1] at HB1 HWB1 ⊢
    have b0 := (HB1.out.cell (p := ⟨w.heap.size, 0, none⟩) hsz0).trans a0
    have b1 := (HB1.out.cell (p := ⟨w.heap.size, 1, none⟩) hsz0).trans a1
    have b2 := (HB1.out.cell (p := ⟨w.heap.size, 2, none⟩) hsz0).trans a2
    clear hW1 a0 a1 a2 HIT
    go_wp2_with fail
    refine (mayI_ok i ra rn rc ta tn tc false w W1 ⟨HSH.out, HWB1.out⟩ HFI.out (HI.out.below HWB1.out).refs.txt (HI.out.below HWB1.out).tree.nods HM.out).mono ?_
    rintro e w2 ⟨rfl, ok2, _⟩
    clear b0 b1 b2
    go_wp2_with fail
    refine (awake7_ok w w2 ok2).mono ?_
    rintro e w8 ⟨rfl, ok8, _⟩
    go_wp2
    go_ret
    exact ⟨rfl, ok8.2⟩

theorem edges_walk (i : It) (ra : Option Addr) (rn rc : Nat) (ta : Option Addr) (tn tc : Nat) (which : Int) (w : World) (hsh : w.ShapedOpen Tryd.prog) (hi : ItArg w i ra rn rc ta tn tc) :
    Calls Tryd.prog 5 #[.agg #[.string i.1, .slice ra rn rc, .slice ta tn tc], .int .i64 which] w fun e w' => e = .returned (.bool true) ∧ Below w.heap.size w w' := by
  cases h1 : bigI i with
  | true => exact edges_rest i ra rn rc ta tn tc which w hsh hi (.inl h1)
  | false =>
    cases h2 : mayI i with
    | false => exact edges_rest i ra rn rc ta tn tc which w hsh hi (.inr h2)
    | true => exact edges_main i ra rn rc ta tn tc which w hsh hi h1 h2
end Go.Proofs.YtggojmimodpfaaaDoor
