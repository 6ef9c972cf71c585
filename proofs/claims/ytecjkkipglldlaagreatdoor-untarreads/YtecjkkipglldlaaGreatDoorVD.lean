/- The reader's methods entry and node. -/
import Derived.Test.YtecjkkipglldlaaGreatDoorJ22
namespace Go.Proofs.YtecjkkipglldlaaGreatDoor
open Go.RowKit

/-- What take tells: the bytes; whether there are so many; what is left. -/
def takeU (n : Nat) (l : List UInt8) : List UInt8 × Bool × List UInt8 := if n ≤ l.length then (l.take n, true, l.drop (min (Hog.fullN n) l.length)) else ([], false, l)
theorem utake_any (g n : Nat) (l x l' : List UInt8) (f : Bool) (w : World) (h : RdU w g l) (hl : l.length < 1000000000) (hv : takeU n l = (x, f, l')) :
    Calls Tryz.prog 62 #[.pointer (some ⟨g, 0, none⟩), .int .i64 n] w fun e w' => ∃ b m c, e = .returned (.tuple #[.slice b m c, .bool f]) ∧ ArgG w' g b m c x ∧ RdU w' g l' ∧ w.grownBy w' (some g) := by
  unfold takeU at hv
  by_cases hn : n ≤ l.length
  · rw [if_pos hn] at hv
    simp only [Prod.mk.injEq] at hv
    obtain ⟨hx, rfl, hl'⟩ := hv
    refine (utake_ok g n l x l' w h hl hn hx hl').mono ?_
    rintro e w' ⟨b, c, rfl, h1, h2, h3⟩
    exact ⟨b, n, c, rfl, h1, h2, h3⟩
  · rw [if_neg hn] at hv
    simp only [Prod.mk.injEq] at hv
    obtain ⟨rfl, rfl, rfl⟩ := hv
    refine (utake_out g n l w h (by omega)).mono ?_
    rintro e w' ⟨rfl, rfl⟩
    exact ⟨none, 0, 0, rfl, ArgG.nil _ _, h, grown_all (Below.refl _ _) _⟩
theorem take_head (l : List UInt8) : ∃ f, takeU 512 l = (Hog.headU l, f, Hog.restU l) := by
  unfold takeU Hog.headU Hog.restU
  by_cases h : 512 ≤ l.length
  · rw [if_pos h, if_pos h, if_pos h]; exact ⟨true, rfl⟩
  · rw [if_neg h, if_neg h, if_neg h]; exact ⟨false, rfl⟩
theorem take_body (l nm lk : List UInt8) (k sz : Int) (u : Hog.EntU) (h : Hog.bodyU l (some (nm, k, sz, lk)) = u) : takeU sz.toNat (Hog.restU l) = (u.data, u.ok, u.rest) ∧ u.name = nm ∧ u.kind = k ∧ u.link = lk := by
  subst h
  unfold Hog.bodyU takeU
  simp only []
  split <;> exact ⟨rfl, rfl, rfl, rfl⟩
theorem head_size {l nm lk : List UInt8} {k sz : Int} (h : Hog.readH l = some (nm, k, sz, lk)) : ∃ m : Nat, sz = (m : Int) ∧ m < 8589934592 := by
  have h1 := (Hog.read_sound h).1.size
  unfold Hog.octR at h1
  rw [decide_eq_true_eq] at h1
  obtain ⟨h2, _, _, h3⟩ := h1
  have : 8 ^ (11 : Int).toNat = 8589934592 := by decide
  exact ⟨sz.toNat, by omega, by omega⟩
theorem boxE_stored {w : World} {g : Nat} {nm : List UInt8} {k : Int} {lk d : List UInt8} (h : BoxE w g nm k lk d) (nm' : List UInt8) (k' : Int) (lk' d' : List UInt8) :
    BoxE ((((w.setCell ⟨g, 0, none⟩ (.string (Hog.mk nm'))).setCell ⟨g, 1, none⟩ (.int .i64 k')).setCell ⟨g, 2, none⟩ (.string (Hog.mk lk'))).setCell ⟨g, 3, none⟩ (.string (Hog.mk d'))) g nm' k' lk' d' := by
  unfold BoxE at *
  rw [heap_setCell_same _ g 3 _ _ _ (heap_setCell_same _ g 2 _ _ _ (heap_setCell_same _ g 1 _ _ _ (heap_setCell_same w g 0 _ _ _ h)))]
  rfl
theorem grown_stored4 {w w' : World} {g R : Nat} (h : w.grownBy w' (some g)) (hR : w.heap.size ≤ R) (a b c d : Value) :
    w.grownBy ((((w'.setCell ⟨R, 0, none⟩ a).setCell ⟨R, 1, none⟩ b).setCell ⟨R, 2, none⟩ c).setCell ⟨R, 3, none⟩ d) (some g) := by
  have k := grown_trans (grown_trans (grown_setCell w' R 0 a) (grown_setCell _ R 1 b)) (grown_trans (grown_setCell _ R 2 c) (grown_setCell _ R 3 d))
  exact ⟨k.os.trans h.os, k.tape.trans h.tape, k.output.trans h.output, Nat.le_trans h.size k.size, fun i hi hr => (k.block i (Nat.lt_of_lt_of_le hi h.size) (fun e => by cases e; omega)).trans (h.block i hi hr)⟩
theorem grown_row4 (w : World) (R : Nat) (a b c d : Value) : w.grownBy ((((w.setCell ⟨R, 0, none⟩ a).setCell ⟨R, 1, none⟩ b).setCell ⟨R, 2, none⟩ c).setCell ⟨R, 3, none⟩ d) (some R) :=
  grown_trans (grown_trans (grown_setCell w R 0 a) (grown_setCell _ R 1 b)) (grown_trans (grown_setCell _ R 2 c) (grown_setCell _ R 3 d))
theorem RdU.off {w w' : World} {g R : Nat} {l : List UInt8} (h : RdU w g l) (hR : g < R) (hg : w.grownBy w' (some R)) : RdU w' g l := by
  have hlt := h.lt
  obtain ⟨ao, n, c, hc, ha⟩ := h
  refine ⟨ao, n, c, by rw [hg.block g hlt (fun e => by cases e; omega)]; exact hc, ⟨⟨ha.arg.len, ha.arg.none, ha.arg.cap, fun ad e j u hu => ?_⟩, ha.low⟩⟩
  have h1 := ha.arg.cell ad e j u hu
  have hj := (List.getElem?_eq_some_iff.1 hu).1
  rw [bcells_len, ha.arg.len] at hj
  have h2 := ha.low ad e (by omega)
  obtain ⟨b, o, e2, _⟩ := ha.arg.plain (show 0 < n by omega)
  rw [e] at e2
  cases e2
  rw [addB_plain] at h1 ⊢
  have h3 : b < g := h2
  exact hg.cell h1 (fun e3 => by have e4 := Option.some.inj e3; simp at e4; omega)
theorem ok_grown {w0 w w' : World} {g : Nat} (h : Ok w0 w) (hg : w0.heap.size ≤ g) (k : w.grownBy w' (some g)) : Ok w0 w' :=
  h.step (below_grown k h.size (fun i e => by cases e; exact hg))

set_option maxRecDepth 100000 in
set_option maxHeartbeats 1000000 in
theorem eread_ok (g : Nat) (l : List UInt8) (u : Hog.EntU) (w0 w : World) (hok : Ok w0 w) (hg0 : w0.heap.size ≤ g) (h : RdU w g l) (hl : l.length < 1000000) (hu : Hog.entU l = u) :
    Calls Tryz.prog 45 #[.pointer (some ⟨g, 0, none⟩)] w fun e w' => e = .returned (.tuple #[evU u.name u.kind u.link u.data, .bool u.ok]) ∧ RdU w' g u.rest ∧ w.grownBy w' (some g) ∧ Ok w0 w' := by
  obtain ⟨f, hf⟩ := take_head l
  obtain ⟨hd, hhd⟩ : ∃ hd, Hog.headU l = hd := ⟨_, rfl⟩
  obtain ⟨rs, hrs⟩ : ∃ rs, Hog.restU l = rs := ⟨_, rfl⟩
  obtain ⟨r, hr⟩ : ∃ r, Hog.readH hd = r := ⟨_, rfl⟩
  rw [hhd, hrs] at hf
  have hrl : rs.length ≤ l.length := by rw [← hrs]; exact Hog.restU_le l
  obtain ⟨W, hW⟩ : ∃ W, W = w.alloc (.cells #[.string ⟨#[]⟩, .int .i64 0, .string ⟨#[]⟩, .string ⟨#[]⟩] 88) := ⟨_, rfl⟩
  have hbW : Below w.heap.size w W := by rw [hW]; exact below_box _ _
  have HBX : Hid (BoxE W w.heap.size [] 0 [] []) := by rw [hW]; exact hide (heap_alloc_new w _)
  have HRW := hide (h.below hbW)
  have HBW := hide hbW
  have hlt := h.lt
  have HU := hide hu
  have HF := hide hf
  have HHD := hide hhd
  have HRS := hide hrs
  have HR := hide hr
  have HOK := hide hok
  have HW : Hid (w.alloc (.cells #[.string ⟨#[]⟩, .int .i64 0, .string ⟨#[]⟩, .string ⟨#[]⟩] 88) = W) := hide hW.symm
  clear hok h hu hf hhd hrs hr hW hbW
  go_enter Tryz.func45, Tryz.ntmps45
  go_wp2_with fail
  rw [HW.out]
  refine (utake_any g 512 l hd rs f W HRW.out (by omega) HF.out).mono ?_
  rintro e w1 ⟨b1, m1, c1, rfl, ha1, hr1, hg1⟩
  have HA1 := hide ha1
  have HR1 := hide hr1
  have HG1 := hide (grown_trans (grown_all HBW.out (some g)) hg1)
  have HX1 := hide (HBX.out.grown hg1 (by intro e; cases e; omega))
  have HOK1 := hide (ok_grown HOK.out hg0 HG1.out)
  clear ha1 hr1 hg1 HRW HBX HBW
  go_wp2_with fail
  refine (read_ok b1 m1 c1 hd r w0 w1 HOK1.out HA1.out.arg HR.out).mono ?_
  rintro e w2 ⟨he, ok2, hb2⟩
  have HR2 := hide (HR1.out.below hb2)
  have HG2 := hide (grown_trans HG1.out (grown_all hb2 _))
  have HX2 := hide (HX1.out.below hb2)
  have HOK2 := hide ok2
  clear ok2 hb2 HA1 HR1 HG1 HX1 HOK1
  rcases r with _ | ⟨nm, k, sz, lk⟩
  · have HUU : Hid (u = ⟨[], 0, [], [], false, rs⟩) := by
      rw [← HU.out]
      unfold Hog.entU
      rw [HHD.out, HR.out]
      unfold Hog.bodyU
      rw [HRS.out]
      exact hide rfl
    simp only [outR] at he
    subst he
    obtain ⟨⟨x0, x1, x2, x3⟩, ⟨y0, y1, y2, y3⟩, hxl⟩ := HX2.out.facts
    have HEND : Hid (∀ W', W' = ((((w2.setCell ⟨w.heap.size, 0, none⟩ (.string (Hog.mk []))).setCell ⟨w.heap.size, 1, none⟩ (.int .i64 0)).setCell ⟨w.heap.size, 2, none⟩ (.string (Hog.mk []))).setCell ⟨w.heap.size, 3, none⟩ (.string (Hog.mk []))) → RdU W' g rs ∧ w.grownBy W' (some g) ∧ Ok w0 W') := by
      refine hide fun W' hW' => ?_
      have hk := grown_stored4 HG2.out (Nat.le_refl w.heap.size) (.string (Hog.mk [])) (.int .i64 0) (.string (Hog.mk [])) (.string (Hog.mk []))
      rw [hW']
      exact ⟨HR2.out.off hlt (grown_row4 _ _ _ _ _ _), hk, ok_grown HOK.out hg0 hk⟩
    go_wp2
    refine bodyPost_ret (results_row_tmp rfl _ _ w.heap.size 88 _ (0, 0) _ rfl (boxE_stored HX2.out [] 0 [] []) struct_entryU rfl size_of_entryU) rfl ?_
    rw [HUU.out]
    exact ⟨rfl, HEND.out _ rfl⟩
  · obtain ⟨m, rfl, hm⟩ := head_size HR.out
    obtain ⟨htk, hnm, hkk, hlk⟩ := take_body l nm lk k m u (by rw [← HU.out]; unfold Hog.entU; rw [HHD.out, HR.out])
    obtain ⟨nm', k', lk', d, f', rs'⟩ := u
    simp only at hnm hkk hlk htk
    subst hnm hkk hlk
    rw [HRS.out, Int.toNat_natCast] at htk
    have HTK := hide htk
    simp only [outR] at he
    subst he
    clear htk HU
    go_wp2_with fail
    refine (utake_any g m rs d rs' f' w2 HR2.out (by omega) HTK.out).mono ?_
    rintro e w3 ⟨b3, m3, c3, rfl, ha3, hr3, hg3⟩
    have HR3 := hide hr3
    have HG3 := hide (grown_trans HG2.out hg3)
    have HX3 := hide (HX2.out.grown hg3 (by intro e; cases e; omega))
    have hs3 := str_bytes ha3.arg
    obtain ⟨⟨x0, x1, x2, x3⟩, ⟨y0, y1, y2, y3⟩, hxl⟩ := HX3.out.facts
    have HEND : Hid (∀ W', W' = ((((w3.setCell ⟨w.heap.size, 0, none⟩ (.string (Hog.mk nm'))).setCell ⟨w.heap.size, 1, none⟩ (.int .i64 k')).setCell ⟨w.heap.size, 2, none⟩ (.string (Hog.mk lk'))).setCell ⟨w.heap.size, 3, none⟩ (.string (Hog.mk d))) → RdU W' g rs' ∧ w.grownBy W' (some g) ∧ Ok w0 W') := by
      refine hide fun W' hW' => ?_
      have hk := grown_stored4 HG3.out (Nat.le_refl w.heap.size) (.string (Hog.mk nm')) (.int .i64 k') (.string (Hog.mk lk')) (.string (Hog.mk d))
      rw [hW']
      exact ⟨HR3.out.off hlt (grown_row4 _ _ _ _ _ _), hk, ok_grown HOK.out hg0 hk⟩
    clear ha3 hr3 hg3
    go_wp2
    refine bodyPost_ret (results_row_tmp rfl _ _ w.heap.size 88 _ (0, 0) _ rfl (boxE_stored HX3.out nm' k' lk' d) struct_entryU rfl size_of_entryU) rfl ?_
    exact ⟨rfl, HEND.out _ rfl⟩

/-- A node in block g. -/
def BoxN (w : World) (g : Nat) (x : Nd) : Prop := w.heap[g]? = some (.cells #[.string x.1, .int .i64 x.2.1, .string x.2.2] 38 (0, 0))
theorem BoxN.facts {w : World} {g : Nat} {x : Nd} (h : BoxN w g x) : (w.cell? ⟨g, 0, none⟩ = some (.string x.1) ∧ w.cell? ⟨g, 1, none⟩ = some (.int .i64 x.2.1) ∧ w.cell? ⟨g, 2, none⟩ = some (.string x.2.2)) ∧
    (w.frozen? ⟨g, 0, none⟩ = false ∧ w.frozen? ⟨g, 1, none⟩ = false ∧ w.frozen? ⟨g, 2, none⟩ = false) ∧ g < w.heap.size :=
  ⟨⟨by rw [cell_of_row w g 0 _ _ (0, 0) h]; rfl, by rw [cell_of_row w g 1 _ _ (0, 0) h]; rfl, by rw [cell_of_row w g 2 _ _ (0, 0) h]; rfl⟩,
   ⟨frozen_of_row w g 0 _ _ h, frozen_of_row w g 1 _ _ h, frozen_of_row w g 2 _ _ h⟩, (Array.getElem?_eq_some_iff.1 h).1⟩
theorem BoxN.below {w w' : World} {g : Nat} {x : Nd} (h : BoxN w g x) (hb : Below w.heap.size w w') : BoxN w' g x := by
  have hlt := h.facts.2.2
  unfold BoxN at *
  rw [hb.block g hlt]; exact h
theorem BoxN.grown {w w' : World} {g : Nat} {x : Nd} {row : Option Nat} (h : BoxN w g x) (hg : w.grownBy w' row) (hr : row ≠ some g) : BoxN w' g x := by
  have hlt := h.facts.2.2
  unfold BoxN at *
  rw [hg.block g hlt (fun e => hr e.symm)]; exact h
theorem BoxN.stored {w : World} {g : Nat} {x : Nd} (h : BoxN w g x) (y : Nd) : BoxN (((w.setCell ⟨g, 0, none⟩ (.string y.1)).setCell ⟨g, 1, none⟩ (.int .i64 y.2.1)).setCell ⟨g, 2, none⟩ (.string y.2.2)) g y := by
  unfold BoxN at *
  rw [heap_setCell_same _ g 2 _ _ _ (heap_setCell_same _ g 1 _ _ _ (heap_setCell_same w g 0 _ _ _ h))]
  rfl
theorem grown_row3 (w : World) (R : Nat) (a b c : Value) : w.grownBy (((w.setCell ⟨R, 0, none⟩ a).setCell ⟨R, 1, none⟩ b).setCell ⟨R, 2, none⟩ c) (some R) :=
  grown_trans (grown_trans (grown_setCell w R 0 a) (grown_setCell _ R 1 b)) (grown_setCell _ R 2 c)
/-- A change of a new block. -/
theorem grown_new {w w1 w2 : World} {g R : Nat} (h : w.grownBy w1 (some g)) (hR : w.heap.size ≤ R) (k : w1.grownBy w2 (some R)) : w.grownBy w2 (some g) :=
  ⟨k.os.trans h.os, k.tape.trans h.tape, k.output.trans h.output, Nat.le_trans h.size k.size, fun i hi hr => (k.block i (Nat.lt_of_lt_of_le hi h.size) (fun e => by cases e; omega)).trans (h.block i hi hr)⟩

theorem nodeU_one {l : List UInt8} (h : ¬ ((Hog.entU l).ok = true ∧ (Hog.entU l).kind = 5)) : Hog.nodeU l = (Hog.nodeE (Hog.entU l).name (Hog.entU l).kind (Hog.entU l).link (Hog.entU l).data, (Hog.entU l).ok, (Hog.entU l).rest) := by
  unfold Hog.nodeU; rw [if_neg h]
theorem nodeU_two {l : List UInt8} (h : (Hog.entU l).ok = true ∧ (Hog.entU l).kind = 5) : Hog.nodeU l = (Hog.nodeE (Hog.amendF (Hog.entU l).data.length (Hog.entU l).data ((Hog.entU (Hog.entU l).rest).name, (Hog.entU (Hog.entU l).rest).link)).1 (Hog.entU (Hog.entU l).rest).kind
      (Hog.amendF (Hog.entU l).data.length (Hog.entU l).data ((Hog.entU (Hog.entU l).rest).name, (Hog.entU (Hog.entU l).rest).link)).2 (Hog.entU (Hog.entU l).rest).data, (Hog.entU (Hog.entU l).rest).ok, (Hog.entU (Hog.entU l).rest).rest) := by
  unfold Hog.nodeU; rw [if_pos h]

set_option maxRecDepth 100000 in
set_option maxHeartbeats 2000000 in
theorem rnode_ok (g : Nat) (l : List UInt8) (x : Nd) (f : Bool) (l' : List UInt8) (w0 w : World) (hE : Errs w0) (hok : Ok w0 w) (hg0 : w0.heap.size ≤ g) (h : RdU w g l) (hl : l.length < 1000000) (hv : Hog.nodeU l = (x, f, l')) :
    Calls Tryz.prog 30 #[.pointer (some ⟨g, 0, none⟩)] w fun e w' => e = .returned (.tuple #[nvU x, .bool f]) ∧ RdU w' g l' ∧ w.grownBy w' (some g) ∧ Ok w0 w' := by
  obtain ⟨u, hu⟩ : ∃ u, Hog.entU l = u := ⟨_, rfl⟩
  have hul := Hog.entU_le l
  rw [hu] at hul
  obtain ⟨W, hW⟩ : ∃ W, W = w.alloc (.cells #[.string ⟨#[]⟩, .int .i64 0, .string ⟨#[]⟩] 38) := ⟨_, rfl⟩
  have hbW : Below w.heap.size w W := by rw [hW]; exact below_box _ _
  have HBX : Hid (BoxN W w.heap.size (⟨#[]⟩, 0, ⟨#[]⟩)) := by rw [hW]; exact hide (heap_alloc_new w _)
  have HRW := hide (h.below hbW)
  have HOKW := hide (hok.next hbW)
  have HGW := hide (grown_all hbW (some g))
  have hsW : w.heap.size < W.heap.size := by rw [hW]; simp
  have hlt := h.lt
  have HU := hide hu
  have HE := hide hE
  have HOK := hide hok
  have HW : Hid (w.alloc (.cells #[.string ⟨#[]⟩, .int .i64 0, .string ⟨#[]⟩] 38) = W) := hide hW.symm
  by_cases hc : u.ok = true ∧ u.kind = 5
  · have h1 := nodeU_two (l := l) (by rw [hu]; exact hc)
    rw [hv, hu] at h1
    obtain ⟨nm, k, lk, d, fu, rs⟩ := u
    simp only at h1 hc hul
    obtain ⟨rfl, rfl⟩ := hc
    obtain ⟨u2, hu2⟩ : ∃ u, Hog.entU rs = u := ⟨_, rfl⟩
    rw [hu2] at h1
    obtain ⟨nm2, k2, lk2, d2, f2, rs2⟩ := u2
    simp only at h1
    obtain ⟨nm', lk', ham⟩ : ∃ a b, Hog.amendF d.length d (nm2, lk2) = (a, b) := ⟨_, _, rfl⟩
    rw [ham] at h1
    simp only [Prod.mk.injEq] at h1
    obtain ⟨hx, hf, hl'⟩ := h1
    subst hf hl'
    have HX := hide hx.symm
    have HU2 := hide hu2
    have HAM := hide ham
    have hds : d.length < 1000000 := by omega
    have hrl : rs.length < 1000000 := by omega
    clear hE hok h hu hv hW hbW hul hx hu2 ham
    go_enter Tryz.func30, Tryz.ntmps30
    go_wp2_with fail
    rw [HW.out]
    refine (eread_ok g l _ w0 W HOKW.out hg0 HRW.out hl HU.out).mono ?_
    rintro e w1 ⟨rfl, hr1, hg1, ok1⟩
    have HR1 := hide hr1
    have HG1 := hide (grown_trans HGW.out hg1)
    have HX1 := hide (HBX.out.grown hg1 (by intro e; cases e; omega))
    have HOK1 := hide ok1
    have hs1 := hg1.size
    clear hr1 hg1 ok1 HRW HOKW HBX HGW
    unfold evU
    go_wp2_with fail
    obtain ⟨V, hV⟩ : ∃ V, V = w1.alloc (.cells #[.string (Hog.mk nm), .int .i64 5, .string (Hog.mk lk), .string (Hog.mk d)] 88) := ⟨_, rfl⟩
    have hbV : Below w1.heap.size w1 V := by rw [hV]; exact below_box _ _
    have hBV : BoxE V w1.heap.size nm 5 lk d := by rw [hV]; exact heap_alloc_new w1 _
    have HBX := hide hBV
    have HRV := hide (HR1.out.below hbV)
    have HGV := hide (grown_trans HG1.out (grown_all hbV _))
    have HXV := hide (HX1.out.below hbV)
    have HOKV := hide (HOK1.out.next hbV)
    have HV : Hid (w1.alloc (.cells #[.string (Hog.mk nm), .int .i64 5, .string (Hog.mk lk), .string (Hog.mk d)] 88) = V) := hide hV.symm
    have hsV : w1.heap.size < V.heap.size := by rw [hV]; simp
    have hgB : g < w1.heap.size := by omega
    have hwB : w.heap.size < w1.heap.size := by omega
    clear hV hbV hBV HR1 HG1 HX1 HOK1
    rw [HV.out]
    refine (eread_ok g rs _ w0 V HOKV.out hg0 HRV.out hrl HU2.out).mono ?_
    rintro e wa ⟨rfl, hra, hga, oka⟩
    have HRA := hide hra
    have HGA := hide (grown_trans HGV.out hga)
    have HXA := hide (HXV.out.grown hga (by intro e; cases e; omega))
    have HBA := hide (HBX.out.grown hga (by intro e; cases e; omega))
    have HOKA := hide oka
    clear hra hga oka HRV HGV HXV HBX HOKV
    obtain ⟨⟨x0, x1, x2, x3⟩, ⟨y0, y1, y2, y3⟩, hxl⟩ := HBA.out.facts
    unfold evU
    obtain ⟨U, hU⟩ : ∃ U, U = ((((wa.setCell ⟨w1.heap.size, 0, none⟩ (.string (Hog.mk nm2))).setCell ⟨w1.heap.size, 1, none⟩ (.int .i64 k2)).setCell ⟨w1.heap.size, 2, none⟩ (.string (Hog.mk lk2))).setCell ⟨w1.heap.size, 3, none⟩ (.string (Hog.mk d2))) := ⟨_, rfl⟩
    have hgU : wa.grownBy U (some w1.heap.size) := by rw [hU]; exact grown_row4 _ _ _ _ _ _
    have HBU : Hid (BoxE U w1.heap.size nm2 k2 lk2 d2) := by rw [hU]; exact hide (boxE_stored HBA.out nm2 k2 lk2 d2)
    have HGU := hide (grown_new HGA.out (Nat.le_of_lt hwB) hgU)
    have HRU := hide (HRA.out.off hgB hgU)
    have HXU := hide (HXA.out.grown hgU (by intro e; have e2 := Option.some.inj e; omega))
    have HOKU := hide (ok_grown HOK.out hg0 HGU.out)
    have HUE := hide hU.symm
    clear hU hgU HBA HGA HRA HXA HOKA
    go_wp2_with fail
    rw [HUE.out]
    refine (amend_ok w1.heap.size nm2 lk2 d2 d k2 nm' lk' w0 U HE.out HOKU.out (by have := HOK.out.size; omega) hds HBU.out HAM.out).mono ?_
    rintro e wb ⟨rfl, hbb, hgb, okb⟩
    have HBB := hide hbb
    have HGB := hide (grown_new HGU.out (Nat.le_of_lt hwB) hgb)
    have HRB := hide (HRU.out.off hgB hgb)
    have HXB := hide (HXU.out.grown hgb (by intro e; have e2 := Option.some.inj e; omega))
    clear hbb hgb okb x0 x1 x2 x3 y0 y1 y2 y3 hxl HBU HGU HRU HXU HOKU HUE
    obtain ⟨⟨x0, x1, x2, x3⟩, ⟨y0, y1, y2, y3⟩, hxl⟩ := HBB.out.facts
    go_wp2_with fail
    refine (enode_ok nm' k2 lk' d2 x wb HX.out).mono ?_
    rintro e w2 ⟨rfl, hb2⟩
    have HR2 := hide (HRB.out.below hb2)
    have HG2 := hide (grown_trans HGB.out (grown_all hb2 _))
    have HX2 := hide (HXB.out.below hb2)
    clear hb2 HRB HGB HXB x0 x1 x2 x3 y0 y1 y2 y3 hxl HBB
    obtain ⟨⟨x0, x1, x2⟩, ⟨y0, y1, y2⟩, hxl⟩ := HX2.out.facts
    have HEND : Hid (∀ W', W' = (((w2.setCell ⟨w.heap.size, 0, none⟩ (.string x.1)).setCell ⟨w.heap.size, 1, none⟩ (.int .i64 x.2.1)).setCell ⟨w.heap.size, 2, none⟩ (.string x.2.2)) → RdU W' g l' ∧ w.grownBy W' (some g) ∧ Ok w0 W') := by
      refine hide fun W' hW' => ?_
      have hk := grown_new HG2.out (Nat.le_refl w.heap.size) (grown_row3 w2 w.heap.size (.string x.1) (.int .i64 x.2.1) (.string x.2.2))
      rw [hW']
      exact ⟨HR2.out.off hlt (grown_row3 _ _ _ _ _), hk, ok_grown HOK.out hg0 hk⟩
    unfold nvU
    go_wp2
    refine bodyPost_ret (results_row_tmp rfl _ _ w.heap.size 38 _ (0, 0) _ rfl (HX2.out.stored x) struct_node rfl size_of_nodeU) rfl ?_
    exact ⟨rfl, HEND.out _ rfl⟩
  · have h1 := nodeU_one (l := l) (by rw [hu]; exact hc)
    rw [hv, hu] at h1
    simp only [Prod.mk.injEq] at h1
    obtain ⟨hx, hf, hl'⟩ := h1
    obtain ⟨nm, k, lk, d, fu, rs⟩ := u
    simp only at hx hf hl' hc
    subst hf hl'
    have HX := hide hx.symm
    have hcc : f = false ∨ (f = true ∧ (k != 5) = true) := by
      cases f with
      | false => exact .inl rfl
      | true => exact .inr ⟨rfl, by rw [bne_iff_ne]; exact fun e => hc ⟨rfl, e⟩⟩
    clear hE hok h hu hv hW hbW hul hx hc
    rcases hcc with rfl | ⟨rfl, hk5⟩
    · go_enter Tryz.func30, Tryz.ntmps30
      go_wp2_with fail
      rw [HW.out]
      refine (eread_ok g l _ w0 W HOKW.out hg0 HRW.out hl HU.out).mono ?_
      rintro e w1 ⟨rfl, hr1, hg1, ok1⟩
      have HR1 := hide hr1
      have HG1 := hide (grown_trans HGW.out hg1)
      have HX1 := hide (HBX.out.grown hg1 (by intro e; cases e; omega))
      have HOK1 := hide ok1
      have hs1 := hg1.size
      clear hr1 hg1 ok1 HRW HOKW HBX HGW
      unfold evU
      go_wp2_with fail
      refine (enode_ok nm k lk d x _ HX.out).mono ?_
      rintro e w2 ⟨rfl, hb2⟩
      have hbb := below_two (below_box w1 (.cells #[.string (Hog.mk nm), .int .i64 k, .string (Hog.mk lk), .string (Hog.mk d)] 88)) hb2
      have HR2 := hide (HR1.out.below hbb)
      have HG2 := hide (grown_trans HG1.out (grown_all hbb _))
      have HX2 := hide (HX1.out.below hbb)
      clear hb2 hbb HR1 HG1 HX1
      obtain ⟨⟨x0, x1, x2⟩, ⟨y0, y1, y2⟩, hxl⟩ := HX2.out.facts
      have HEND : Hid (∀ W', W' = (((w2.setCell ⟨w.heap.size, 0, none⟩ (.string x.1)).setCell ⟨w.heap.size, 1, none⟩ (.int .i64 x.2.1)).setCell ⟨w.heap.size, 2, none⟩ (.string x.2.2)) → RdU W' g l' ∧ w.grownBy W' (some g) ∧ Ok w0 W') := by
        refine hide fun W' hW' => ?_
        have hk := grown_new HG2.out (Nat.le_refl w.heap.size) (grown_row3 w2 w.heap.size (.string x.1) (.int .i64 x.2.1) (.string x.2.2))
        rw [hW']
        exact ⟨HR2.out.off hlt (grown_row3 _ _ _ _ _), hk, ok_grown HOK.out hg0 hk⟩
      unfold nvU
      go_wp2
      refine bodyPost_ret (results_row_tmp rfl _ _ w.heap.size 38 _ (0, 0) _ rfl (HX2.out.stored x) struct_node rfl size_of_nodeU) rfl ?_
      exact ⟨rfl, HEND.out _ rfl⟩
    · go_enter Tryz.func30, Tryz.ntmps30
      go_wp2_with fail
      rw [HW.out]
      refine (eread_ok g l _ w0 W HOKW.out hg0 HRW.out hl HU.out).mono ?_
      rintro e w1 ⟨rfl, hr1, hg1, ok1⟩
      have HR1 := hide hr1
      have HG1 := hide (grown_trans HGW.out hg1)
      have HX1 := hide (HBX.out.grown hg1 (by intro e; cases e; omega))
      have HOK1 := hide ok1
      have hs1 := hg1.size
      clear hr1 hg1 ok1 HRW HOKW HBX HGW
      unfold evU
      go_wp2_with fail
      refine (enode_ok nm k lk d x _ HX.out).mono ?_
      rintro e w2 ⟨rfl, hb2⟩
      have hbb := below_two (below_box w1 (.cells #[.string (Hog.mk nm), .int .i64 k, .string (Hog.mk lk), .string (Hog.mk d)] 88)) hb2
      have HR2 := hide (HR1.out.below hbb)
      have HG2 := hide (grown_trans HG1.out (grown_all hbb _))
      have HX2 := hide (HX1.out.below hbb)
      clear hb2 hbb HR1 HG1 HX1
      obtain ⟨⟨x0, x1, x2⟩, ⟨y0, y1, y2⟩, hxl⟩ := HX2.out.facts
      have HEND : Hid (∀ W', W' = (((w2.setCell ⟨w.heap.size, 0, none⟩ (.string x.1)).setCell ⟨w.heap.size, 1, none⟩ (.int .i64 x.2.1)).setCell ⟨w.heap.size, 2, none⟩ (.string x.2.2)) → RdU W' g l' ∧ w.grownBy W' (some g) ∧ Ok w0 W') := by
        refine hide fun W' hW' => ?_
        have hk := grown_new HG2.out (Nat.le_refl w.heap.size) (grown_row3 w2 w.heap.size (.string x.1) (.int .i64 x.2.1) (.string x.2.2))
        rw [hW']
        exact ⟨HR2.out.off hlt (grown_row3 _ _ _ _ _), hk, ok_grown HOK.out hg0 hk⟩
      unfold nvU
      go_wp2
      refine bodyPost_ret (results_row_tmp rfl _ _ w.heap.size 38 _ (0, 0) _ rfl (HX2.out.stored x) struct_node rfl size_of_nodeU) rfl ?_
      exact ⟨rfl, HEND.out _ rfl⟩
end Go.Proofs.YtecjkkipglldlaaGreatDoor
