/- The walks of package tar's count, each over a counter, Lay, Entries. -/
import Derived.Test.YtpdbpeooebbpnaaGreatDoorTF
import Derived.Test.YtpdbpeooebbpnaaGreatDoorJ4
namespace Go.Proofs.YtpdbpeooebbpnaaGreatDoor
open Go.RowKit

/-- In block g lies a counter that has counted c. -/
def CntAt (w : World) (g c : Nat) : Prop := w.heap[g]? = some (.cells #[.int .i64 c] 57 (0, 0))
theorem CntAt.cell {w : World} {g c : Nat} (h : CntAt w g c) : w.cell? ⟨g, 0, none⟩ = some (.int .i64 c) := by rw [cell_of_row w g 0 _ _ (0, 0) h]; rfl
theorem CntAt.free {w : World} {g c : Nat} (h : CntAt w g c) : w.frozen? ⟨g, 0, none⟩ = false := frozen_of_row w g 0 _ _ h
theorem CntAt.lt {w : World} {g c : Nat} (h : CntAt w g c) : g < w.heap.size := (Array.getElem?_eq_some_iff.1 h).1
theorem CntAt.below {w w' : World} {g c : Nat} (h : CntAt w g c) (hb : Below w.heap.size w w') : CntAt w' g c := by unfold CntAt; rw [hb.block g h.lt]; exact h
theorem CntAt.stored {w : World} {g c : Nat} (h : CntAt w g c) (d : Nat) : CntAt (w.setCell ⟨g, 0, none⟩ (.int .i64 d)) g d := by
  have h1 := heap_setCell_same w g 0 _ _ (.int .i64 d) h
  unfold CntAt
  rw [h1]; rfl
theorem grown_of {w w' : World} {r : Option Nat} (h : Below w.heap.size w w') : w.grownBy w' r := ⟨h.os, h.tape, h.output, h.size, fun k hk _ => h.block k hk⟩
theorem grownC_below {w w' : World} {g B : Nat} (h : w.grownBy w' (some g)) (hg : B ≤ g) (hB : B ≤ w.heap.size) : Below B w w' := ⟨h.os, h.tape, h.output, h.size, fun k hk => h.block k (by omega) (fun e => by cases e; omega)⟩
theorem grown_cell {w w' : World} {g : Nat} (h : w.grownBy w' (some g)) {a : Addr} {x : Value} (hc : w.cell? a = some x) (hg : a.block ≠ g) : w'.cell? a = some x :=
  h.cell hc (fun e => hg (Option.some.inj e))

set_option maxHeartbeats 400000 in
theorem countC_ok (g c : Nat) (s t d : ByteArray) (k : Int) (w : World) (h : CntAt w g c) (hc : c < 1000000) :
    Calls Tryz.prog 28 #[.pointer (some ⟨g, 0, none⟩), .agg #[.string s, .int .i64 k, .string t, .string d]] w fun e w' => e = .returned (.tuple #[]) ∧ CntAt w' g (c + 1) ∧ w.grownBy w' (some g) := by
  have c0 := h.cell
  have f0 := h.free
  have hlt := h.lt
  have HC := hide h
  clear h
  go_enter Tryz.func28, Tryz.ntmps28
  go_wp2
  go_end0
  exact ⟨rfl, (HC.out.stored (c + 1)).below (below_box _ _), grown_trans (grown_setCell w g 0 _) (grown_box _ _ _)⟩

set_option maxRecDepth 100000 in
set_option maxHeartbeats 4000000 in
theorem eachC_ok (bt ot ct n g base q0 : Nat) (t : List Nd) (w0 w : World) (hp : Pow w0) (hok : Ok w0 w) (hw : CntAt w g 0) (h0 : w0.heap.size ≤ base) (hbg : base ≤ g) (hbw : base ≤ w.heap.size)
    (hr : Run w bt ot t) (hbt : bt < base) (hn : t.length = n) (hn4 : n ≤ 400) (hct : n ≤ ct) (hg : ∀ x ∈ t, Hog.NodeG x) (hz : Hog.countT t = q0) :
    Calls Tryz.prog 17 #[.slice (some ⟨bt, ot, none⟩) n ct, .func (.func 28) #[.pointer (some ⟨g, 0, none⟩)] #[]] w fun e w' => e = .returned (.tuple #[]) ∧ CntAt w' g q0 ∧ Below base w w' ∧ Ok w0 w' := by
  have HP := hide hp
  have HOK := hide hok
  have HW := hide hw
  have HR := hide hr
  have HN := hide hn
  have HG := hide hg
  have HZ := hide hz
  clear hp hok hw hr hn hg hz
  go_enter Tryz.func17, Tryz.ntmps17
  go_wp2
  go_loopw [10] (fun i wr => ∃ k : Nat, k ≤ n ∧ i = .int .i64 k ∧ Hid (CntAt wr g (Hog.countT (t.take k))) ∧ Below base w wr) (fun i _ => n - (intOf i).toNat)
  case atStart => exact ⟨0, by omega, rfl, by simpa [Hid, Hog.countT] using HW.out, Below.refl _ _⟩
  case round =>
    obtain ⟨k, hk, rfl, HO, hbl⟩ := hrel
    by_cases hlt : k < n
    · obtain ⟨x, hx⟩ : ∃ x, t[k]? = some x := ⟨t[k]'(by have := HN.out; omega), List.getElem?_eq_some_iff.2 ⟨_, rfl⟩⟩
      obtain ⟨g1, g2, g3⟩ := (HR.out.2 k x hx).below hbl hbt
      have hki : (k : Int) < (n : Int) := by omega
      have HST := hide (Hog.countT_step hx)
      have HXG := hide (HG.out x (List.mem_of_getElem? hx))
      have HXF := hide (Hog.entE_fits HXG.out)
      obtain ⟨q, hq⟩ : ∃ q, Hog.countT (t.take k) = q := ⟨_, rfl⟩
      have hq1 : q ≤ 2 * k := by rw [← hq]; exact Hog.countT_le k
      rw [hq] at HO HST
      obtain ⟨s, hs⟩ : ∃ s, (if x.1.data.toList = [] then (⟨#[46]⟩ : ByteArray) else x.1) = s := ⟨_, rfl⟩
      obtain ⟨l, hl⟩ : ∃ s, (if x.2.1 = 4 then x.2.2 else (⟨#[]⟩ : ByteArray)) = s := ⟨_, rfl⟩
      obtain ⟨d, hd⟩ : ∃ s, (if x.2.1 = 4 then (⟨#[]⟩ : ByteArray) else x.2.2) = s := ⟨_, rfl⟩
      have HS := hide hs
      have HL := hide hl
      have HD := hide hd
      have HSN := hide (entE_name x s hs)
      have HLN := hide (entE_link x l hl)
      obtain ⟨z1, hz1⟩ : ∃ z, Hog.recsE (Hog.entE x) = z := ⟨_, rfl⟩
      have HZ1 := hide hz1
      have hbr : base ≤ wr.heap.size := Nat.le_trans hbw hbl.size
      have HOKR := hide (HOK.out.step (hbl.mono h0))
      have HBL := hide hbl
      clear hx hs hl hd hz1 hbl hq
      go_wp2_with fail
      refine (entryOf_ok x s l d _ HS.out HL.out HD.out).mono ?_
      rintro e w2 ⟨rfl, hb2⟩
      have HB2 := hide ((below_box wr _).trans (hb2.mono (by simp)))
      clear hb2
      go_wp2_with fail
      obtain ⟨W, hW⟩ : ∃ W, W = w2.alloc (.cells #[.string s, .int .i64 x.2.1, .string l, .string d] 59) := ⟨_, rfl⟩
      have hbW : Below wr.heap.size wr W := by rw [hW]; exact below_two HB2.out (below_box _ _)
      have e0 : W.cell? ⟨w2.heap.size, 0, none⟩ = some (.string s) := by rw [hW]; simp
      have e1 : W.cell? ⟨w2.heap.size, 1, none⟩ = some (.int .i64 x.2.1) := by rw [hW]; simp
      have e2 : W.cell? ⟨w2.heap.size, 2, none⟩ = some (.string l) := by rw [hW]; simp
      have e3 : W.cell? ⟨w2.heap.size, 3, none⟩ = some (.string d) := by rw [hW]; simp
      have h2W : w2.heap.size < W.heap.size := by rw [hW]; simp
      have HWW : Hid (w2.alloc (.cells #[.string s, .int .i64 x.2.1, .string l, .string d] 59) = W) := hide hW.symm
      have h2g : w2.heap.size ≠ g := by have := HO.out.lt; have := HB2.out.size; omega
      rw [HWW.out]
      clear hW
      refine (records_ok s l d x.2.1 (Hog.entE x).name (Hog.entE x).link z1 w0 W HP.out (HOKR.out.next hbW) HSN.out HLN.out (by have := HXF.out.name; omega) HXF.out.link HZ1.out).mono ?_
      rintro e w3 ⟨rfl, ok3, hb3⟩
      have HB3 := hide (below_two hbW hb3)
      have i0 := (hb3.cell (p := ⟨w2.heap.size, 0, none⟩) h2W).trans e0
      have i1 := (hb3.cell (p := ⟨w2.heap.size, 1, none⟩) h2W).trans e1
      have i2 := (hb3.cell (p := ⟨w2.heap.size, 2, none⟩) h2W).trans e2
      have i3 := (hb3.cell (p := ⟨w2.heap.size, 3, none⟩) h2W).trans e3
      have HW3 := hide (HO.out.below HB3.out)
      have hb3w : base ≤ w3.heap.size := Nat.le_trans hbr HB3.out.size
      clear e0 e1 e2 e3 hb3 hbW ok3 HB2 HWW
      by_cases h1 : z1 = []
      · have HE1 : Hid (Hog.countT (t.take (k + 1)) = q + 1) := by rw [HST.out]; unfold Hog.entsN; rw [if_pos (by rw [HZ1.out]; exact h1)]; exact hide rfl
        have ht1 := none_text
        rw [h1]
        clear h1
        go_wp2_with fail
        refine (countC_ok g q s l d x.2.1 w3 HW3.out (by omega)).mono ?_
        rintro e w4 ⟨rfl, hw4, hr4⟩
        have HW4 := hide hw4
        have HBL4 := hide ((HBL.out.trans (HB3.out.mono hbr)).trans (grownC_below hr4 hbg hb3w))
        clear hw4 hr4 i0 i1 i2 i3 ht1
        go_wp2
        go_roundw
        case rel => exact ⟨k + 1, by omega, by go_num, by rw [HE1.out]; exact HW4, HBL4.out⟩
        case measure => simp [intOf]; omega
      · have HE1 : Hid (Hog.countT (t.take (k + 1)) = q + 1 + 1) := by rw [HST.out]; unfold Hog.entsN; rw [if_neg (by rw [HZ1.out]; exact h1)]; exact hide rfl
        have ht1 := some_text h1
        clear h1
        go_wp2_with fail
        refine (countC_ok g q _ _ _ _ w3 HW3.out (by omega)).mono ?_
        rintro e w4 ⟨rfl, hw4, hr4⟩
        have HW4 := hide hw4
        have HBL4 := hide ((HBL.out.trans (HB3.out.mono hbr)).trans (grownC_below hr4 hbg hb3w))
        have hb4w : base ≤ w4.heap.size := Nat.le_trans hb3w hr4.size
        have j0 := grown_cell hr4 i0 h2g
        have j1 := grown_cell hr4 i1 h2g
        have j2 := grown_cell hr4 i2 h2g
        have j3 := grown_cell hr4 i3 h2g
        clear hw4 hr4 i0 i1 i2 i3 ht1
        go_wp2_with fail
        refine (countC_ok g (q + 1) s l d x.2.1 w4 HW4.out (by omega)).mono ?_
        rintro e w5 ⟨rfl, hw5, hr5⟩
        have HW5 := hide hw5
        have HBL5 := hide (HBL4.out.trans (grownC_below hr5 hbg hb4w))
        clear hw5 hr5 j0 j1 j2 j3
        go_wp2
        go_roundw
        case rel => exact ⟨k + 1, by omega, by go_num, by rw [HE1.out]; exact HW5, HBL5.out⟩
        case measure => simp [intOf]; omega
    · obtain rfl : k = n := by omega
      have he : Hog.countT (t.take k) = q0 := by rw [← HN.out, List.take_length]; exact HZ.out
      rw [he] at HO
      clear he
      go_wp2
      go_end0
      exact ⟨rfl, HO.out, hbl, HOK.out.step (hbl.mono h0)⟩
end Go.Proofs.YtpdbpeooebbpnaaGreatDoor
