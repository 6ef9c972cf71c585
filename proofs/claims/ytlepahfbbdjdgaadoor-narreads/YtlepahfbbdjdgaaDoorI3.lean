/- The walks of the document's own answer, chapter 5: the reader's Num, Take. -/
import Derived.Test.YtlepahfbbdjdgaaDoorI2
import Derived.Test.YtlepahfbbdjdgaaDoorB8
namespace Go.Proofs.YtlepahfbbdjdgaaDoor
open Go.RowKit

/-- The place, and whether there were too few. -/
abbrev FS := Nat × Bool
def rN (l : List UInt8) (s : FS) : Int × FS := if s.2 = true ∨ l.length - s.1 < 8 then (0, (s.1, true)) else (signN (valN ((l.drop s.1).take 8)), (s.1 + 8, false))
def rT (l : List UInt8) (n : Int) (s : FS) : List UInt8 × FS := if s.2 = true ∨ n < 0 ∨ ((l.length - s.1 : Nat) : Int) < n then ([], (s.1, true)) else ((l.drop s.1).take n.toNat, (s.1 + n.toNat, false))
theorem rN_bad {l : List UInt8} {s : FS} (h : s.2 = true ∨ l.length - s.1 < 8) : rN l s = (0, (s.1, true)) := by unfold rN; rw [if_pos h]
theorem rN_good {l : List UInt8} {s : FS} (h : ¬ (s.2 = true ∨ l.length - s.1 < 8)) : rN l s = (signN (valN ((l.drop s.1).take 8)), (s.1 + 8, false)) := by unfold rN; rw [if_neg h]
theorem rT_bad {l : List UInt8} {n : Int} {s : FS} (h : s.2 = true ∨ n < 0 ∨ ((l.length - s.1 : Nat) : Int) < n) : rT l n s = ([], (s.1, true)) := by unfold rT; rw [if_pos h]
theorem rT_good {l : List UInt8} {n : Nat} {s : FS} (h2 : s.2 = false) (h : n ≤ l.length - s.1) : rT l n s = ((l.drop s.1).take n, (s.1 + n, false)) := by
  unfold rT
  rw [if_neg (by rw [h2]; simp; omega)]
  simp

/-- The document's reader in block g, over the bytes l. -/
def RfAt (w : World) (g : Nat) (l : List UInt8) (s : FS) : Prop :=
  ∃ ao m c, w.heap[g]? = some (.cells #[.slice ao m c, .int .i64 s.1, .bool s.2] 60 (0, 0)) ∧ ArgG w g ao m c l ∧ s.1 ≤ m
theorem RfAt.lt {w : World} {g : Nat} {l : List UInt8} {s : FS} (h : RfAt w g l s) : g < w.heap.size := by
  obtain ⟨ao, n, c, hg, _⟩ := h
  exact (Array.getElem?_eq_some_iff.1 hg).1
theorem ref_cells {w : World} {g : Nat} {v : Value} {a : Int} {f : Bool} (h : w.heap[g]? = some (.cells #[v, .int .i64 a, .bool f] 60 (0, 0))) :
    (w.cell? ⟨g, 0, none⟩ = some v ∧ w.cell? ⟨g, 1, none⟩ = some (.int .i64 a) ∧ w.cell? ⟨g, 2, none⟩ = some (.bool f)) ∧ w.frozen? ⟨g, 1, none⟩ = false ∧ w.frozen? ⟨g, 2, none⟩ = false :=
  ⟨⟨by rw [cell_of_row w g 0 _ _ (0, 0) h]; rfl, by rw [cell_of_row w g 1 _ _ (0, 0) h]; rfl, by rw [cell_of_row w g 2 _ _ (0, 0) h]; rfl⟩, frozen_of_row w g 1 _ _ h, frozen_of_row w g 2 _ _ h⟩
theorem RfAt.off {w w' : World} {g : Nat} {l : List UInt8} {s : FS} {row : Option Nat} (h : RfAt w g l s) (hg : w.grownBy w' row) (hr : ∀ k, row = some k → g < k) : RfAt w' g l s := by
  have hlt := h.lt
  obtain ⟨ao, n, c, hc, ha, hs⟩ := h
  refine ⟨ao, n, c, by rw [hg.block g hlt (fun e => by have := hr g e.symm; omega)]; exact hc, ⟨⟨ha.arg.len, ha.arg.none, ha.arg.cap, fun ad e j u hu => ?_⟩, ha.low⟩, hs⟩
  have h1 := ha.arg.cell ad e j u hu
  have hj := (List.getElem?_eq_some_iff.1 hu).1
  rw [bcells_len, ha.arg.len] at hj
  have h2 := ha.low ad e (by omega)
  obtain ⟨b, o, e2, _⟩ := ha.arg.plain (show 0 < n by omega)
  rw [e] at e2
  cases e2
  rw [addB_plain] at h1 ⊢
  exact hg.cell h1 (fun e3 => by have := hr b e3.symm; simp at h2; omega)
theorem RfAt.below {w w' : World} {g B : Nat} {l : List UInt8} {s : FS} (h : RfAt w g l s) (hb : Below B w w') (hB : g < B) : RfAt w' g l s := by
  obtain ⟨ao, n, c, hc, ha, hs⟩ := h
  exact ⟨ao, n, c, by rw [hb.block g hB]; exact hc, ⟨ha.arg.belowAt hb (fun ad e h0 => by have := ha.low ad e h0; omega), ha.low⟩, hs⟩
theorem RfAt.move {w : World} {g : Nat} {l : List UInt8} {ao : Option Addr} {m c a a' : Nat} {f : Bool} (hc : w.heap[g]? = some (.cells #[.slice ao m c, .int .i64 a, .bool f] 60 (0, 0))) (ha : ArgG w g ao m c l) (hs : a' ≤ m) :
    RfAt (w.setCell ⟨g, 1, none⟩ (.int .i64 a')) g l (a', f) :=
  ⟨ao, m, c, by rw [heap_setCell_same w g 1 _ _ _ hc]; rfl, ha.grown (grown_setCell _ _ _ _), hs⟩
theorem RfAt.fails {w : World} {g : Nat} {l : List UInt8} {ao : Option Addr} {m c a : Nat} {f : Bool} (hc : w.heap[g]? = some (.cells #[.slice ao m c, .int .i64 a, .bool f] 60 (0, 0))) (ha : ArgG w g ao m c l) (hs : a ≤ m) :
    RfAt (w.setCell ⟨g, 2, none⟩ (.bool true)) g l (a, true) :=
  ⟨ao, m, c, by rw [heap_setCell_same w g 2 _ _ _ hc]; rfl, ha.grown (grown_setCell _ _ _ _), hs⟩
theorem drew_grown (w : World) (q : Nat) (row : Option Nat) : w.grownBy (w.drewN q) row := ⟨rfl, rfl, rfl, Nat.le_refl _, fun _ _ _ => rfl⟩

theorem grown_of_below {w w' : World} (h : Below w.heap.size w w') (row : Option Nat) : w.grownBy w' row := ⟨h.os, h.tape, h.output, h.size, fun k hk _ => h.block k hk⟩
theorem RfAt.later {w w' : World} {g : Nat} {ao : Option Addr} {m c : Nat} {l : List UInt8} {a : Int} {f : Bool} (hc : w.heap[g]? = some (.cells #[.slice ao m c, .int .i64 a, .bool f] 60 (0, 0))) (ha : ArgG w g ao m c l) (hb : Below w.heap.size w w') :
    w'.heap[g]? = some (.cells #[.slice ao m c, .int .i64 a, .bool f] 60 (0, 0)) ∧ ArgG w' g ao m c l :=
  ⟨by rw [hb.block g (Array.getElem?_eq_some_iff.1 hc).1]; exact hc, ha.arg.below hb, ha.low⟩

set_option maxRecDepth 100000 in
set_option maxHeartbeats 2000000 in
theorem rnumR_bad (g : Nat) (l : List UInt8) (s : FS) (w : World) (h : RfAt w g l s) (hbad : s.2 = true ∨ l.length - s.1 < 8) :
    Calls Tryd.prog 37 #[.pointer (some ⟨g, 0, none⟩)] w fun e w' => e = .returned (.int .i64 0) ∧ RfAt w' g l (s.1, true) ∧ w.grownBy w' (some g) := by
  obtain ⟨a, f⟩ := s
  obtain ⟨ao, m, c, hg, ha, hs⟩ := h
  obtain ⟨⟨c0, c1, c2⟩, f1, f2⟩ := ref_cells hg
  have hlen := ha.arg.len
  simp only [] at hs c1 c2 hg hbad
  rw [hlen] at hbad
  have HG := hide hg
  have HA := hide ha
  clear hg ha hlen
  cases f with
  | true =>
    clear hbad
    go_enter Tryd.func37, Tryd.ntmps37
    go_wp2
    go_quiet (fail)
    obtain ⟨hg2, ha2⟩ := RfAt.later HG.out HA.out (below_drewN (Below.refl _ w) nq)
    obtain ⟨⟨d0, d1, d2⟩, e1, e2⟩ := ref_cells hg2
    have HF := hide (RfAt.fails hg2 ha2 hs)
    clear hg2 ha2
    go_wp2
    go_ret
    exact ⟨rfl, HF.out, grown_trans (drew_grown _ _ _) (grown_setCell _ _ _ _)⟩
  | false =>
    have hlt : (m : Int) - (a : Int) < 8 := by simp at hbad; omega
    clear hbad
    go_enter Tryd.func37, Tryd.ntmps37
    go_wp2
    go_quiet (fail)
    obtain ⟨hg2, ha2⟩ := RfAt.later HG.out HA.out (below_drewN (Below.refl _ w) nq)
    obtain ⟨⟨d0, d1, d2⟩, e1, e2⟩ := ref_cells hg2
    have HF := hide (RfAt.fails hg2 ha2 hs)
    clear hg2 ha2
    go_wp2
    go_ret
    exact ⟨rfl, HF.out, grown_trans (drew_grown _ _ _) (grown_setCell _ _ _ _)⟩

set_option maxRecDepth 100000 in
set_option maxHeartbeats 2000000 in
theorem rnumR_good (g : Nat) (l : List UInt8) (a : Nat) (w : World) (h : RfAt w g l (a, false)) (hl : l.length < 1000000) (hgood : 8 ≤ l.length - a) :
    Calls Tryd.prog 37 #[.pointer (some ⟨g, 0, none⟩)] w fun e w' => e = .returned (.int .i64 (signN (valN ((l.drop a).take 8)))) ∧ RfAt w' g l (a + 8, false) ∧ w.grownBy w' (some g) := by
  obtain ⟨ao, m, c, hg, ha, hs⟩ := h
  obtain ⟨⟨c0, c1, c2⟩, f1, f2⟩ := ref_cells hg
  have hlen := ha.arg.len
  simp only [] at hs c1 c2 hg
  rw [hlen] at hl hgood
  have hcap := ha.arg.cap
  obtain ⟨b, o, rfl, _⟩ := ha.arg.plain (show 0 < m by omega)
  obtain ⟨x, hx⟩ : ∃ x, x = (l.drop a).take 8 := ⟨_, rfl⟩
  have hx8 : x.length = 8 := by rw [hx, List.length_take, List.length_drop, hlen]; omega
  have hxk : ∀ k z, x[k]? = some z → l[a + k]? = some z := by
    intro k z hz
    have hk := (List.getElem?_eq_some_iff.1 hz).1
    rw [hx, List.getElem?_take_of_lt (by omega), List.getElem?_drop] at hz
    exact hz
  rw [← hx]
  have HG := hide hg
  have HA := hide ha
  have HX8 := hide hx8
  have HXK := hide hxk
  clear hg ha hlen hx hx8 hxk
  have hge : (8 : Int) ≤ (m : Int) - (a : Int) := by omega
  go_enter Tryd.func37, Tryd.ntmps37
  go_wp2
  go_quiet (fail)
  have hb0 := below_drewN (Below.refl w.heap.size w) nq
  go_wp2
  go_loopw [3, 4] (fun v i wr => ∃ (k y : Nat), k ≤ 8 ∧ i = .int .i64 k ∧ v = .int .u64 y ∧ Hid (y = valN (x.take k)) ∧ Below w.heap.size w wr) (fun _ i _ => 8 - (intOf i).toNat)
  case atStart => exact ⟨0, 0, by omega, rfl, rfl, hide rfl, hb0⟩
  case round =>
    obtain ⟨k, y, hk, rfl, rfl, HY, hbl⟩ := hrel
    clear c0 c1 c2 f1 f2
    obtain ⟨hg2, ha2⟩ := RfAt.later HG.out HA.out hbl
    obtain ⟨⟨d0, d1, d2⟩, e1, e2⟩ := ref_cells hg2
    have HG2 := hide hg2
    have HA2 := hide ha2
    clear hg2 ha2
    by_cases hlt : k < 8
    · have hki : (k : Int) < 8 := by omega
      obtain ⟨z, hz⟩ : ∃ z, x[k]? = some z := ⟨x[k]'(by have := HX8.out; omega), List.getElem?_eq_some_iff.2 ⟨_, rfl⟩⟩
      have hc := HA2.out.arg.at (HXK.out k z hz)
      have hy7 : y < 72057594037927936 := by rw [HY.out]; exact valN_lt7 (by rw [List.length_take]; omega)
      have HZ := hide hz
      have hor := shl8_or y z hy7
      have hwz := wrap_u8_u64 z
      clear hz hy7
      go_wp2
      go_quiet (fail)
      go_wp2
      go_roundw
      case rel =>
        refine ⟨k + 1, y * 256 + z.toNat, by omega, by go_num, by simp, ?_, below_drewN hbl nq⟩
        obtain ⟨hkl, e⟩ := List.getElem?_eq_some_iff.1 HZ.out
        rw [List.take_succ_eq_append_getElem hkl, valN_snoc, e, ← HY.out]
        exact hide rfl
      case measure => simp [intOf]; omega
    · obtain rfl : k = 8 := by omega
      have hy : y = valN x := by have h := HX8.out; rw [HY.out, ← h, List.take_length]
      have hs8 : IntKind.i64.wrap (y : Int) = signN (valN x) := by
        rw [← hy]
        have := valN_lt8 (l := x) (by have := HX8.out; omega)
        rw [IntKind.wrap_i64]
        unfold signN
        split <;> omega
      have HS := hide hs8
      have HF : Hid (RfAt (wr.setCell ⟨g, 1, none⟩ (.int .i64 ((a : Int) + 8))) g l (a + 8, false)) := by
        have h := RfAt.move (a' := a + 8) HG2.out HA2.out (by omega)
        rw [show ((a + 8 : Nat) : Int) = (a : Int) + 8 by omega] at h
        exact hide h
      clear hy hs8
      go_wp2
      go_ret
      exact ⟨ret_int ((IntWalk.i64_left _).symm.trans HS.out), HF.out, grown_trans (grown_of_below hbl _) (grown_setCell _ _ _ _)⟩

theorem rnumR_ok (g : Nat) (l : List UInt8) (s : FS) (n : Int) (s' : FS) (w : World) (h : RfAt w g l s) (hl : l.length < 1000000) (hv : rN l s = (n, s')) :
    Calls Tryd.prog 37 #[.pointer (some ⟨g, 0, none⟩)] w fun e w' => e = .returned (.int .i64 n) ∧ RfAt w' g l s' ∧ w.grownBy w' (some g) := by
  by_cases hb : s.2 = true ∨ l.length - s.1 < 8
  · rw [rN_bad hb] at hv
    obtain ⟨rfl, rfl⟩ := Prod.mk.inj hv
    exact rnumR_bad g l s w h hb
  · rw [rN_good hb] at hv
    obtain ⟨rfl, rfl⟩ := Prod.mk.inj hv
    obtain ⟨a, f⟩ := s
    have hf : f = false := by cases f with
      | true => exact absurd (.inl rfl) hb
      | false => rfl
    subst hf
    exact rnumR_good g l a w h hl (by simp only [] at hb; omega)
end Go.Proofs.YtlepahfbbdjdgaaDoor
