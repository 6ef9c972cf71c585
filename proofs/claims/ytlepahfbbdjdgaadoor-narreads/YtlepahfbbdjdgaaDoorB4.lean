/- The walks of package nar: the reader: fail, take, num, ended. -/
import Derived.Test.YtlepahfbbdjdgaaDoorB2
namespace Go.Proofs.YtlepahfbbdjdgaaDoor
open Go.RowKit

/-- The bytes l, in a block below g. -/
structure ArgG (w : World) (g : Nat) (ao : Option Addr) (n c : Nat) (l : List UInt8) : Prop where
  arg : ArgB w ao n c l
  low : ∀ ad, ao = some ad → 0 < n → ad.block < g
theorem ArgG.grown {w w' : World} {g : Nat} {ao : Option Addr} {n c : Nat} {l : List UInt8} (h : ArgG w g ao n c l) (hg : w.grownBy w' (some g)) : ArgG w' g ao n c l :=
  ⟨⟨h.arg.len, h.arg.none, h.arg.cap, fun ad e j u hu => by
    have h1 := h.arg.cell ad e j u hu
    have hj := (List.getElem?_eq_some_iff.1 hu).1
    rw [bcells_len, h.arg.len] at hj
    have h2 := h.low ad e (by omega)
    obtain ⟨b, o, e2, _⟩ := h.arg.plain (show 0 < n by omega)
    rw [e] at e2
    cases e2
    rw [addB_plain] at h1 ⊢
    exact hg.cell h1 (fun e3 => by cases e3; simp at h2)⟩, h.low⟩
theorem ArgG.nil (w : World) (g : Nat) : ArgG w g none 0 0 [] := ⟨ArgB.nil w, fun ad e => by cases e⟩
theorem ArgG.take {w : World} {g : Nat} {ao : Option Addr} {n c : Nat} {l : List UInt8} (h : ArgG w g ao n c l) {r : Nat} (hr : r ≤ n) : ArgG w g ao r c (l.take r) :=
  ⟨h.arg.take hr, fun ad e h0 => h.low ad e (by omega)⟩
theorem ArgG.drop {w : World} {g : Nat} {ao : Option Addr} {n c : Nat} {l : List UInt8} (h : ArgG w g ao n c l) {r : Nat} (hr : r ≤ n) : ArgG w g (cutAt ao c r) (n - r) (c - r) (l.drop r) :=
  ⟨h.arg.drop hr, fun ad e h0 => by
    obtain ⟨b, o, e2, _⟩ := h.arg.plain (show 0 < n by omega)
    subst e2
    have hc := h.arg.cap
    have h1 := h.low _ rfl (show 0 < n by omega)
    simp only [cutAt, Option.map_some, if_neg (show ¬ c = r by omega), Option.some.injEq, addB_plain] at e
    subst e
    exact h1⟩

/-- A reader in block g: what is left, whether it has failed. -/
def RdAt (w : World) (g : Nat) (s : RS) : Prop :=
  ∃ ao n c, w.heap[g]? = some (.cells #[.slice ao n c, .bool s.2] 53 (0, 0)) ∧ ArgG w g ao n c s.1
theorem RdAt.lt {w : World} {g : Nat} {s : RS} (h : RdAt w g s) : g < w.heap.size := by
  obtain ⟨ao, n, c, hg, _⟩ := h
  exact (Array.getElem?_eq_some_iff.1 hg).1
theorem reader_cells {w : World} {g : Nat} {v : Value} {f : Bool} (h : w.heap[g]? = some (.cells #[v, .bool f] 53 (0, 0))) :
    w.cell? ⟨g, 0, none⟩ = some v ∧ w.cell? ⟨g, 1, none⟩ = some (.bool f) ∧ w.frozen? ⟨g, 0, none⟩ = false ∧ w.frozen? ⟨g, 1, none⟩ = false :=
  ⟨by rw [cell_of_row w g 0 _ _ (0, 0) h]; rfl, by rw [cell_of_row w g 1 _ _ (0, 0) h]; rfl, frozen_of_row w g 0 _ _ h, frozen_of_row w g 1 _ _ h⟩
/-- What is left is changed. -/
theorem RdAt.set {w : World} {g : Nat} {v : Value} {f : Bool} (h : w.heap[g]? = some (.cells #[v, .bool f] 53 (0, 0))) {ao : Option Addr} {n c : Nat} {l : List UInt8} (ha : ArgG w g ao n c l) :
    RdAt (w.setCell ⟨g, 0, none⟩ (.slice ao n c)) g (l, f) :=
  ⟨ao, n, c, by rw [heap_setCell_same w g 0 _ _ _ h]; rfl, ha.grown (grown_setCell _ _ _ _)⟩
theorem RdAt.fail {w : World} {g : Nat} {v : Value} {f : Bool} (h : w.heap[g]? = some (.cells #[v, .bool f] 53 (0, 0))) :
    RdAt ((w.setCell ⟨g, 0, none⟩ (.slice none 0 0)).setCell ⟨g, 1, none⟩ (.bool true)) g ([], true) :=
  ⟨none, 0, 0, by rw [heap_setCell_same _ g 1 _ _ _ (heap_setCell_same w g 0 _ _ _ h)]; rfl, ArgG.nil _ _⟩

set_option maxHeartbeats 800000 in
theorem fail_ok (g : Nat) (s : RS) (w : World) (h : RdAt w g s) :
    Calls Tryd.prog 44 #[.pointer (some ⟨g, 0, none⟩)] w fun e w' => e = .returned (.tuple #[]) ∧ RdAt w' g ([], true) ∧ w.grownBy w' (some g) := by
  obtain ⟨ao, n, c, hg, ha⟩ := h
  obtain ⟨c0, c1, f0, f1⟩ := reader_cells hg
  have HG := hide hg
  have HF := hide (RdAt.fail hg)
  clear hg ha
  go_enter Tryd.func44, Tryd.ntmps44
  go_wp2
  go_end0
  exact ⟨rfl, HF.out, grown_trans (grown_setCell _ _ _ _) (grown_setCell _ _ _ _)⟩

theorem takeR_in {n : Nat} {s : RS} (h : n ≤ s.1.length) : takeR n s = (s.1.take n, (s.1.drop n, s.2)) := by
  unfold takeR
  rw [if_neg (by omega)]
  simp
theorem takeR_out {n : Int} {s : RS} (h : n < 0 ∨ (s.1.length : Int) < n) : takeR n s = ([], ([], true)) := by
  unfold takeR
  rw [if_pos h]

set_option maxRecDepth 100000 in
set_option maxHeartbeats 1000000 in
theorem take_none (g n : Nat) (f : Bool) (w : World) (hg : w.heap[g]? = some (.cells #[.slice none 0 0, .bool f] 53 (0, 0))) (hn : n = 0) :
    Calls Tryd.prog 41 #[.pointer (some ⟨g, 0, none⟩), .int .i64 n] w fun e w' => e = .returned (.slice none 0 0) ∧ w' = w.setCell ⟨g, 0, none⟩ (.slice none 0 0) := by
  obtain ⟨c0, c1, f0, f1⟩ := reader_cells hg
  subst hn
  have HG := hide hg
  clear hg
  go_enter Tryd.func41, Tryd.ntmps41
  go_wp2
  go_ret
  exact ⟨rfl, rfl⟩

set_option maxRecDepth 100000 in
set_option maxHeartbeats 1000000 in
theorem take_some (g n m c : Nat) (ad : Addr) (f : Bool) (w : World) (hg : w.heap[g]? = some (.cells #[.slice (some ad) m c, .bool f] 53 (0, 0))) (hn : n ≤ m) (hc : m ≤ c) :
    Calls Tryd.prog 41 #[.pointer (some ⟨g, 0, none⟩), .int .i64 n] w fun e w' => e = .returned (.slice (some ad) n c) ∧ w' = w.setCell ⟨g, 0, none⟩ (.slice (cutAt (some ad) c n) (m - n) (c - n)) := by
  obtain ⟨c0, c1, f0, f1⟩ := reader_cells hg
  have HG := hide hg
  have h1 : ¬ ((n : Int) < 0) := by omega
  have h2 : (n : Int) ≤ (m : Int) := by omega
  have h3 : (n : Int) ≤ (c : Int) := by omega
  clear hg
  by_cases hcn : c = n
  · have hmn : m = n := by omega
    subst hcn
    subst hmn
    go_enter Tryd.func41, Tryd.ntmps41
    go_wp2
    go_ret
    refine ⟨rfl, ?_⟩
    simp [cutAt]
  · go_enter Tryd.func41, Tryd.ntmps41
    go_wp2
    go_ret
    refine ⟨rfl, ?_⟩
    simp [cutAt, hcn]
end Go.Proofs.YtlepahfbbdjdgaaDoor
