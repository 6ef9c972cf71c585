/- The reader of package untar in memory; its method take. -/
import Derived.Test.YtecjkkipglldlaaGreatDoorVA
import Derived.Test.YtecjkkipglldlaaGreatDoorHJ
namespace Go.Proofs.YtecjkkipglldlaaGreatDoor
open Go.RowKit

/-- The bytes l, in a block below g. -/
structure ArgG (w : World) (g : Nat) (ao : Option Addr) (n c : Nat) (l : List UInt8) : Prop where
  arg : ArgB w ao n c l
  low : ∀ ad, ao = some ad → 0 < n → ad.block < g
theorem ArgG.grown {w w' : World} {g : Nat} {ao : Option Addr} {n c : Nat} {l : List UInt8} (h : ArgG w g ao n c l) (hg : w.grownBy w' (some g)) : ArgG w' g ao n c l :=
  ⟨⟨h.arg.len, h.arg.none, h.arg.cap, fun ad e j u hu => by
    have h1 := h.arg.cell ad e j u hu
    have hj := (List.getElem?_eq_some_iff.1 hu).1
    rw [bcells_len, h.arg.len] at hj
    have h2 := h.low ad e (by omega)
    obtain ⟨b, o, e2, _⟩ := h.arg.plain (show 0 < n by omega)
    rw [e] at e2
    cases e2
    rw [addB_plain] at h1 ⊢
    exact hg.cell h1 (fun e3 => by cases e3; simp at h2)⟩, h.low⟩
theorem ArgG.nil (w : World) (g : Nat) : ArgG w g none 0 0 [] := ⟨ArgB.nil w, fun ad e => by cases e⟩
theorem ArgG.take {w : World} {g : Nat} {ao : Option Addr} {n c : Nat} {l : List UInt8} (h : ArgG w g ao n c l) {r : Nat} (hr : r ≤ n) : ArgG w g ao r c (l.take r) :=
  ⟨h.arg.take hr, fun ad e h0 => h.low ad e (by omega)⟩
theorem ArgG.drop {w : World} {g : Nat} {ao : Option Addr} {n c : Nat} {l : List UInt8} (h : ArgG w g ao n c l) {r : Nat} (hr : r ≤ n) : ArgG w g (cutAt ao c r) (n - r) (c - r) (l.drop r) :=
  ⟨h.arg.drop hr, fun ad e h0 => by
    obtain ⟨b, o, e2, _⟩ := h.arg.plain (show 0 < n by omega)
    subst e2
    have hc := h.arg.cap
    have h1 := h.low _ rfl (show 0 < n by omega)
    simp only [cutAt, Option.map_some, if_neg (show ¬ c = r by omega), Option.some.injEq, addB_plain] at e
    subst e
    exact h1⟩
theorem ArgG.below {w w' : World} {g : Nat} {ao : Option Addr} {n c : Nat} {l : List UInt8} (h : ArgG w g ao n c l) (hb : Below w.heap.size w w') : ArgG w' g ao n c l := ⟨h.arg.below hb, h.low⟩
theorem grown_all {w w' : World} (h : Below w.heap.size w w') (r : Option Nat) : w.grownBy w' r := ⟨h.os, h.tape, h.output, h.size, fun k hk _ => h.block k hk⟩

/-- A reader in block g: what is left. -/
def RdU (w : World) (g : Nat) (l : List UInt8) : Prop := ∃ ao n c, w.heap[g]? = some (.cells #[.slice ao n c] 66 (0, 0)) ∧ ArgG w g ao n c l
theorem RdU.lt {w : World} {g : Nat} {l : List UInt8} (h : RdU w g l) : g < w.heap.size := by
  obtain ⟨ao, n, c, hg, _⟩ := h
  exact (Array.getElem?_eq_some_iff.1 hg).1
theorem RdU.below {w w' : World} {g : Nat} {l : List UInt8} (h : RdU w g l) (hb : Below w.heap.size w w') : RdU w' g l := by
  have hlt := h.lt
  obtain ⟨ao, n, c, hg, ha⟩ := h
  exact ⟨ao, n, c, by rw [hb.block g hlt]; exact hg, ha.below hb⟩
theorem RdU.set {w : World} {g : Nat} {v : Value} (h : w.heap[g]? = some (.cells #[v] 66 (0, 0))) {ao : Option Addr} {n c : Nat} {l : List UInt8} (ha : ArgG w g ao n c l) :
    RdU (w.setCell ⟨g, 0, none⟩ (.slice ao n c)) g l :=
  ⟨ao, n, c, by rw [heap_setCell_same w g 0 _ _ _ h]; rfl, ha.grown (grown_setCell _ _ _ _)⟩

set_option maxHeartbeats 400000 in
theorem filled_ok (n f : Nat) (w : World) (hn : n < 1000000000000) (hf : Hog.fullN n = f) :
    Calls Tryz.prog 76 #[.int .i64 n] w fun e w' => e = .returned (.int .i64 f) ∧ w' = w := by
  have h1 : ((n : Int) + 512 - 1) / 512 * 512 = (f : Int) := by
    rw [← hf]
    unfold Hog.fullN
    omega
  have hf2 : f < 2000000000000 := by rw [← hf]; unfold Hog.fullN; omega
  have H1 := hide h1
  clear h1 hf
  go_enter Tryz.func76, Tryz.ntmps76
  go_wp2
  go_ret
  exact ⟨ret_int H1.out, rfl⟩
set_option maxRecDepth 100000 in
set_option maxHeartbeats 400000 in
theorem utake_out (g n : Nat) (l : List UInt8) (w : World) (h : RdU w g l) (hn : l.length < n) :
    Calls Tryz.prog 62 #[.pointer (some ⟨g, 0, none⟩), .int .i64 n] w fun e w' => e = .returned (.tuple #[.slice none 0 0, .bool false]) ∧ w' = w := by
  obtain ⟨ao, m, c, hg, ha⟩ := h
  have c0 : w.cell? ⟨g, 0, none⟩ = some (.slice ao m c) := by rw [cell_of_row w g 0 _ _ (0, 0) hg]; rfl
  have hm : (n : Int) > (m : Int) := by have := ha.arg.len; omega
  clear hg ha hn
  go_enter Tryz.func62, Tryz.ntmps62
  go_wp2
  go_ret2
  exact ⟨rfl, rfl⟩
set_option maxRecDepth 100000 in
set_option maxHeartbeats 1000000 in
theorem utake_some (g n m c f k : Nat) (ad : Addr) (w : World) (hg : w.heap[g]? = some (.cells #[.slice (some ad) m c] 66 (0, 0))) (hn : n ≤ m) (hc : m ≤ c) (hm : m < 1000000000) (hf : Hog.fullN n = f) (hk : min f m = k) :
    Calls Tryz.prog 62 #[.pointer (some ⟨g, 0, none⟩), .int .i64 n] w fun e w' => e = .returned (.tuple #[.slice (some ad) n c, .bool true]) ∧ w' = (w.setCell ⟨g, 0, none⟩ (.slice (cutAt (some ad) c k) (m - k) (c - k))).drew := by
  have c0 : w.cell? ⟨g, 0, none⟩ = some (.slice (some ad) m c) := by rw [cell_of_row w g 0 _ _ (0, 0) hg]; rfl
  have f0 : w.frozen? ⟨g, 0, none⟩ = false := frozen_of_row w g 0 _ _ hg
  have d1 : ¬ ((n : Int) > (m : Int)) := by omega
  have d2 : (n : Int) ≤ (c : Int) := by omega
  have HF := hide (filled_ok n f w.drew (by omega) hf)
  have hkm : k ≤ m := by omega
  have HK := hide hk
  have HKI : Hid (min (f : Int) (m : Int) = (k : Int)) := hide (by omega)
  have HCA : Hid ((if c = k then some ad else some (ad.add k)) = cutAt (some ad) c k) := by unfold cutAt; rw [Option.map_some]; split <;> exact hide rfl
  clear hg hf hk
  go_enter Tryz.func62, Tryz.ntmps62
  go_wp2_with fail
  have c1 : w.drew.cell? ⟨g, 0, none⟩ = some (.slice (some ad) m c) := c0
  have f1 : w.drew.frozen? ⟨g, 0, none⟩ = false := f0
  refine wp_region_any (by kernel_rfl) ?_
  change wpAny _ _ _ _ _ _ _ (World.drew _)
  refine wpAny_take (i := 0) (v := .pointer (some ⟨g, 0, none⟩)) rfl (by kernel_rfl) (by kernel_rfl) (by kernel_rfl) (fun _ _ _ h => h) (Or.inl ⟨by kernel_rfl, ?_⟩) ?_
  · intro w'; go_simp
  refine wpAny_take (i := 1) (v := .pointer (some ⟨g, 0, none⟩)) rfl (by kernel_rfl) (by kernel_rfl) (by kernel_rfl) (fun _ _ _ h => h) (Or.inl ⟨by kernel_rfl, ?_⟩) ?_
  · intro w'; go_simp
  refine wpAny_take (i := 2) (v := .pointer (some ⟨g, 0, none⟩)) rfl (by kernel_rfl) (by kernel_rfl) (by kernel_rfl) (fun _ _ _ h => h) (Or.inl ⟨by kernel_rfl, ?_⟩) ?_
  · intro w'; go_simp
  refine wpAny_take (i := 3) (v := .pointer (some ⟨g, 0, none⟩)) rfl (by kernel_rfl) (by kernel_rfl) (by kernel_rfl) (fun _ _ _ h => h) (Or.inl ⟨by kernel_rfl, ?_⟩) ?_
  · intro w'; go_simp
  refine wpAny_take (i := 5) (v := .int .i64 n) rfl (by kernel_rfl) (by kernel_rfl) (by kernel_rfl) (fun _ _ _ h => h) (Or.inl ⟨by kernel_rfl, ?_⟩) ?_
  · intro w'; go_simp
  refine wpAny_take (i := 7) (v := .pointer (some ⟨g, 0, none⟩)) rfl (by kernel_rfl) (by kernel_rfl) (by kernel_rfl) (fun _ _ _ h => h) (Or.inl ⟨by kernel_rfl, ?_⟩) ?_
  · intro w'; go_simp
  refine wpAny_take (i := 8) (v := .pointer (some ⟨g, 0, none⟩)) rfl (by kernel_rfl) (by kernel_rfl) (by kernel_rfl) (fun _ _ _ h => h) (Or.inl ⟨by kernel_rfl, ?_⟩) ?_
  · intro w'; go_simp
  refine wpAny_take (i := 9) (v := .pointer (some ⟨g, 0, none⟩)) rfl (by kernel_rfl) (by kernel_rfl) (by kernel_rfl) (fun _ _ _ h => h) (Or.inl ⟨by kernel_rfl, ?_⟩) ?_
  · intro w'; go_simp
  refine wpAny_ready (rs := [4, 6, 10]) (by kernel_rfl) (by simp) (AllReady.cons rfl ?_ (AllReady.cons rfl ?_ (AllReady.cons rfl ?_ AllReady.nil)))
  · intro K hK
    go_simp
    refine hK _ _ ?_
    clear hK K
    refine wpAny_ready (rs := [6, 10]) (by kernel_rfl) (by simp) (AllReady.cons rfl ?_ (AllReady.cons rfl ?_ AllReady.nil))
    · intro K hK
      go_simp
      refine (show Calls _ _ _ _ _ from HF.out).mono ?_
      rintro e v1 ⟨rfl, rfl⟩
      refine hK _ _ ?_
      clear hK K
      refine wpAny_ready (rs := [10]) (by kernel_rfl) (by simp) (AllReady.cons rfl ?_ AllReady.nil)
      intro K hK
      go_simp
      refine hK _ _ ?_
      clear hK K
      refine wpAny_take (i := 11) (v := .int .i64 m) rfl (by kernel_rfl) (by kernel_rfl) (by kernel_rfl) (fun _ _ _ h => h) (Or.inl ⟨by kernel_rfl, ?_⟩) ?_
      · intro w'; go_simp
      refine wpAny_take (i := 12) (v := .int .i64 k) rfl (by kernel_rfl) (by kernel_rfl) (by kernel_rfl) (fun _ _ _ h => h) (Or.inl ⟨by kernel_rfl, ?_⟩) ?_
      · intro w'; go_simp; exact HKI.out
      refine wpAny_take (i := 13) (v := .slice (cutAt (some ad) c k) (m - k) (c - k)) rfl (by kernel_rfl) (by kernel_rfl) (by kernel_rfl) (fun _ _ _ h => h) (Or.inl ⟨by kernel_rfl, ?_⟩) ?_
      · intro w'; go_simp; exact HCA.out
      refine wpAny_take (i := 14) (v := .pointer (some ⟨g, 0, none⟩)) rfl (by kernel_rfl) (by kernel_rfl) (by kernel_rfl) (fun _ _ _ h => h) (Or.inl ⟨by kernel_rfl, ?_⟩) ?_
      · intro w'; go_simp
      refine wpAny_take (i := 15) (v := .pointer (some ⟨g, 0, none⟩)) rfl (by kernel_rfl) (by kernel_rfl) (by kernel_rfl) (fun _ _ _ h => h) (Or.inl ⟨by kernel_rfl, ?_⟩) ?_
      · intro w'; go_simp
      refine wpAny_ready (rs := [16]) (by kernel_rfl) (by simp) (AllReady.cons rfl ?_ AllReady.nil)
      intro K hK
      go_simp
      refine hK _ _ ?_
      clear hK K
      refine wpAny_done (by kernel_rfl) ?_ _
      go_wp2
      go_ret2
      exact ⟨rfl, rfl⟩
    · intro K hK
      go_simp
      refine hK _ _ ?_
      clear hK K
      refine wpAny_take (i := 11) (v := .int .i64 m) rfl (by kernel_rfl) (by kernel_rfl) (by kernel_rfl) (fun _ _ _ h => h) (Or.inl ⟨by kernel_rfl, ?_⟩) ?_
      · intro w'; go_simp
      refine wpAny_ready (rs := [6]) (by kernel_rfl) (by simp) (AllReady.cons rfl ?_ AllReady.nil)
      intro K hK
      go_simp
      refine (show Calls _ _ _ _ _ from HF.out).mono ?_
      rintro e v1 ⟨rfl, rfl⟩
      refine hK _ _ ?_
      clear hK K
      refine wpAny_take (i := 12) (v := .int .i64 k) rfl (by kernel_rfl) (by kernel_rfl) (by kernel_rfl) (fun _ _ _ h => h) (Or.inl ⟨by kernel_rfl, ?_⟩) ?_
      · intro w'; go_simp; exact HKI.out
      refine wpAny_take (i := 13) (v := .slice (cutAt (some ad) c k) (m - k) (c - k)) rfl (by kernel_rfl) (by kernel_rfl) (by kernel_rfl) (fun _ _ _ h => h) (Or.inl ⟨by kernel_rfl, ?_⟩) ?_
      · intro w'; go_simp; exact HCA.out
      refine wpAny_take (i := 14) (v := .pointer (some ⟨g, 0, none⟩)) rfl (by kernel_rfl) (by kernel_rfl) (by kernel_rfl) (fun _ _ _ h => h) (Or.inl ⟨by kernel_rfl, ?_⟩) ?_
      · intro w'; go_simp
      refine wpAny_take (i := 15) (v := .pointer (some ⟨g, 0, none⟩)) rfl (by kernel_rfl) (by kernel_rfl) (by kernel_rfl) (fun _ _ _ h => h) (Or.inl ⟨by kernel_rfl, ?_⟩) ?_
      · intro w'; go_simp
      refine wpAny_ready (rs := [16]) (by kernel_rfl) (by simp) (AllReady.cons rfl ?_ AllReady.nil)
      intro K hK
      go_simp
      refine hK _ _ ?_
      clear hK K
      refine wpAny_done (by kernel_rfl) ?_ _
      go_wp2
      go_ret2
      exact ⟨rfl, rfl⟩
  · intro K hK
    go_simp
    refine (show Calls _ _ _ _ _ from HF.out).mono ?_
    rintro e v1 ⟨rfl, rfl⟩
    refine hK _ _ ?_
    clear hK K
    refine wpAny_ready (rs := [4, 10]) (by kernel_rfl) (by simp) (AllReady.cons rfl ?_ (AllReady.cons rfl ?_ AllReady.nil))
    · intro K hK
      go_simp
      refine hK _ _ ?_
      clear hK K
      refine wpAny_ready (rs := [10]) (by kernel_rfl) (by simp) (AllReady.cons rfl ?_ AllReady.nil)
      intro K hK
      go_simp
      refine hK _ _ ?_
      clear hK K
      refine wpAny_take (i := 11) (v := .int .i64 m) rfl (by kernel_rfl) (by kernel_rfl) (by kernel_rfl) (fun _ _ _ h => h) (Or.inl ⟨by kernel_rfl, ?_⟩) ?_
      · intro w'; go_simp
      refine wpAny_take (i := 12) (v := .int .i64 k) rfl (by kernel_rfl) (by kernel_rfl) (by kernel_rfl) (fun _ _ _ h => h) (Or.inl ⟨by kernel_rfl, ?_⟩) ?_
      · intro w'; go_simp; exact HKI.out
      refine wpAny_take (i := 13) (v := .slice (cutAt (some ad) c k) (m - k) (c - k)) rfl (by kernel_rfl) (by kernel_rfl) (by kernel_rfl) (fun _ _ _ h => h) (Or.inl ⟨by kernel_rfl, ?_⟩) ?_
      · intro w'; go_simp; exact HCA.out
      refine wpAny_take (i := 14) (v := .pointer (some ⟨g, 0, none⟩)) rfl (by kernel_rfl) (by kernel_rfl) (by kernel_rfl) (fun _ _ _ h => h) (Or.inl ⟨by kernel_rfl, ?_⟩) ?_
      · intro w'; go_simp
      refine wpAny_take (i := 15) (v := .pointer (some ⟨g, 0, none⟩)) rfl (by kernel_rfl) (by kernel_rfl) (by kernel_rfl) (fun _ _ _ h => h) (Or.inl ⟨by kernel_rfl, ?_⟩) ?_
      · intro w'; go_simp
      refine wpAny_ready (rs := [16]) (by kernel_rfl) (by simp) (AllReady.cons rfl ?_ AllReady.nil)
      intro K hK
      go_simp
      refine hK _ _ ?_
      clear hK K
      refine wpAny_done (by kernel_rfl) ?_ _
      go_wp2
      go_ret2
      exact ⟨rfl, rfl⟩
    · intro K hK
      go_simp
      refine hK _ _ ?_
      clear hK K
      refine wpAny_take (i := 11) (v := .int .i64 m) rfl (by kernel_rfl) (by kernel_rfl) (by kernel_rfl) (fun _ _ _ h => h) (Or.inl ⟨by kernel_rfl, ?_⟩) ?_
      · intro w'; go_simp
      refine wpAny_take (i := 12) (v := .int .i64 k) rfl (by kernel_rfl) (by kernel_rfl) (by kernel_rfl) (fun _ _ _ h => h) (Or.inl ⟨by kernel_rfl, ?_⟩) ?_
      · intro w'; go_simp; exact HKI.out
      refine wpAny_ready (rs := [4]) (by kernel_rfl) (by simp) (AllReady.cons rfl ?_ AllReady.nil)
      intro K hK
      go_simp
      refine hK _ _ ?_
      clear hK K
      refine wpAny_take (i := 13) (v := .slice (cutAt (some ad) c k) (m - k) (c - k)) rfl (by kernel_rfl) (by kernel_rfl) (by kernel_rfl) (fun _ _ _ h => h) (Or.inl ⟨by kernel_rfl, ?_⟩) ?_
      · intro w'; go_simp; exact HCA.out
      refine wpAny_take (i := 14) (v := .pointer (some ⟨g, 0, none⟩)) rfl (by kernel_rfl) (by kernel_rfl) (by kernel_rfl) (fun _ _ _ h => h) (Or.inl ⟨by kernel_rfl, ?_⟩) ?_
      · intro w'; go_simp
      refine wpAny_take (i := 15) (v := .pointer (some ⟨g, 0, none⟩)) rfl (by kernel_rfl) (by kernel_rfl) (by kernel_rfl) (fun _ _ _ h => h) (Or.inl ⟨by kernel_rfl, ?_⟩) ?_
      · intro w'; go_simp
      refine wpAny_ready (rs := [16]) (by kernel_rfl) (by simp) (AllReady.cons rfl ?_ AllReady.nil)
      intro K hK
      go_simp
      refine hK _ _ ?_
      clear hK K
      refine wpAny_done (by kernel_rfl) ?_ _
      go_wp2
      go_ret2
      exact ⟨rfl, rfl⟩
  · intro K hK
    go_simp
    refine hK _ _ ?_
    clear hK K
    refine wpAny_take (i := 11) (v := .int .i64 m) rfl (by kernel_rfl) (by kernel_rfl) (by kernel_rfl) (fun _ _ _ h => h) (Or.inl ⟨by kernel_rfl, ?_⟩) ?_
    · intro w'; go_simp
    refine wpAny_ready (rs := [4, 6]) (by kernel_rfl) (by simp) (AllReady.cons rfl ?_ (AllReady.cons rfl ?_ AllReady.nil))
    · intro K hK
      go_simp
      refine hK _ _ ?_
      clear hK K
      refine wpAny_ready (rs := [6]) (by kernel_rfl) (by simp) (AllReady.cons rfl ?_ AllReady.nil)
      intro K hK
      go_simp
      refine (show Calls _ _ _ _ _ from HF.out).mono ?_
      rintro e v1 ⟨rfl, rfl⟩
      refine hK _ _ ?_
      clear hK K
      refine wpAny_take (i := 12) (v := .int .i64 k) rfl (by kernel_rfl) (by kernel_rfl) (by kernel_rfl) (fun _ _ _ h => h) (Or.inl ⟨by kernel_rfl, ?_⟩) ?_
      · intro w'; go_simp; exact HKI.out
      refine wpAny_take (i := 13) (v := .slice (cutAt (some ad) c k) (m - k) (c - k)) rfl (by kernel_rfl) (by kernel_rfl) (by kernel_rfl) (fun _ _ _ h => h) (Or.inl ⟨by kernel_rfl, ?_⟩) ?_
      · intro w'; go_simp; exact HCA.out
      refine wpAny_take (i := 14) (v := .pointer (some ⟨g, 0, none⟩)) rfl (by kernel_rfl) (by kernel_rfl) (by kernel_rfl) (fun _ _ _ h => h) (Or.inl ⟨by kernel_rfl, ?_⟩) ?_
      · intro w'; go_simp
      refine wpAny_take (i := 15) (v := .pointer (some ⟨g, 0, none⟩)) rfl (by kernel_rfl) (by kernel_rfl) (by kernel_rfl) (fun _ _ _ h => h) (Or.inl ⟨by kernel_rfl, ?_⟩) ?_
      · intro w'; go_simp
      refine wpAny_ready (rs := [16]) (by kernel_rfl) (by simp) (AllReady.cons rfl ?_ AllReady.nil)
      intro K hK
      go_simp
      refine hK _ _ ?_
      clear hK K
      refine wpAny_done (by kernel_rfl) ?_ _
      go_wp2
      go_ret2
      exact ⟨rfl, rfl⟩
    · intro K hK
      go_simp
      refine (show Calls _ _ _ _ _ from HF.out).mono ?_
      rintro e v1 ⟨rfl, rfl⟩
      refine hK _ _ ?_
      clear hK K
      refine wpAny_take (i := 12) (v := .int .i64 k) rfl (by kernel_rfl) (by kernel_rfl) (by kernel_rfl) (fun _ _ _ h => h) (Or.inl ⟨by kernel_rfl, ?_⟩) ?_
      · intro w'; go_simp; exact HKI.out
      refine wpAny_ready (rs := [4]) (by kernel_rfl) (by simp) (AllReady.cons rfl ?_ AllReady.nil)
      intro K hK
      go_simp
      refine hK _ _ ?_
      clear hK K
      refine wpAny_take (i := 13) (v := .slice (cutAt (some ad) c k) (m - k) (c - k)) rfl (by kernel_rfl) (by kernel_rfl) (by kernel_rfl) (fun _ _ _ h => h) (Or.inl ⟨by kernel_rfl, ?_⟩) ?_
      · intro w'; go_simp; exact HCA.out
      refine wpAny_take (i := 14) (v := .pointer (some ⟨g, 0, none⟩)) rfl (by kernel_rfl) (by kernel_rfl) (by kernel_rfl) (fun _ _ _ h => h) (Or.inl ⟨by kernel_rfl, ?_⟩) ?_
      · intro w'; go_simp
      refine wpAny_take (i := 15) (v := .pointer (some ⟨g, 0, none⟩)) rfl (by kernel_rfl) (by kernel_rfl) (by kernel_rfl) (fun _ _ _ h => h) (Or.inl ⟨by kernel_rfl, ?_⟩) ?_
      · intro w'; go_simp
      refine wpAny_ready (rs := [16]) (by kernel_rfl) (by simp) (AllReady.cons rfl ?_ AllReady.nil)
      intro K hK
      go_simp
      refine hK _ _ ?_
      clear hK K
      refine wpAny_done (by kernel_rfl) ?_ _
      go_wp2
      go_ret2
      exact ⟨rfl, rfl⟩
set_option maxRecDepth 100000 in
set_option maxHeartbeats 1000000 in
theorem utake_nil (g : Nat) (w : World) (hg : w.heap[g]? = some (.cells #[.slice none 0 0] 66 (0, 0))) :
    Calls Tryz.prog 62 #[.pointer (some ⟨g, 0, none⟩), .int .i64 (0 : Nat)] w fun e w' => e = .returned (.tuple #[.slice none 0 0, .bool true]) ∧ w' = (w.setCell ⟨g, 0, none⟩ (.slice none 0 0)).drew := by
  have c0 : w.cell? ⟨g, 0, none⟩ = some (.slice none 0 0) := by rw [cell_of_row w g 0 _ _ (0, 0) hg]; rfl
  have f0 : w.frozen? ⟨g, 0, none⟩ = false := frozen_of_row w g 0 _ _ hg
  have HF := hide (filled_ok 0 0 w.drew (by omega) rfl)
  clear hg
  go_enter Tryz.func62, Tryz.ntmps62
  go_wp2_with fail
  have c1 : w.drew.cell? ⟨g, 0, none⟩ = some (.slice none 0 0) := c0
  have f1 : w.drew.frozen? ⟨g, 0, none⟩ = false := f0
  refine wp_region_any (by kernel_rfl) ?_
  change wpAny _ _ _ _ _ _ _ (World.drew _)
  refine wpAny_take (i := 0) (v := .pointer (some ⟨g, 0, none⟩)) rfl (by kernel_rfl) (by kernel_rfl) (by kernel_rfl) (fun _ _ _ h => h) (Or.inl ⟨by kernel_rfl, ?_⟩) ?_
  · intro w'; go_simp
  refine wpAny_take (i := 1) (v := .pointer (some ⟨g, 0, none⟩)) rfl (by kernel_rfl) (by kernel_rfl) (by kernel_rfl) (fun _ _ _ h => h) (Or.inl ⟨by kernel_rfl, ?_⟩) ?_
  · intro w'; go_simp
  refine wpAny_take (i := 2) (v := .pointer (some ⟨g, 0, none⟩)) rfl (by kernel_rfl) (by kernel_rfl) (by kernel_rfl) (fun _ _ _ h => h) (Or.inl ⟨by kernel_rfl, ?_⟩) ?_
  · intro w'; go_simp
  refine wpAny_take (i := 3) (v := .pointer (some ⟨g, 0, none⟩)) rfl (by kernel_rfl) (by kernel_rfl) (by kernel_rfl) (fun _ _ _ h => h) (Or.inl ⟨by kernel_rfl, ?_⟩) ?_
  · intro w'; go_simp
  refine wpAny_take (i := 5) (v := .int .i64 (0 : Nat)) rfl (by kernel_rfl) (by kernel_rfl) (by kernel_rfl) (fun _ _ _ h => h) (Or.inl ⟨by kernel_rfl, ?_⟩) ?_
  · intro w'; go_simp
  refine wpAny_take (i := 7) (v := .pointer (some ⟨g, 0, none⟩)) rfl (by kernel_rfl) (by kernel_rfl) (by kernel_rfl) (fun _ _ _ h => h) (Or.inl ⟨by kernel_rfl, ?_⟩) ?_
  · intro w'; go_simp
  refine wpAny_take (i := 8) (v := .pointer (some ⟨g, 0, none⟩)) rfl (by kernel_rfl) (by kernel_rfl) (by kernel_rfl) (fun _ _ _ h => h) (Or.inl ⟨by kernel_rfl, ?_⟩) ?_
  · intro w'; go_simp
  refine wpAny_take (i := 9) (v := .pointer (some ⟨g, 0, none⟩)) rfl (by kernel_rfl) (by kernel_rfl) (by kernel_rfl) (fun _ _ _ h => h) (Or.inl ⟨by kernel_rfl, ?_⟩) ?_
  · intro w'; go_simp
  refine wpAny_ready (rs := [4, 6, 10]) (by kernel_rfl) (by simp) (AllReady.cons rfl ?_ (AllReady.cons rfl ?_ (AllReady.cons rfl ?_ AllReady.nil)))
  · intro K hK
    go_simp
    refine hK _ _ ?_
    clear hK K
    refine wpAny_ready (rs := [6, 10]) (by kernel_rfl) (by simp) (AllReady.cons rfl ?_ (AllReady.cons rfl ?_ AllReady.nil))
    · intro K hK
      go_simp
      refine (show Calls _ _ _ _ _ from HF.out).mono ?_
      rintro e v1 ⟨rfl, rfl⟩
      refine hK _ _ ?_
      clear hK K
      refine wpAny_ready (rs := [10]) (by kernel_rfl) (by simp) (AllReady.cons rfl ?_ AllReady.nil)
      intro K hK
      go_simp
      refine hK _ _ ?_
      clear hK K
      refine wpAny_take (i := 11) (v := .int .i64 (0 : Nat)) rfl (by kernel_rfl) (by kernel_rfl) (by kernel_rfl) (fun _ _ _ h => h) (Or.inl ⟨by kernel_rfl, ?_⟩) ?_
      · intro w'; go_simp
      refine wpAny_take (i := 12) (v := .int .i64 (0 : Nat)) rfl (by kernel_rfl) (by kernel_rfl) (by kernel_rfl) (fun _ _ _ h => h) (Or.inl ⟨by kernel_rfl, ?_⟩) ?_
      · intro w'; go_simp
      refine wpAny_take (i := 13) (v := .slice none 0 0) rfl (by kernel_rfl) (by kernel_rfl) (by kernel_rfl) (fun _ _ _ h => h) (Or.inl ⟨by kernel_rfl, ?_⟩) ?_
      · intro w'; go_simp
      refine wpAny_take (i := 14) (v := .pointer (some ⟨g, 0, none⟩)) rfl (by kernel_rfl) (by kernel_rfl) (by kernel_rfl) (fun _ _ _ h => h) (Or.inl ⟨by kernel_rfl, ?_⟩) ?_
      · intro w'; go_simp
      refine wpAny_take (i := 15) (v := .pointer (some ⟨g, 0, none⟩)) rfl (by kernel_rfl) (by kernel_rfl) (by kernel_rfl) (fun _ _ _ h => h) (Or.inl ⟨by kernel_rfl, ?_⟩) ?_
      · intro w'; go_simp
      refine wpAny_ready (rs := [16]) (by kernel_rfl) (by simp) (AllReady.cons rfl ?_ AllReady.nil)
      intro K hK
      go_simp
      refine hK _ _ ?_
      clear hK K
      refine wpAny_done (by kernel_rfl) ?_ _
      go_wp2
      go_ret2
      exact ⟨rfl, rfl⟩
    · intro K hK
      go_simp
      refine hK _ _ ?_
      clear hK K
      refine wpAny_take (i := 11) (v := .int .i64 (0 : Nat)) rfl (by kernel_rfl) (by kernel_rfl) (by kernel_rfl) (fun _ _ _ h => h) (Or.inl ⟨by kernel_rfl, ?_⟩) ?_
      · intro w'; go_simp
      refine wpAny_ready (rs := [6]) (by kernel_rfl) (by simp) (AllReady.cons rfl ?_ AllReady.nil)
      intro K hK
      go_simp
      refine (show Calls _ _ _ _ _ from HF.out).mono ?_
      rintro e v1 ⟨rfl, rfl⟩
      refine hK _ _ ?_
      clear hK K
      refine wpAny_take (i := 12) (v := .int .i64 (0 : Nat)) rfl (by kernel_rfl) (by kernel_rfl) (by kernel_rfl) (fun _ _ _ h => h) (Or.inl ⟨by kernel_rfl, ?_⟩) ?_
      · intro w'; go_simp
      refine wpAny_take (i := 13) (v := .slice none 0 0) rfl (by kernel_rfl) (by kernel_rfl) (by kernel_rfl) (fun _ _ _ h => h) (Or.inl ⟨by kernel_rfl, ?_⟩) ?_
      · intro w'; go_simp
      refine wpAny_take (i := 14) (v := .pointer (some ⟨g, 0, none⟩)) rfl (by kernel_rfl) (by kernel_rfl) (by kernel_rfl) (fun _ _ _ h => h) (Or.inl ⟨by kernel_rfl, ?_⟩) ?_
      · intro w'; go_simp
      refine wpAny_take (i := 15) (v := .pointer (some ⟨g, 0, none⟩)) rfl (by kernel_rfl) (by kernel_rfl) (by kernel_rfl) (fun _ _ _ h => h) (Or.inl ⟨by kernel_rfl, ?_⟩) ?_
      · intro w'; go_simp
      refine wpAny_ready (rs := [16]) (by kernel_rfl) (by simp) (AllReady.cons rfl ?_ AllReady.nil)
      intro K hK
      go_simp
      refine hK _ _ ?_
      clear hK K
      refine wpAny_done (by kernel_rfl) ?_ _
      go_wp2
      go_ret2
      exact ⟨rfl, rfl⟩
  · intro K hK
    go_simp
    refine (show Calls _ _ _ _ _ from HF.out).mono ?_
    rintro e v1 ⟨rfl, rfl⟩
    refine hK _ _ ?_
    clear hK K
    refine wpAny_ready (rs := [4, 10]) (by kernel_rfl) (by simp) (AllReady.cons rfl ?_ (AllReady.cons rfl ?_ AllReady.nil))
    · intro K hK
      go_simp
      refine hK _ _ ?_
      clear hK K
      refine wpAny_ready (rs := [10]) (by kernel_rfl) (by simp) (AllReady.cons rfl ?_ AllReady.nil)
      intro K hK
      go_simp
      refine hK _ _ ?_
      clear hK K
      refine wpAny_take (i := 11) (v := .int .i64 (0 : Nat)) rfl (by kernel_rfl) (by kernel_rfl) (by kernel_rfl) (fun _ _ _ h => h) (Or.inl ⟨by kernel_rfl, ?_⟩) ?_
      · intro w'; go_simp
      refine wpAny_take (i := 12) (v := .int .i64 (0 : Nat)) rfl (by kernel_rfl) (by kernel_rfl) (by kernel_rfl) (fun _ _ _ h => h) (Or.inl ⟨by kernel_rfl, ?_⟩) ?_
      · intro w'; go_simp
      refine wpAny_take (i := 13) (v := .slice none 0 0) rfl (by kernel_rfl) (by kernel_rfl) (by kernel_rfl) (fun _ _ _ h => h) (Or.inl ⟨by kernel_rfl, ?_⟩) ?_
      · intro w'; go_simp
      refine wpAny_take (i := 14) (v := .pointer (some ⟨g, 0, none⟩)) rfl (by kernel_rfl) (by kernel_rfl) (by kernel_rfl) (fun _ _ _ h => h) (Or.inl ⟨by kernel_rfl, ?_⟩) ?_
      · intro w'; go_simp
      refine wpAny_take (i := 15) (v := .pointer (some ⟨g, 0, none⟩)) rfl (by kernel_rfl) (by kernel_rfl) (by kernel_rfl) (fun _ _ _ h => h) (Or.inl ⟨by kernel_rfl, ?_⟩) ?_
      · intro w'; go_simp
      refine wpAny_ready (rs := [16]) (by kernel_rfl) (by simp) (AllReady.cons rfl ?_ AllReady.nil)
      intro K hK
      go_simp
      refine hK _ _ ?_
      clear hK K
      refine wpAny_done (by kernel_rfl) ?_ _
      go_wp2
      go_ret2
      exact ⟨rfl, rfl⟩
    · intro K hK
      go_simp
      refine hK _ _ ?_
      clear hK K
      refine wpAny_take (i := 11) (v := .int .i64 (0 : Nat)) rfl (by kernel_rfl) (by kernel_rfl) (by kernel_rfl) (fun _ _ _ h => h) (Or.inl ⟨by kernel_rfl, ?_⟩) ?_
      · intro w'; go_simp
      refine wpAny_take (i := 12) (v := .int .i64 (0 : Nat)) rfl (by kernel_rfl) (by kernel_rfl) (by kernel_rfl) (fun _ _ _ h => h) (Or.inl ⟨by kernel_rfl, ?_⟩) ?_
      · intro w'; go_simp
      refine wpAny_ready (rs := [4]) (by kernel_rfl) (by simp) (AllReady.cons rfl ?_ AllReady.nil)
      intro K hK
      go_simp
      refine hK _ _ ?_
      clear hK K
      refine wpAny_take (i := 13) (v := .slice none 0 0) rfl (by kernel_rfl) (by kernel_rfl) (by kernel_rfl) (fun _ _ _ h => h) (Or.inl ⟨by kernel_rfl, ?_⟩) ?_
      · intro w'; go_simp
      refine wpAny_take (i := 14) (v := .pointer (some ⟨g, 0, none⟩)) rfl (by kernel_rfl) (by kernel_rfl) (by kernel_rfl) (fun _ _ _ h => h) (Or.inl ⟨by kernel_rfl, ?_⟩) ?_
      · intro w'; go_simp
      refine wpAny_take (i := 15) (v := .pointer (some ⟨g, 0, none⟩)) rfl (by kernel_rfl) (by kernel_rfl) (by kernel_rfl) (fun _ _ _ h => h) (Or.inl ⟨by kernel_rfl, ?_⟩) ?_
      · intro w'; go_simp
      refine wpAny_ready (rs := [16]) (by kernel_rfl) (by simp) (AllReady.cons rfl ?_ AllReady.nil)
      intro K hK
      go_simp
      refine hK _ _ ?_
      clear hK K
      refine wpAny_done (by kernel_rfl) ?_ _
      go_wp2
      go_ret2
      exact ⟨rfl, rfl⟩
  · intro K hK
    go_simp
    refine hK _ _ ?_
    clear hK K
    refine wpAny_take (i := 11) (v := .int .i64 (0 : Nat)) rfl (by kernel_rfl) (by kernel_rfl) (by kernel_rfl) (fun _ _ _ h => h) (Or.inl ⟨by kernel_rfl, ?_⟩) ?_
    · intro w'; go_simp
    refine wpAny_ready (rs := [4, 6]) (by kernel_rfl) (by simp) (AllReady.cons rfl ?_ (AllReady.cons rfl ?_ AllReady.nil))
    · intro K hK
      go_simp
      refine hK _ _ ?_
      clear hK K
      refine wpAny_ready (rs := [6]) (by kernel_rfl) (by simp) (AllReady.cons rfl ?_ AllReady.nil)
      intro K hK
      go_simp
      refine (show Calls _ _ _ _ _ from HF.out).mono ?_
      rintro e v1 ⟨rfl, rfl⟩
      refine hK _ _ ?_
      clear hK K
      refine wpAny_take (i := 12) (v := .int .i64 (0 : Nat)) rfl (by kernel_rfl) (by kernel_rfl) (by kernel_rfl) (fun _ _ _ h => h) (Or.inl ⟨by kernel_rfl, ?_⟩) ?_
      · intro w'; go_simp
      refine wpAny_take (i := 13) (v := .slice none 0 0) rfl (by kernel_rfl) (by kernel_rfl) (by kernel_rfl) (fun _ _ _ h => h) (Or.inl ⟨by kernel_rfl, ?_⟩) ?_
      · intro w'; go_simp
      refine wpAny_take (i := 14) (v := .pointer (some ⟨g, 0, none⟩)) rfl (by kernel_rfl) (by kernel_rfl) (by kernel_rfl) (fun _ _ _ h => h) (Or.inl ⟨by kernel_rfl, ?_⟩) ?_
      · intro w'; go_simp
      refine wpAny_take (i := 15) (v := .pointer (some ⟨g, 0, none⟩)) rfl (by kernel_rfl) (by kernel_rfl) (by kernel_rfl) (fun _ _ _ h => h) (Or.inl ⟨by kernel_rfl, ?_⟩) ?_
      · intro w'; go_simp
      refine wpAny_ready (rs := [16]) (by kernel_rfl) (by simp) (AllReady.cons rfl ?_ AllReady.nil)
      intro K hK
      go_simp
      refine hK _ _ ?_
      clear hK K
      refine wpAny_done (by kernel_rfl) ?_ _
      go_wp2
      go_ret2
      exact ⟨rfl, rfl⟩
    · intro K hK
      go_simp
      refine (show Calls _ _ _ _ _ from HF.out).mono ?_
      rintro e v1 ⟨rfl, rfl⟩
      refine hK _ _ ?_
      clear hK K
      refine wpAny_take (i := 12) (v := .int .i64 (0 : Nat)) rfl (by kernel_rfl) (by kernel_rfl) (by kernel_rfl) (fun _ _ _ h => h) (Or.inl ⟨by kernel_rfl, ?_⟩) ?_
      · intro w'; go_simp
      refine wpAny_ready (rs := [4]) (by kernel_rfl) (by simp) (AllReady.cons rfl ?_ AllReady.nil)
      intro K hK
      go_simp
      refine hK _ _ ?_
      clear hK K
      refine wpAny_take (i := 13) (v := .slice none 0 0) rfl (by kernel_rfl) (by kernel_rfl) (by kernel_rfl) (fun _ _ _ h => h) (Or.inl ⟨by kernel_rfl, ?_⟩) ?_
      · intro w'; go_simp
      refine wpAny_take (i := 14) (v := .pointer (some ⟨g, 0, none⟩)) rfl (by kernel_rfl) (by kernel_rfl) (by kernel_rfl) (fun _ _ _ h => h) (Or.inl ⟨by kernel_rfl, ?_⟩) ?_
      · intro w'; go_simp
      refine wpAny_take (i := 15) (v := .pointer (some ⟨g, 0, none⟩)) rfl (by kernel_rfl) (by kernel_rfl) (by kernel_rfl) (fun _ _ _ h => h) (Or.inl ⟨by kernel_rfl, ?_⟩) ?_
      · intro w'; go_simp
      refine wpAny_ready (rs := [16]) (by kernel_rfl) (by simp) (AllReady.cons rfl ?_ AllReady.nil)
      intro K hK
      go_simp
      refine hK _ _ ?_
      clear hK K
      refine wpAny_done (by kernel_rfl) ?_ _
      go_wp2
      go_ret2
      exact ⟨rfl, rfl⟩
theorem utake_ok (g n : Nat) (l x l' : List UInt8) (w : World) (h : RdU w g l) (hl : l.length < 1000000000) (hn : n ≤ l.length) (hx : l.take n = x) (hl' : l.drop (min (Hog.fullN n) l.length) = l') :
    Calls Tryz.prog 62 #[.pointer (some ⟨g, 0, none⟩), .int .i64 n] w fun e w' => ∃ b c, e = .returned (.tuple #[.slice b n c, .bool true]) ∧ ArgG w' g b n c x ∧ RdU w' g l' ∧ w.grownBy w' (some g) := by
  obtain ⟨ao, m, c, hg, ha⟩ := h
  have hml := ha.arg.len
  have hmc := ha.arg.cap
  cases ao with
  | none =>
    have hz := ha.arg.none rfl
    obtain ⟨rfl, rfl⟩ : m = 0 ∧ c = 0 := by omega
    obtain rfl : n = 0 := by omega
    have hl0 : l = [] := List.eq_nil_of_length_eq_zero hml
    subst hl0
    subst hx
    subst hl'
    refine (utake_nil g w hg).mono ?_
    rintro e w' ⟨rfl, rfl⟩
    have hb := (Below.refl (w.setCell ⟨g, 0, none⟩ (.slice none 0 0)).heap.size (w.setCell ⟨g, 0, none⟩ (.slice none 0 0))).drew
    refine ⟨none, 0, rfl, ?_, ?_, grown_trans (grown_setCell w g 0 _) (grown_all hb _)⟩
    · exact ArgG.nil _ _
    · exact (RdU.set hg (ArgG.nil w g)).below hb
  | some ad =>
    obtain ⟨k, hk⟩ : ∃ k, min (Hog.fullN n) m = k := ⟨_, rfl⟩
    have hkm : k ≤ m := by omega
    refine (utake_some g n m c _ k ad w hg (by omega) hmc (by omega) rfl hk).mono ?_
    rintro e w' ⟨rfl, rfl⟩
    have hb := (Below.refl (w.setCell ⟨g, 0, none⟩ (.slice (cutAt (some ad) c k) (m - k) (c - k))).heap.size (w.setCell ⟨g, 0, none⟩ (.slice (cutAt (some ad) c k) (m - k) (c - k)))).drew
    refine ⟨some ad, c, rfl, ?_, ?_, grown_trans (grown_setCell w g 0 _) (grown_all hb _)⟩
    · rw [← hx]
      exact ((ha.take (by omega)).grown (grown_setCell _ _ _ _)).below hb
    · rw [← hl', hml, hk]
      exact (RdU.set hg (ha.drop hkm)).below hb
end Go.Proofs.YtecjkkipglldlaaGreatDoor
