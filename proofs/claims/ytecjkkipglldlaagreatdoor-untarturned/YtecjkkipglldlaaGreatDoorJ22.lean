/- Texts that stand together, joined: VA, VB, VC. -/
import Derived.Test.YtecjkkipglldlaaGreatDoorJ21
import Derived.Test.YtecjkkipglldlaaGreatDoorEA
import Derived.Test.YtecjkkipglldlaaGreatDoorTB
import Derived.Test.YtecjkkipglldlaaGreatDoorHJ
import Derived.Laws.ResultCell
/- Records taken apart: the library's Cut and Atoi; the walk of package untar's cut. -/
namespace Go.Proofs.YtecjkkipglldlaaGreatDoor
open Go.RowKit

/-- What the library's tables and variables hold that are read. -/
def Lib14 (w : World) : Prop := Pow w ∧ Errs w

theorem scut_any (s : ByteArray) (c : UInt8) (a b : List UInt8) (w0 w : World) (h : Ok w0 w) (hs : s.size < 1000000) (ha : Hog.aheadC c s.data.toList = a) (hb : Hog.behindC c s.data.toList = b) :
    Calls Tryz.prog 80 #[.string s, .string ⟨#[c]⟩] w fun e w' => (∃ v : Value, e = .returned (.tuple #[.string (Hog.mk a), .string (Hog.mk b), v])) ∧ Ok w0 w' ∧ Below w.heap.size w w' := by
  refine (Tryz.strings_Cut_shaped s ⟨#[c]⟩ w h.shape (by omega)).mono ?_
  rintro e w' ⟨rfl, n, rfl⟩
  have hc := Hog.cut_one c s.data.toList
  have h1 : (Lib.cut s.data.toList (⟨#[c]⟩ : ByteArray).data.toList).1 = a := hc.1.trans ha
  have h2 : (Lib.cut s.data.toList (⟨#[c]⟩ : ByteArray).data.toList).2.1 = b := hc.2.trans hb
  rw [h1, h2]
  have hbl := below_drewN (Below.refl w.heap.size w) n
  exact ⟨⟨_, rfl⟩, h.next hbl, hbl⟩
theorem atoi_good (x : ByteArray) (n : Int) (w0 w : World) (hok : Ok w0 w) (hx : x.size < 1000000) (h : Lib.atoiAll x.data.toList = .ok n) :
    Calls Tryz.prog 81 #[.string x] w fun e w' => e = .returned (.tuple #[.int .i64 n, .nilIface]) ∧ Ok w0 w' ∧ Below w.heap.size w w' := by
  refine (Tryz.strconv_Atoi_ok x (by omega) n h w).mono ?_
  rintro e w' ⟨rfl, hw⟩
  have hb : Below w.heap.size w w' := by
    rcases hw with rfl | ⟨t, rfl⟩
    · exact Below.refl _ _
    · exact Lib.bytesWorld_below ..
  exact ⟨rfl, hok.next hb, hb⟩
theorem atoi_bad (x : ByteArray) (w0 w : World) (hE : Errs w0) (hok : Ok w0 w) (hx : x.size < 1000000) (h : ∀ n, Lib.atoiAll x.data.toList ≠ .ok n) :
    Calls Tryz.prog 81 #[.string x] w fun e w' => (∃ n t p, e = .returned (.tuple #[.int .i64 n, .iface t p])) ∧ Ok w0 w' ∧ Below w.heap.size w w' := by
  obtain ⟨⟨a, b, h1⟩, ⟨c, d, h2⟩⟩ := hE.below hok.2
  cases hh : Lib.atoiAll x.data.toList
  · exact absurd hh (h _)
  · refine (Any.strconv_Atoi_syntax_var Tryz.laysC172 x (by omega) hh a b w h1).mono ?_
    rintro e w' ⟨N, rfl, _, _, hb⟩
    exact ⟨⟨_, _, _, rfl⟩, hok.next hb, hb⟩
  · refine (Tryz.strconv_Atoi_range_var x (by omega) hh c d w h2).mono ?_
    rintro e w' ⟨N, rfl, _, _, hb⟩
    exact ⟨⟨_, _, _, rfl⟩, hok.next hb, hb⟩
theorem strim_ok (x : ByteArray) (a : List UInt8) (w : World) (hx : x.size < 1000000) (h : Hog.trimN x.data.toList = a) :
    Calls Tryz.prog 82 #[.string x, .string ⟨#[10]⟩] w fun e w' => e = .returned (.string (Hog.mk a)) ∧ w' = w := by
  refine (Tryz.strings_TrimSuffix x ⟨#[10]⟩ w (by omega)).mono ?_
  rintro e w' ⟨rfl, rfl⟩
  have h1 : Lib.trimSuffix x.data.toList (⟨#[10]⟩ : ByteArray).data.toList = a := h
  rw [h1]
  exact ⟨rfl, rfl⟩

theorem cutP_none {s : List UInt8} (h : Hog.lenR s = none) : Hog.cutP s = ([], [], []) := by unfold Hog.cutP; rw [h]
theorem cutP_some {s : List UInt8} {n : Nat} (h : Hog.lenR s = some n) : Hog.cutP s = (Hog.aheadC 61 ((s.drop ((Hog.aheadC 32 s).length + 1)).take (n - ((Hog.aheadC 32 s).length + 1))), Hog.trimN (Hog.behindC 61 ((s.drop ((Hog.aheadC 32 s).length + 1)).take (n - ((Hog.aheadC 32 s).length + 1)))), s.drop n) := by
  unfold Hog.cutP; rw [h]

set_option maxRecDepth 100000 in
set_option maxHeartbeats 1000000 in
theorem ucut_ok (s : ByteArray) (k v r : List UInt8) (w0 w : World) (hE : Errs w0) (hok : Ok w0 w) (hs : s.size < 1000000) (hc : Hog.cutP s.data.toList = (k, v, r)) :
    Calls Tryz.prog 64 #[.string s] w fun e w' => e = .returned (.tuple #[.string (Hog.mk k), .string (Hog.mk v), .string (Hog.mk r)]) ∧ Ok w0 w' ∧ Below w.heap.size w w' := by
  obtain ⟨d, hd⟩ : ∃ d, Hog.aheadC 32 s.data.toList = d := ⟨_, rfl⟩
  obtain ⟨b, hb⟩ : ∃ b, Hog.behindC 32 s.data.toList = b := ⟨_, rfl⟩
  have hds : (Hog.mk d).size < 1000000 := by rw [Hog.mk_size, ← hd]; have := Hog.ahead_le 32 s.data.toList; rw [← Hog.size_len] at this; omega
  have HD := hide hd
  have HB := hide hb
  have HC := hide hc
  have HE := hide hE
  have HOK := hide hok
  clear hc hb hE hok
  by_cases hn : ∃ n, Lib.atoiAll d = .ok n
  · obtain ⟨n, hn⟩ := hn
    have HN : Hid (Lib.atoiAll (Hog.mk d).data.toList = .ok n) := by rw [Hog.mk_data]; exact hide hn
    by_cases hbad : n ≤ d.length ∨ n > s.data.toList.length
    · have HR : Hid ((k, v, r) = (([], [], []) : List UInt8 × List UInt8 × List UInt8)) := by
        rw [← HC.out, cutP_none]
        · exact hide rfl
        · unfold Hog.lenR
          rw [hd, hn]
          simp only []
          rw [if_pos hbad]
      rw [← Hog.size_len] at hbad
      rw [← Hog.mk_size d] at hbad
      clear hd hn
      rcases hbad with h1 | h1
      · go_enter Tryz.func64, Tryz.ntmps64
        go_wp2_with fail
        refine (scut_any s 32 d b w0 w HOK.out hs HD.out HB.out).mono ?_
        rintro e w1 ⟨⟨u, rfl⟩, ok1, hb1⟩
        have HB1 := hide hb1
        clear hb1
        go_wp2_with fail
        refine (atoi_good (Hog.mk d) n w0 w1 ok1 hds HN.out).mono ?_
        rintro e w2 ⟨rfl, ok2, hb2⟩
        have HB2 := hide (below_two HB1.out hb2)
        clear hb2
        go_wp2
        go_ret3
        obtain ⟨rfl, rfl, rfl⟩ : k = [] ∧ v = [] ∧ r = [] := by simpa using HR.out
        exact ⟨rfl, ok2, HB2.out⟩
      · by_cases h2 : n ≤ ((Hog.mk d).size : Int)
        · go_enter Tryz.func64, Tryz.ntmps64
          go_wp2_with fail
          refine (scut_any s 32 d b w0 w HOK.out hs HD.out HB.out).mono ?_
          rintro e w1 ⟨⟨u, rfl⟩, ok1, hb1⟩
          have HB1 := hide hb1
          clear hb1
          go_wp2_with fail
          refine (atoi_good (Hog.mk d) n w0 w1 ok1 hds HN.out).mono ?_
          rintro e w2 ⟨rfl, ok2, hb2⟩
          have HB2 := hide (below_two HB1.out hb2)
          clear hb2
          go_wp2
          go_ret3
          obtain ⟨rfl, rfl, rfl⟩ : k = [] ∧ v = [] ∧ r = [] := by simpa using HR.out
          exact ⟨rfl, ok2, HB2.out⟩
        · go_enter Tryz.func64, Tryz.ntmps64
          go_wp2_with fail
          refine (scut_any s 32 d b w0 w HOK.out hs HD.out HB.out).mono ?_
          rintro e w1 ⟨⟨u, rfl⟩, ok1, hb1⟩
          have HB1 := hide hb1
          clear hb1
          go_wp2_with fail
          refine (atoi_good (Hog.mk d) n w0 w1 ok1 hds HN.out).mono ?_
          rintro e w2 ⟨rfl, ok2, hb2⟩
          have HB2 := hide (below_two HB1.out hb2)
          clear hb2
          go_wp2
          go_ret3
          obtain ⟨rfl, rfl, rfl⟩ : k = [] ∧ v = [] ∧ r = [] := by simpa using HR.out
          exact ⟨rfl, ok2, HB2.out⟩
    · obtain ⟨m, rfl⟩ : ∃ m : Nat, n = (m : Int) := ⟨n.toNat, by omega⟩
      have hm1 : (Hog.mk d).size < m := by rw [Hog.mk_size]; omega
      have hm2 : m ≤ s.size := by rw [Hog.size_len]; omega
      have hl : Hog.lenR s.data.toList = some m := by
        unfold Hog.lenR
        rw [hd, hn]
        simp only []
        rw [if_neg hbad, Int.toNat_natCast]
      have hcs := cutP_some hl
      rw [hd, HC.out] at hcs
      obtain ⟨x, hx⟩ : ∃ x, s.extract ((Hog.mk d).size + 1) m = x := ⟨_, rfl⟩
      have HX : Hid (x.data.toList = (s.data.toList.drop (d.length + 1)).take (m - (d.length + 1))) := by rw [← hx, Lib.extract_eq, Hog.mk_size]; exact hide (by simp)
      rw [← HX.out] at hcs
      obtain ⟨v0, hv0⟩ : ∃ v0, Hog.behindC 61 x.data.toList = v0 := ⟨_, rfl⟩
      rw [hv0] at hcs
      simp only [Prod.mk.injEq] at hcs
      obtain ⟨hk, hv, hr⟩ := hcs
      have hxs : x.size < 1000000 := by
        rw [Hog.size_len, HX.out, List.length_take, List.length_drop, ← Hog.size_len]; omega
      have hvs : (Hog.mk v0).size < 1000000 := by
        rw [Hog.mk_size, ← hv0]
        unfold Hog.behindC
        rw [List.length_drop, ← Hog.size_len]; omega
      have HK := hide hk.symm
      have HV0 := hide hv0
      have HV := hide hv.symm
      have HXE := hide hx
      have HR : Hid (s.extract m s.size = Hog.mk r) := by rw [hr, ← Lib.extract_to_end, Hog.data_mk]; exact hide rfl
      have d1 : ¬ ((m : Int) ≤ ((Hog.mk d).size : Int)) := by omega
      have d2 : ¬ ((m : Int) > (s.size : Int)) := by omega
      have d3 : ((Hog.mk d).size : Int) + 1 ≤ (m : Int) := by omega
      have d4 : (m : Int) ≤ (s.size : Int) := by omega
      clear hd hn hbad hl hk hv hr hv0 hx
      go_enter Tryz.func64, Tryz.ntmps64
      go_wp2_with fail
      refine (scut_any s 32 d b w0 w HOK.out hs HD.out HB.out).mono ?_
      rintro e w1 ⟨⟨u, rfl⟩, ok1, hb1⟩
      have HB1 := hide hb1
      clear hb1
      go_wp2_with fail
      refine (atoi_good (Hog.mk d) m w0 w1 ok1 hds HN.out).mono ?_
      rintro e w2 ⟨rfl, ok2, hb2⟩
      have HB2 := hide (below_two HB1.out hb2)
      clear hb2
      go_wp2_with fail
      rw [HXE.out]
      refine (scut_any x 61 k v0 w0 w2 ok2 hxs HK.out HV0.out).mono ?_
      rintro e w3 ⟨⟨u3, rfl⟩, ok3, hb3⟩
      have HB3 := hide (below_two HB2.out hb3)
      clear hb3
      have HT : Hid (∀ q, Calls Tryz.prog 82 #[.string (Hog.mk v0), .string ⟨#[10]⟩] (w3.drewN q) fun e w' => e = .returned (.string (Hog.mk v)) ∧ w' = w3.drewN q) := by
        refine hide fun q => strim_ok (Hog.mk v0) v _ hvs ?_
        rw [Hog.mk_data]
        exact HV.out
      have HQ : Hid (∀ q, Ok w0 (w3.drewN q) ∧ Below w.heap.size w (w3.drewN q)) := by
        refine hide fun q => ?_
        have hbq := below_drewN (Below.refl w3.heap.size w3) q
        exact ⟨ok3.next hbq, below_two HB3.out hbq⟩
      go_wp2_with fail
      go_quiet ((go_at_call 82; with_reducible exact Calls.quiet_of_same (HT.out _)))
      go_wp2
      go_ret3
      rw [HR.out]
      exact ⟨rfl, (HQ.out _).1, (HQ.out _).2⟩
  · have HN : Hid (∀ n, Lib.atoiAll (Hog.mk d).data.toList ≠ .ok n) := by rw [Hog.mk_data]; exact hide (fun n h => hn ⟨n, h⟩)
    have HR : Hid ((k, v, r) = (([], [], []) : List UInt8 × List UInt8 × List UInt8)) := by
      rw [← HC.out, cutP_none]
      · exact hide rfl
      · unfold Hog.lenR
        rw [hd]
        cases h : Lib.atoiAll d
        · exact absurd ⟨_, h⟩ hn
        · rfl
        · rfl
    clear hd hn
    go_enter Tryz.func64, Tryz.ntmps64
    go_wp2_with fail
    refine (scut_any s 32 d b w0 w HOK.out hs HD.out HB.out).mono ?_
    rintro e w1 ⟨⟨u, rfl⟩, ok1, hb1⟩
    have HB1 := hide hb1
    clear hb1
    go_wp2_with fail
    refine (atoi_bad (Hog.mk d) w0 w1 HE.out ok1 hds HN.out).mono ?_
    rintro e w2 ⟨⟨n, tt, pp, rfl⟩, ok2, hb2⟩
    have HB2 := hide (below_two HB1.out hb2)
    clear hb2
    go_wp2
    go_ret3
    obtain ⟨rfl, rfl, rfl⟩ : k = [] ∧ v = [] ∧ r = [] := by simpa using HR.out
    exact ⟨rfl, ok2, HB2.out⟩
end Go.Proofs.YtecjkkipglldlaaGreatDoor
/- The reader of package untar in memory; its method take. -/
namespace Go.Proofs.YtecjkkipglldlaaGreatDoor
open Go.RowKit

/-- The bytes l, in a block below g. -/
structure ArgG (w : World) (g : Nat) (ao : Option Addr) (n c : Nat) (l : List UInt8) : Prop where
  arg : ArgB w ao n c l
  low : ∀ ad, ao = some ad → 0 < n → ad.block < g
theorem ArgG.grown {w w' : World} {g : Nat} {ao : Option Addr} {n c : Nat} {l : List UInt8} (h : ArgG w g ao n c l) (hg : w.grownBy w' (some g)) : ArgG w' g ao n c l :=
  ⟨⟨h.arg.len, h.arg.none, h.arg.cap, fun ad e j u hu => by
    have h1 := h.arg.cell ad e j u hu
    have hj := (List.getElem?_eq_some_iff.1 hu).1
    rw [bcells_len, h.arg.len] at hj
    have h2 := h.low ad e (by omega)
    obtain ⟨b, o, e2, _⟩ := h.arg.plain (show 0 < n by omega)
    rw [e] at e2
    cases e2
    rw [addB_plain] at h1 ⊢
    exact hg.cell h1 (fun e3 => by cases e3; simp at h2)⟩, h.low⟩
theorem ArgG.nil (w : World) (g : Nat) : ArgG w g none 0 0 [] := ⟨ArgB.nil w, fun ad e => by cases e⟩
theorem ArgG.take {w : World} {g : Nat} {ao : Option Addr} {n c : Nat} {l : List UInt8} (h : ArgG w g ao n c l) {r : Nat} (hr : r ≤ n) : ArgG w g ao r c (l.take r) :=
  ⟨h.arg.take hr, fun ad e h0 => h.low ad e (by omega)⟩
theorem ArgG.drop {w : World} {g : Nat} {ao : Option Addr} {n c : Nat} {l : List UInt8} (h : ArgG w g ao n c l) {r : Nat} (hr : r ≤ n) : ArgG w g (cutAt ao c r) (n - r) (c - r) (l.drop r) :=
  ⟨h.arg.drop hr, fun ad e h0 => by
    obtain ⟨b, o, e2, _⟩ := h.arg.plain (show 0 < n by omega)
    subst e2
    have hc := h.arg.cap
    have h1 := h.low _ rfl (show 0 < n by omega)
    simp only [cutAt, Option.map_some, if_neg (show ¬ c = r by omega), Option.some.injEq, addB_plain] at e
    subst e
    exact h1⟩
theorem ArgG.below {w w' : World} {g : Nat} {ao : Option Addr} {n c : Nat} {l : List UInt8} (h : ArgG w g ao n c l) (hb : Below w.heap.size w w') : ArgG w' g ao n c l := ⟨h.arg.below hb, h.low⟩
theorem grown_all {w w' : World} (h : Below w.heap.size w w') (r : Option Nat) : w.grownBy w' r := ⟨h.os, h.tape, h.output, h.size, fun k hk _ => h.block k hk⟩

/-- A reader in block g: what is left. -/
def RdU (w : World) (g : Nat) (l : List UInt8) : Prop := ∃ ao n c, w.heap[g]? = some (.cells #[.slice ao n c] 66 (0, 0)) ∧ ArgG w g ao n c l
theorem RdU.lt {w : World} {g : Nat} {l : List UInt8} (h : RdU w g l) : g < w.heap.size := by
  obtain ⟨ao, n, c, hg, _⟩ := h
  exact (Array.getElem?_eq_some_iff.1 hg).1
theorem RdU.below {w w' : World} {g : Nat} {l : List UInt8} (h : RdU w g l) (hb : Below w.heap.size w w') : RdU w' g l := by
  have hlt := h.lt
  obtain ⟨ao, n, c, hg, ha⟩ := h
  exact ⟨ao, n, c, by rw [hb.block g hlt]; exact hg, ha.below hb⟩
theorem RdU.set {w : World} {g : Nat} {v : Value} (h : w.heap[g]? = some (.cells #[v] 66 (0, 0))) {ao : Option Addr} {n c : Nat} {l : List UInt8} (ha : ArgG w g ao n c l) :
    RdU (w.setCell ⟨g, 0, none⟩ (.slice ao n c)) g l :=
  ⟨ao, n, c, by rw [heap_setCell_same w g 0 _ _ _ h]; rfl, ha.grown (grown_setCell _ _ _ _)⟩

set_option maxHeartbeats 400000 in
theorem filled_ok (n f : Nat) (w : World) (hn : n < 1000000000000) (hf : Hog.fullN n = f) :
    Calls Tryz.prog 76 #[.int .i64 n] w fun e w' => e = .returned (.int .i64 f) ∧ w' = w := by
  have h1 : ((n : Int) + 512 - 1) / 512 * 512 = (f : Int) := by
    rw [← hf]
    unfold Hog.fullN
    omega
  have hf2 : f < 2000000000000 := by rw [← hf]; unfold Hog.fullN; omega
  have H1 := hide h1
  clear h1 hf
  go_enter Tryz.func76, Tryz.ntmps76
  go_wp2
  go_ret
  exact ⟨ret_int H1.out, rfl⟩
set_option maxRecDepth 100000 in
set_option maxHeartbeats 400000 in
theorem utake_out (g n : Nat) (l : List UInt8) (w : World) (h : RdU w g l) (hn : l.length < n) :
    Calls Tryz.prog 62 #[.pointer (some ⟨g, 0, none⟩), .int .i64 n] w fun e w' => e = .returned (.tuple #[.slice none 0 0, .bool false]) ∧ w' = w := by
  obtain ⟨ao, m, c, hg, ha⟩ := h
  have c0 : w.cell? ⟨g, 0, none⟩ = some (.slice ao m c) := by rw [cell_of_row w g 0 _ _ (0, 0) hg]; rfl
  have hm : (n : Int) > (m : Int) := by have := ha.arg.len; omega
  clear hg ha hn
  go_enter Tryz.func62, Tryz.ntmps62
  go_wp2
  go_ret2
  exact ⟨rfl, rfl⟩
set_option maxRecDepth 100000 in
set_option maxHeartbeats 1000000 in
theorem utake_some (g n m c f k : Nat) (ad : Addr) (w : World) (hg : w.heap[g]? = some (.cells #[.slice (some ad) m c] 66 (0, 0))) (hn : n ≤ m) (hc : m ≤ c) (hm : m < 1000000000) (hf : Hog.fullN n = f) (hk : min f m = k) :
    Calls Tryz.prog 62 #[.pointer (some ⟨g, 0, none⟩), .int .i64 n] w fun e w' => e = .returned (.tuple #[.slice (some ad) n c, .bool true]) ∧ w' = (w.setCell ⟨g, 0, none⟩ (.slice (cutAt (some ad) c k) (m - k) (c - k))).drew := by
  have c0 : w.cell? ⟨g, 0, none⟩ = some (.slice (some ad) m c) := by rw [cell_of_row w g 0 _ _ (0, 0) hg]; rfl
  have f0 : w.frozen? ⟨g, 0, none⟩ = false := frozen_of_row w g 0 _ _ hg
  have d1 : ¬ ((n : Int) > (m : Int)) := by omega
  have d2 : (n : Int) ≤ (c : Int) := by omega
  have HF := hide (filled_ok n f w.drew (by omega) hf)
  have hkm : k ≤ m := by omega
  have HK := hide hk
  have HKI : Hid (min (f : Int) (m : Int) = (k : Int)) := hide (by omega)
  have HCA : Hid ((if c = k then some ad else some (ad.add k)) = cutAt (some ad) c k) := by unfold cutAt; rw [Option.map_some]; split <;> exact hide rfl
  clear hg hf hk
  go_enter Tryz.func62, Tryz.ntmps62
  go_wp2_with fail
  have c1 : w.drew.cell? ⟨g, 0, none⟩ = some (.slice (some ad) m c) := c0
  have f1 : w.drew.frozen? ⟨g, 0, none⟩ = false := f0
  refine wp_region_any (by kernel_rfl) ?_
  change wpAny _ _ _ _ _ _ _ (World.drew _)
  refine wpAny_take (i := 0) (v := .pointer (some ⟨g, 0, none⟩)) rfl (by kernel_rfl) (by kernel_rfl) (by kernel_rfl) (fun _ _ _ h => h) (Or.inl ⟨by kernel_rfl, ?_⟩) ?_
  · intro w'; go_simp
  refine wpAny_take (i := 1) (v := .pointer (some ⟨g, 0, none⟩)) rfl (by kernel_rfl) (by kernel_rfl) (by kernel_rfl) (fun _ _ _ h => h) (Or.inl ⟨by kernel_rfl, ?_⟩) ?_
  · intro w'; go_simp
  refine wpAny_take (i := 2) (v := .pointer (some ⟨g, 0, none⟩)) rfl (by kernel_rfl) (by kernel_rfl) (by kernel_rfl) (fun _ _ _ h => h) (Or.inl ⟨by kernel_rfl, ?_⟩) ?_
  · intro w'; go_simp
  refine wpAny_take (i := 3) (v := .pointer (some ⟨g, 0, none⟩)) rfl (by kernel_rfl) (by kernel_rfl) (by kernel_rfl) (fun _ _ _ h => h) (Or.inl ⟨by kernel_rfl, ?_⟩) ?_
  · intro w'; go_simp
  refine wpAny_take (i := 5) (v := .int .i64 n) rfl (by kernel_rfl) (by kernel_rfl) (by kernel_rfl) (fun _ _ _ h => h) (Or.inl ⟨by kernel_rfl, ?_⟩) ?_
  · intro w'; go_simp
  refine wpAny_take (i := 7) (v := .pointer (some ⟨g, 0, none⟩)) rfl (by kernel_rfl) (by kernel_rfl) (by kernel_rfl) (fun _ _ _ h => h) (Or.inl ⟨by kernel_rfl, ?_⟩) ?_
  · intro w'; go_simp
  refine wpAny_take (i := 8) (v := .pointer (some ⟨g, 0, none⟩)) rfl (by kernel_rfl) (by kernel_rfl) (by kernel_rfl) (fun _ _ _ h => h) (Or.inl ⟨by kernel_rfl, ?_⟩) ?_
  · intro w'; go_simp
  refine wpAny_take (i := 9) (v := .pointer (some ⟨g, 0, none⟩)) rfl (by kernel_rfl) (by kernel_rfl) (by kernel_rfl) (fun _ _ _ h => h) (Or.inl ⟨by kernel_rfl, ?_⟩) ?_
  · intro w'; go_simp
  refine wpAny_ready (rs := [4, 6, 10]) (by kernel_rfl) (by simp) (AllReady.cons rfl ?_ (AllReady.cons rfl ?_ (AllReady.cons rfl ?_ AllReady.nil)))
  · intro K hK
    go_simp
    refine hK _ _ ?_
    clear hK K
    refine wpAny_ready (rs := [6, 10]) (by kernel_rfl) (by simp) (AllReady.cons rfl ?_ (AllReady.cons rfl ?_ AllReady.nil))
    · intro K hK
      go_simp
      refine (show Calls _ _ _ _ _ from HF.out).mono ?_
      rintro e v1 ⟨rfl, rfl⟩
      refine hK _ _ ?_
      clear hK K
      refine wpAny_ready (rs := [10]) (by kernel_rfl) (by simp) (AllReady.cons rfl ?_ AllReady.nil)
      intro K hK
      go_simp
      refine hK _ _ ?_
      clear hK K
      refine wpAny_take (i := 11) (v := .int .i64 m) rfl (by kernel_rfl) (by kernel_rfl) (by kernel_rfl) (fun _ _ _ h => h) (Or.inl ⟨by kernel_rfl, ?_⟩) ?_
      · intro w'; go_simp
      refine wpAny_take (i := 12) (v := .int .i64 k) rfl (by kernel_rfl) (by kernel_rfl) (by kernel_rfl) (fun _ _ _ h => h) (Or.inl ⟨by kernel_rfl, ?_⟩) ?_
      · intro w'; go_simp; exact HKI.out
      refine wpAny_take (i := 13) (v := .slice (cutAt (some ad) c k) (m - k) (c - k)) rfl (by kernel_rfl) (by kernel_rfl) (by kernel_rfl) (fun _ _ _ h => h) (Or.inl ⟨by kernel_rfl, ?_⟩) ?_
      · intro w'; go_simp; exact HCA.out
      refine wpAny_take (i := 14) (v := .pointer (some ⟨g, 0, none⟩)) rfl (by kernel_rfl) (by kernel_rfl) (by kernel_rfl) (fun _ _ _ h => h) (Or.inl ⟨by kernel_rfl, ?_⟩) ?_
      · intro w'; go_simp
      refine wpAny_take (i := 15) (v := .pointer (some ⟨g, 0, none⟩)) rfl (by kernel_rfl) (by kernel_rfl) (by kernel_rfl) (fun _ _ _ h => h) (Or.inl ⟨by kernel_rfl, ?_⟩) ?_
      · intro w'; go_simp
      refine wpAny_ready (rs := [16]) (by kernel_rfl) (by simp) (AllReady.cons rfl ?_ AllReady.nil)
      intro K hK
      go_simp
      refine hK _ _ ?_
      clear hK K
      refine wpAny_done (by kernel_rfl) ?_ _
      go_wp2
      go_ret2
      exact ⟨rfl, rfl⟩
    · intro K hK
      go_simp
      refine hK _ _ ?_
      clear hK K
      refine wpAny_take (i := 11) (v := .int .i64 m) rfl (by kernel_rfl) (by kernel_rfl) (by kernel_rfl) (fun _ _ _ h => h) (Or.inl ⟨by kernel_rfl, ?_⟩) ?_
      · intro w'; go_simp
      refine wpAny_ready (rs := [6]) (by kernel_rfl) (by simp) (AllReady.cons rfl ?_ AllReady.nil)
      intro K hK
      go_simp
      refine (show Calls _ _ _ _ _ from HF.out).mono ?_
      rintro e v1 ⟨rfl, rfl⟩
      refine hK _ _ ?_
      clear hK K
      refine wpAny_take (i := 12) (v := .int .i64 k) rfl (by kernel_rfl) (by kernel_rfl) (by kernel_rfl) (fun _ _ _ h => h) (Or.inl ⟨by kernel_rfl, ?_⟩) ?_
      · intro w'; go_simp; exact HKI.out
      refine wpAny_take (i := 13) (v := .slice (cutAt (some ad) c k) (m - k) (c - k)) rfl (by kernel_rfl) (by kernel_rfl) (by kernel_rfl) (fun _ _ _ h => h) (Or.inl ⟨by kernel_rfl, ?_⟩) ?_
      · intro w'; go_simp; exact HCA.out
      refine wpAny_take (i := 14) (v := .pointer (some ⟨g, 0, none⟩)) rfl (by kernel_rfl) (by kernel_rfl) (by kernel_rfl) (fun _ _ _ h => h) (Or.inl ⟨by kernel_rfl, ?_⟩) ?_
      · intro w'; go_simp
      refine wpAny_take (i := 15) (v := .pointer (some ⟨g, 0, none⟩)) rfl (by kernel_rfl) (by kernel_rfl) (by kernel_rfl) (fun _ _ _ h => h) (Or.inl ⟨by kernel_rfl, ?_⟩) ?_
      · intro w'; go_simp
      refine wpAny_ready (rs := [16]) (by kernel_rfl) (by simp) (AllReady.cons rfl ?_ AllReady.nil)
      intro K hK
      go_simp
      refine hK _ _ ?_
      clear hK K
      refine wpAny_done (by kernel_rfl) ?_ _
      go_wp2
      go_ret2
      exact ⟨rfl, rfl⟩
  · intro K hK
    go_simp
    refine (show Calls _ _ _ _ _ from HF.out).mono ?_
    rintro e v1 ⟨rfl, rfl⟩
    refine hK _ _ ?_
    clear hK K
    refine wpAny_ready (rs := [4, 10]) (by kernel_rfl) (by simp) (AllReady.cons rfl ?_ (AllReady.cons rfl ?_ AllReady.nil))
    · intro K hK
      go_simp
      refine hK _ _ ?_
      clear hK K
      refine wpAny_ready (rs := [10]) (by kernel_rfl) (by simp) (AllReady.cons rfl ?_ AllReady.nil)
      intro K hK
      go_simp
      refine hK _ _ ?_
      clear hK K
      refine wpAny_take (i := 11) (v := .int .i64 m) rfl (by kernel_rfl) (by kernel_rfl) (by kernel_rfl) (fun _ _ _ h => h) (Or.inl ⟨by kernel_rfl, ?_⟩) ?_
      · intro w'; go_simp
      refine wpAny_take (i := 12) (v := .int .i64 k) rfl (by kernel_rfl) (by kernel_rfl) (by kernel_rfl) (fun _ _ _ h => h) (Or.inl ⟨by kernel_rfl, ?_⟩) ?_
      · intro w'; go_simp; exact HKI.out
      refine wpAny_take (i := 13) (v := .slice (cutAt (some ad) c k) (m - k) (c - k)) rfl (by kernel_rfl) (by kernel_rfl) (by kernel_rfl) (fun _ _ _ h => h) (Or.inl ⟨by kernel_rfl, ?_⟩) ?_
      · intro w'; go_simp; exact HCA.out
      refine wpAny_take (i := 14) (v := .pointer (some ⟨g, 0, none⟩)) rfl (by kernel_rfl) (by kernel_rfl) (by kernel_rfl) (fun _ _ _ h => h) (Or.inl ⟨by kernel_rfl, ?_⟩) ?_
      · intro w'; go_simp
      refine wpAny_take (i := 15) (v := .pointer (some ⟨g, 0, none⟩)) rfl (by kernel_rfl) (by kernel_rfl) (by kernel_rfl) (fun _ _ _ h => h) (Or.inl ⟨by kernel_rfl, ?_⟩) ?_
      · intro w'; go_simp
      refine wpAny_ready (rs := [16]) (by kernel_rfl) (by simp) (AllReady.cons rfl ?_ AllReady.nil)
      intro K hK
      go_simp
      refine hK _ _ ?_
      clear hK K
      refine wpAny_done (by kernel_rfl) ?_ _
      go_wp2
      go_ret2
      exact ⟨rfl, rfl⟩
    · intro K hK
      go_simp
      refine hK _ _ ?_
      clear hK K
      refine wpAny_take (i := 11) (v := .int .i64 m) rfl (by kernel_rfl) (by kernel_rfl) (by kernel_rfl) (fun _ _ _ h => h) (Or.inl ⟨by kernel_rfl, ?_⟩) ?_
      · intro w'; go_simp
      refine wpAny_take (i := 12) (v := .int .i64 k) rfl (by kernel_rfl) (by kernel_rfl) (by kernel_rfl) (fun _ _ _ h => h) (Or.inl ⟨by kernel_rfl, ?_⟩) ?_
      · intro w'; go_simp; exact HKI.out
      refine wpAny_ready (rs := [4]) (by kernel_rfl) (by simp) (AllReady.cons rfl ?_ AllReady.nil)
      intro K hK
      go_simp
      refine hK _ _ ?_
      clear hK K
      refine wpAny_take (i := 13) (v := .slice (cutAt (some ad) c k) (m - k) (c - k)) rfl (by kernel_rfl) (by kernel_rfl) (by kernel_rfl) (fun _ _ _ h => h) (Or.inl ⟨by kernel_rfl, ?_⟩) ?_
      · intro w'; go_simp; exact HCA.out
      refine wpAny_take (i := 14) (v := .pointer (some ⟨g, 0, none⟩)) rfl (by kernel_rfl) (by kernel_rfl) (by kernel_rfl) (fun _ _ _ h => h) (Or.inl ⟨by kernel_rfl, ?_⟩) ?_
      · intro w'; go_simp
      refine wpAny_take (i := 15) (v := .pointer (some ⟨g, 0, none⟩)) rfl (by kernel_rfl) (by kernel_rfl) (by kernel_rfl) (fun _ _ _ h => h) (Or.inl ⟨by kernel_rfl, ?_⟩) ?_
      · intro w'; go_simp
      refine wpAny_ready (rs := [16]) (by kernel_rfl) (by simp) (AllReady.cons rfl ?_ AllReady.nil)
      intro K hK
      go_simp
      refine hK _ _ ?_
      clear hK K
      refine wpAny_done (by kernel_rfl) ?_ _
      go_wp2
      go_ret2
      exact ⟨rfl, rfl⟩
  · intro K hK
    go_simp
    refine hK _ _ ?_
    clear hK K
    refine wpAny_take (i := 11) (v := .int .i64 m) rfl (by kernel_rfl) (by kernel_rfl) (by kernel_rfl) (fun _ _ _ h => h) (Or.inl ⟨by kernel_rfl, ?_⟩) ?_
    · intro w'; go_simp
    refine wpAny_ready (rs := [4, 6]) (by kernel_rfl) (by simp) (AllReady.cons rfl ?_ (AllReady.cons rfl ?_ AllReady.nil))
    · intro K hK
      go_simp
      refine hK _ _ ?_
      clear hK K
      refine wpAny_ready (rs := [6]) (by kernel_rfl) (by simp) (AllReady.cons rfl ?_ AllReady.nil)
      intro K hK
      go_simp
      refine (show Calls _ _ _ _ _ from HF.out).mono ?_
      rintro e v1 ⟨rfl, rfl⟩
      refine hK _ _ ?_
      clear hK K
      refine wpAny_take (i := 12) (v := .int .i64 k) rfl (by kernel_rfl) (by kernel_rfl) (by kernel_rfl) (fun _ _ _ h => h) (Or.inl ⟨by kernel_rfl, ?_⟩) ?_
      · intro w'; go_simp; exact HKI.out
      refine wpAny_take (i := 13) (v := .slice (cutAt (some ad) c k) (m - k) (c - k)) rfl (by kernel_rfl) (by kernel_rfl) (by kernel_rfl) (fun _ _ _ h => h) (Or.inl ⟨by kernel_rfl, ?_⟩) ?_
      · intro w'; go_simp; exact HCA.out
      refine wpAny_take (i := 14) (v := .pointer (some ⟨g, 0, none⟩)) rfl (by kernel_rfl) (by kernel_rfl) (by kernel_rfl) (fun _ _ _ h => h) (Or.inl ⟨by kernel_rfl, ?_⟩) ?_
      · intro w'; go_simp
      refine wpAny_take (i := 15) (v := .pointer (some ⟨g, 0, none⟩)) rfl (by kernel_rfl) (by kernel_rfl) (by kernel_rfl) (fun _ _ _ h => h) (Or.inl ⟨by kernel_rfl, ?_⟩) ?_
      · intro w'; go_simp
      refine wpAny_ready (rs := [16]) (by kernel_rfl) (by simp) (AllReady.cons rfl ?_ AllReady.nil)
      intro K hK
      go_simp
      refine hK _ _ ?_
      clear hK K
      refine wpAny_done (by kernel_rfl) ?_ _
      go_wp2
      go_ret2
      exact ⟨rfl, rfl⟩
    · intro K hK
      go_simp
      refine (show Calls _ _ _ _ _ from HF.out).mono ?_
      rintro e v1 ⟨rfl, rfl⟩
      refine hK _ _ ?_
      clear hK K
      refine wpAny_take (i := 12) (v := .int .i64 k) rfl (by kernel_rfl) (by kernel_rfl) (by kernel_rfl) (fun _ _ _ h => h) (Or.inl ⟨by kernel_rfl, ?_⟩) ?_
      · intro w'; go_simp; exact HKI.out
      refine wpAny_ready (rs := [4]) (by kernel_rfl) (by simp) (AllReady.cons rfl ?_ AllReady.nil)
      intro K hK
      go_simp
      refine hK _ _ ?_
      clear hK K
      refine wpAny_take (i := 13) (v := .slice (cutAt (some ad) c k) (m - k) (c - k)) rfl (by kernel_rfl) (by kernel_rfl) (by kernel_rfl) (fun _ _ _ h => h) (Or.inl ⟨by kernel_rfl, ?_⟩) ?_
      · intro w'; go_simp; exact HCA.out
      refine wpAny_take (i := 14) (v := .pointer (some ⟨g, 0, none⟩)) rfl (by kernel_rfl) (by kernel_rfl) (by kernel_rfl) (fun _ _ _ h => h) (Or.inl ⟨by kernel_rfl, ?_⟩) ?_
      · intro w'; go_simp
      refine wpAny_take (i := 15) (v := .pointer (some ⟨g, 0, none⟩)) rfl (by kernel_rfl) (by kernel_rfl) (by kernel_rfl) (fun _ _ _ h => h) (Or.inl ⟨by kernel_rfl, ?_⟩) ?_
      · intro w'; go_simp
      refine wpAny_ready (rs := [16]) (by kernel_rfl) (by simp) (AllReady.cons rfl ?_ AllReady.nil)
      intro K hK
      go_simp
      refine hK _ _ ?_
      clear hK K
      refine wpAny_done (by kernel_rfl) ?_ _
      go_wp2
      go_ret2
      exact ⟨rfl, rfl⟩
set_option maxRecDepth 100000 in
set_option maxHeartbeats 1000000 in
theorem utake_nil (g : Nat) (w : World) (hg : w.heap[g]? = some (.cells #[.slice none 0 0] 66 (0, 0))) :
    Calls Tryz.prog 62 #[.pointer (some ⟨g, 0, none⟩), .int .i64 (0 : Nat)] w fun e w' => e = .returned (.tuple #[.slice none 0 0, .bool true]) ∧ w' = (w.setCell ⟨g, 0, none⟩ (.slice none 0 0)).drew := by
  have c0 : w.cell? ⟨g, 0, none⟩ = some (.slice none 0 0) := by rw [cell_of_row w g 0 _ _ (0, 0) hg]; rfl
  have f0 : w.frozen? ⟨g, 0, none⟩ = false := frozen_of_row w g 0 _ _ hg
  have HF := hide (filled_ok 0 0 w.drew (by omega) rfl)
  clear hg
  go_enter Tryz.func62, Tryz.ntmps62
  go_wp2_with fail
  have c1 : w.drew.cell? ⟨g, 0, none⟩ = some (.slice none 0 0) := c0
  have f1 : w.drew.frozen? ⟨g, 0, none⟩ = false := f0
  refine wp_region_any (by kernel_rfl) ?_
  change wpAny _ _ _ _ _ _ _ (World.drew _)
  refine wpAny_take (i := 0) (v := .pointer (some ⟨g, 0, none⟩)) rfl (by kernel_rfl) (by kernel_rfl) (by kernel_rfl) (fun _ _ _ h => h) (Or.inl ⟨by kernel_rfl, ?_⟩) ?_
  · intro w'; go_simp
  refine wpAny_take (i := 1) (v := .pointer (some ⟨g, 0, none⟩)) rfl (by kernel_rfl) (by kernel_rfl) (by kernel_rfl) (fun _ _ _ h => h) (Or.inl ⟨by kernel_rfl, ?_⟩) ?_
  · intro w'; go_simp
  refine wpAny_take (i := 2) (v := .pointer (some ⟨g, 0, none⟩)) rfl (by kernel_rfl) (by kernel_rfl) (by kernel_rfl) (fun _ _ _ h => h) (Or.inl ⟨by kernel_rfl, ?_⟩) ?_
  · intro w'; go_simp
  refine wpAny_take (i := 3) (v := .pointer (some ⟨g, 0, none⟩)) rfl (by kernel_rfl) (by kernel_rfl) (by kernel_rfl) (fun _ _ _ h => h) (Or.inl ⟨by kernel_rfl, ?_⟩) ?_
  · intro w'; go_simp
  refine wpAny_take (i := 5) (v := .int .i64 (0 : Nat)) rfl (by kernel_rfl) (by kernel_rfl) (by kernel_rfl) (fun _ _ _ h => h) (Or.inl ⟨by kernel_rfl, ?_⟩) ?_
  · intro w'; go_simp
  refine wpAny_take (i := 7) (v := .pointer (some ⟨g, 0, none⟩)) rfl (by kernel_rfl) (by kernel_rfl) (by kernel_rfl) (fun _ _ _ h => h) (Or.inl ⟨by kernel_rfl, ?_⟩) ?_
  · intro w'; go_simp
  refine wpAny_take (i := 8) (v := .pointer (some ⟨g, 0, none⟩)) rfl (by kernel_rfl) (by kernel_rfl) (by kernel_rfl) (fun _ _ _ h => h) (Or.inl ⟨by kernel_rfl, ?_⟩) ?_
  · intro w'; go_simp
  refine wpAny_take (i := 9) (v := .pointer (some ⟨g, 0, none⟩)) rfl (by kernel_rfl) (by kernel_rfl) (by kernel_rfl) (fun _ _ _ h => h) (Or.inl ⟨by kernel_rfl, ?_⟩) ?_
  · intro w'; go_simp
  refine wpAny_ready (rs := [4, 6, 10]) (by kernel_rfl) (by simp) (AllReady.cons rfl ?_ (AllReady.cons rfl ?_ (AllReady.cons rfl ?_ AllReady.nil)))
  · intro K hK
    go_simp
    refine hK _ _ ?_
    clear hK K
    refine wpAny_ready (rs := [6, 10]) (by kernel_rfl) (by simp) (AllReady.cons rfl ?_ (AllReady.cons rfl ?_ AllReady.nil))
    · intro K hK
      go_simp
      refine (show Calls _ _ _ _ _ from HF.out).mono ?_
      rintro e v1 ⟨rfl, rfl⟩
      refine hK _ _ ?_
      clear hK K
      refine wpAny_ready (rs := [10]) (by kernel_rfl) (by simp) (AllReady.cons rfl ?_ AllReady.nil)
      intro K hK
      go_simp
      refine hK _ _ ?_
      clear hK K
      refine wpAny_take (i := 11) (v := .int .i64 (0 : Nat)) rfl (by kernel_rfl) (by kernel_rfl) (by kernel_rfl) (fun _ _ _ h => h) (Or.inl ⟨by kernel_rfl, ?_⟩) ?_
      · intro w'; go_simp
      refine wpAny_take (i := 12) (v := .int .i64 (0 : Nat)) rfl (by kernel_rfl) (by kernel_rfl) (by kernel_rfl) (fun _ _ _ h => h) (Or.inl ⟨by kernel_rfl, ?_⟩) ?_
      · intro w'; go_simp
      refine wpAny_take (i := 13) (v := .slice none 0 0) rfl (by kernel_rfl) (by kernel_rfl) (by kernel_rfl) (fun _ _ _ h => h) (Or.inl ⟨by kernel_rfl, ?_⟩) ?_
      · intro w'; go_simp
      refine wpAny_take (i := 14) (v := .pointer (some ⟨g, 0, none⟩)) rfl (by kernel_rfl) (by kernel_rfl) (by kernel_rfl) (fun _ _ _ h => h) (Or.inl ⟨by kernel_rfl, ?_⟩) ?_
      · intro w'; go_simp
      refine wpAny_take (i := 15) (v := .pointer (some ⟨g, 0, none⟩)) rfl (by kernel_rfl) (by kernel_rfl) (by kernel_rfl) (fun _ _ _ h => h) (Or.inl ⟨by kernel_rfl, ?_⟩) ?_
      · intro w'; go_simp
      refine wpAny_ready (rs := [16]) (by kernel_rfl) (by simp) (AllReady.cons rfl ?_ AllReady.nil)
      intro K hK
      go_simp
      refine hK _ _ ?_
      clear hK K
      refine wpAny_done (by kernel_rfl) ?_ _
      go_wp2
      go_ret2
      exact ⟨rfl, rfl⟩
    · intro K hK
      go_simp
      refine hK _ _ ?_
      clear hK K
      refine wpAny_take (i := 11) (v := .int .i64 (0 : Nat)) rfl (by kernel_rfl) (by kernel_rfl) (by kernel_rfl) (fun _ _ _ h => h) (Or.inl ⟨by kernel_rfl, ?_⟩) ?_
      · intro w'; go_simp
      refine wpAny_ready (rs := [6]) (by kernel_rfl) (by simp) (AllReady.cons rfl ?_ AllReady.nil)
      intro K hK
      go_simp
      refine (show Calls _ _ _ _ _ from HF.out).mono ?_
      rintro e v1 ⟨rfl, rfl⟩
      refine hK _ _ ?_
      clear hK K
      refine wpAny_take (i := 12) (v := .int .i64 (0 : Nat)) rfl (by kernel_rfl) (by kernel_rfl) (by kernel_rfl) (fun _ _ _ h => h) (Or.inl ⟨by kernel_rfl, ?_⟩) ?_
      · intro w'; go_simp
      refine wpAny_take (i := 13) (v := .slice none 0 0) rfl (by kernel_rfl) (by kernel_rfl) (by kernel_rfl) (fun _ _ _ h => h) (Or.inl ⟨by kernel_rfl, ?_⟩) ?_
      · intro w'; go_simp
      refine wpAny_take (i := 14) (v := .pointer (some ⟨g, 0, none⟩)) rfl (by kernel_rfl) (by kernel_rfl) (by kernel_rfl) (fun _ _ _ h => h) (Or.inl ⟨by kernel_rfl, ?_⟩) ?_
      · intro w'; go_simp
      refine wpAny_take (i := 15) (v := .pointer (some ⟨g, 0, none⟩)) rfl (by kernel_rfl) (by kernel_rfl) (by kernel_rfl) (fun _ _ _ h => h) (Or.inl ⟨by kernel_rfl, ?_⟩) ?_
      · intro w'; go_simp
      refine wpAny_ready (rs := [16]) (by kernel_rfl) (by simp) (AllReady.cons rfl ?_ AllReady.nil)
      intro K hK
      go_simp
      refine hK _ _ ?_
      clear hK K
      refine wpAny_done (by kernel_rfl) ?_ _
      go_wp2
      go_ret2
      exact ⟨rfl, rfl⟩
  · intro K hK
    go_simp
    refine (show Calls _ _ _ _ _ from HF.out).mono ?_
    rintro e v1 ⟨rfl, rfl⟩
    refine hK _ _ ?_
    clear hK K
    refine wpAny_ready (rs := [4, 10]) (by kernel_rfl) (by simp) (AllReady.cons rfl ?_ (AllReady.cons rfl ?_ AllReady.nil))
    · intro K hK
      go_simp
      refine hK _ _ ?_
      clear hK K
      refine wpAny_ready (rs := [10]) (by kernel_rfl) (by simp) (AllReady.cons rfl ?_ AllReady.nil)
      intro K hK
      go_simp
      refine hK _ _ ?_
      clear hK K
      refine wpAny_take (i := 11) (v := .int .i64 (0 : Nat)) rfl (by kernel_rfl) (by kernel_rfl) (by kernel_rfl) (fun _ _ _ h => h) (Or.inl ⟨by kernel_rfl, ?_⟩) ?_
      · intro w'; go_simp
      refine wpAny_take (i := 12) (v := .int .i64 (0 : Nat)) rfl (by kernel_rfl) (by kernel_rfl) (by kernel_rfl) (fun _ _ _ h => h) (Or.inl ⟨by kernel_rfl, ?_⟩) ?_
      · intro w'; go_simp
      refine wpAny_take (i := 13) (v := .slice none 0 0) rfl (by kernel_rfl) (by kernel_rfl) (by kernel_rfl) (fun _ _ _ h => h) (Or.inl ⟨by kernel_rfl, ?_⟩) ?_
      · intro w'; go_simp
      refine wpAny_take (i := 14) (v := .pointer (some ⟨g, 0, none⟩)) rfl (by kernel_rfl) (by kernel_rfl) (by kernel_rfl) (fun _ _ _ h => h) (Or.inl ⟨by kernel_rfl, ?_⟩) ?_
      · intro w'; go_simp
      refine wpAny_take (i := 15) (v := .pointer (some ⟨g, 0, none⟩)) rfl (by kernel_rfl) (by kernel_rfl) (by kernel_rfl) (fun _ _ _ h => h) (Or.inl ⟨by kernel_rfl, ?_⟩) ?_
      · intro w'; go_simp
      refine wpAny_ready (rs := [16]) (by kernel_rfl) (by simp) (AllReady.cons rfl ?_ AllReady.nil)
      intro K hK
      go_simp
      refine hK _ _ ?_
      clear hK K
      refine wpAny_done (by kernel_rfl) ?_ _
      go_wp2
      go_ret2
      exact ⟨rfl, rfl⟩
    · intro K hK
      go_simp
      refine hK _ _ ?_
      clear hK K
      refine wpAny_take (i := 11) (v := .int .i64 (0 : Nat)) rfl (by kernel_rfl) (by kernel_rfl) (by kernel_rfl) (fun _ _ _ h => h) (Or.inl ⟨by kernel_rfl, ?_⟩) ?_
      · intro w'; go_simp
      refine wpAny_take (i := 12) (v := .int .i64 (0 : Nat)) rfl (by kernel_rfl) (by kernel_rfl) (by kernel_rfl) (fun _ _ _ h => h) (Or.inl ⟨by kernel_rfl, ?_⟩) ?_
      · intro w'; go_simp
      refine wpAny_ready (rs := [4]) (by kernel_rfl) (by simp) (AllReady.cons rfl ?_ AllReady.nil)
      intro K hK
      go_simp
      refine hK _ _ ?_
      clear hK K
      refine wpAny_take (i := 13) (v := .slice none 0 0) rfl (by kernel_rfl) (by kernel_rfl) (by kernel_rfl) (fun _ _ _ h => h) (Or.inl ⟨by kernel_rfl, ?_⟩) ?_
      · intro w'; go_simp
      refine wpAny_take (i := 14) (v := .pointer (some ⟨g, 0, none⟩)) rfl (by kernel_rfl) (by kernel_rfl) (by kernel_rfl) (fun _ _ _ h => h) (Or.inl ⟨by kernel_rfl, ?_⟩) ?_
      · intro w'; go_simp
      refine wpAny_take (i := 15) (v := .pointer (some ⟨g, 0, none⟩)) rfl (by kernel_rfl) (by kernel_rfl) (by kernel_rfl) (fun _ _ _ h => h) (Or.inl ⟨by kernel_rfl, ?_⟩) ?_
      · intro w'; go_simp
      refine wpAny_ready (rs := [16]) (by kernel_rfl) (by simp) (AllReady.cons rfl ?_ AllReady.nil)
      intro K hK
      go_simp
      refine hK _ _ ?_
      clear hK K
      refine wpAny_done (by kernel_rfl) ?_ _
      go_wp2
      go_ret2
      exact ⟨rfl, rfl⟩
  · intro K hK
    go_simp
    refine hK _ _ ?_
    clear hK K
    refine wpAny_take (i := 11) (v := .int .i64 (0 : Nat)) rfl (by kernel_rfl) (by kernel_rfl) (by kernel_rfl) (fun _ _ _ h => h) (Or.inl ⟨by kernel_rfl, ?_⟩) ?_
    · intro w'; go_simp
    refine wpAny_ready (rs := [4, 6]) (by kernel_rfl) (by simp) (AllReady.cons rfl ?_ (AllReady.cons rfl ?_ AllReady.nil))
    · intro K hK
      go_simp
      refine hK _ _ ?_
      clear hK K
      refine wpAny_ready (rs := [6]) (by kernel_rfl) (by simp) (AllReady.cons rfl ?_ AllReady.nil)
      intro K hK
      go_simp
      refine (show Calls _ _ _ _ _ from HF.out).mono ?_
      rintro e v1 ⟨rfl, rfl⟩
      refine hK _ _ ?_
      clear hK K
      refine wpAny_take (i := 12) (v := .int .i64 (0 : Nat)) rfl (by kernel_rfl) (by kernel_rfl) (by kernel_rfl) (fun _ _ _ h => h) (Or.inl ⟨by kernel_rfl, ?_⟩) ?_
      · intro w'; go_simp
      refine wpAny_take (i := 13) (v := .slice none 0 0) rfl (by kernel_rfl) (by kernel_rfl) (by kernel_rfl) (fun _ _ _ h => h) (Or.inl ⟨by kernel_rfl, ?_⟩) ?_
      · intro w'; go_simp
      refine wpAny_take (i := 14) (v := .pointer (some ⟨g, 0, none⟩)) rfl (by kernel_rfl) (by kernel_rfl) (by kernel_rfl) (fun _ _ _ h => h) (Or.inl ⟨by kernel_rfl, ?_⟩) ?_
      · intro w'; go_simp
      refine wpAny_take (i := 15) (v := .pointer (some ⟨g, 0, none⟩)) rfl (by kernel_rfl) (by kernel_rfl) (by kernel_rfl) (fun _ _ _ h => h) (Or.inl ⟨by kernel_rfl, ?_⟩) ?_
      · intro w'; go_simp
      refine wpAny_ready (rs := [16]) (by kernel_rfl) (by simp) (AllReady.cons rfl ?_ AllReady.nil)
      intro K hK
      go_simp
      refine hK _ _ ?_
      clear hK K
      refine wpAny_done (by kernel_rfl) ?_ _
      go_wp2
      go_ret2
      exact ⟨rfl, rfl⟩
    · intro K hK
      go_simp
      refine (show Calls _ _ _ _ _ from HF.out).mono ?_
      rintro e v1 ⟨rfl, rfl⟩
      refine hK _ _ ?_
      clear hK K
      refine wpAny_take (i := 12) (v := .int .i64 (0 : Nat)) rfl (by kernel_rfl) (by kernel_rfl) (by kernel_rfl) (fun _ _ _ h => h) (Or.inl ⟨by kernel_rfl, ?_⟩) ?_
      · intro w'; go_simp
      refine wpAny_ready (rs := [4]) (by kernel_rfl) (by simp) (AllReady.cons rfl ?_ AllReady.nil)
      intro K hK
      go_simp
      refine hK _ _ ?_
      clear hK K
      refine wpAny_take (i := 13) (v := .slice none 0 0) rfl (by kernel_rfl) (by kernel_rfl) (by kernel_rfl) (fun _ _ _ h => h) (Or.inl ⟨by kernel_rfl, ?_⟩) ?_
      · intro w'; go_simp
      refine wpAny_take (i := 14) (v := .pointer (some ⟨g, 0, none⟩)) rfl (by kernel_rfl) (by kernel_rfl) (by kernel_rfl) (fun _ _ _ h => h) (Or.inl ⟨by kernel_rfl, ?_⟩) ?_
      · intro w'; go_simp
      refine wpAny_take (i := 15) (v := .pointer (some ⟨g, 0, none⟩)) rfl (by kernel_rfl) (by kernel_rfl) (by kernel_rfl) (fun _ _ _ h => h) (Or.inl ⟨by kernel_rfl, ?_⟩) ?_
      · intro w'; go_simp
      refine wpAny_ready (rs := [16]) (by kernel_rfl) (by simp) (AllReady.cons rfl ?_ AllReady.nil)
      intro K hK
      go_simp
      refine hK _ _ ?_
      clear hK K
      refine wpAny_done (by kernel_rfl) ?_ _
      go_wp2
      go_ret2
      exact ⟨rfl, rfl⟩
theorem utake_ok (g n : Nat) (l x l' : List UInt8) (w : World) (h : RdU w g l) (hl : l.length < 1000000000) (hn : n ≤ l.length) (hx : l.take n = x) (hl' : l.drop (min (Hog.fullN n) l.length) = l') :
    Calls Tryz.prog 62 #[.pointer (some ⟨g, 0, none⟩), .int .i64 n] w fun e w' => ∃ b c, e = .returned (.tuple #[.slice b n c, .bool true]) ∧ ArgG w' g b n c x ∧ RdU w' g l' ∧ w.grownBy w' (some g) := by
  obtain ⟨ao, m, c, hg, ha⟩ := h
  have hml := ha.arg.len
  have hmc := ha.arg.cap
  cases ao with
  | none =>
    have hz := ha.arg.none rfl
    obtain ⟨rfl, rfl⟩ : m = 0 ∧ c = 0 := by omega
    obtain rfl : n = 0 := by omega
    have hl0 : l = [] := List.eq_nil_of_length_eq_zero hml
    subst hl0
    subst hx
    subst hl'
    refine (utake_nil g w hg).mono ?_
    rintro e w' ⟨rfl, rfl⟩
    have hb := (Below.refl (w.setCell ⟨g, 0, none⟩ (.slice none 0 0)).heap.size (w.setCell ⟨g, 0, none⟩ (.slice none 0 0))).drew
    refine ⟨none, 0, rfl, ?_, ?_, grown_trans (grown_setCell w g 0 _) (grown_all hb _)⟩
    · exact ArgG.nil _ _
    · exact (RdU.set hg (ArgG.nil w g)).below hb
  | some ad =>
    obtain ⟨k, hk⟩ : ∃ k, min (Hog.fullN n) m = k := ⟨_, rfl⟩
    have hkm : k ≤ m := by omega
    refine (utake_some g n m c _ k ad w hg (by omega) hmc (by omega) rfl hk).mono ?_
    rintro e w' ⟨rfl, rfl⟩
    have hb := (Below.refl (w.setCell ⟨g, 0, none⟩ (.slice (cutAt (some ad) c k) (m - k) (c - k))).heap.size (w.setCell ⟨g, 0, none⟩ (.slice (cutAt (some ad) c k) (m - k) (c - k)))).drew
    refine ⟨some ad, c, rfl, ?_, ?_, grown_trans (grown_setCell w g 0 _) (grown_all hb _)⟩
    · rw [← hx]
      exact ((ha.take (by omega)).grown (grown_setCell _ _ _ _)).below hb
    · rw [← hl', hml, hk]
      exact (RdU.set hg (ha.drop hkm)).below hb
end Go.Proofs.YtecjkkipglldlaaGreatDoor
/- Entries in memory: the walks of package untar's methods of an entry: node, amend. -/
namespace Go.Proofs.YtecjkkipglldlaaGreatDoor
open Go.RowKit

theorem results_row_tmp {P : Program} {fn : Func} {p u : Tmp} {ty : TypeId} (h : fn.results = #[.cell p ty, .tmp u]) (tmps : Array Value) (w : World) (g : Nat) (t : TypeId) (cs : Array Value) (fr : Nat × Nat) (d : TypeDesc)
    (hp : tmps.getD p undef = .pointer (some ⟨g, 0, none⟩)) (hg : w.heap[g]? = some (.cells cs t fr))
    (hu : P.underlying ty = some d) (hd : (match d with | .struct _ | .array _ _ => true | _ => false) = true) (hi : (P.info? ty).map (·.size) = some cs.size) :
    (results fn tmps).run P w = .ok (.tuple #[.agg cs, tmps.getD u undef]) w := by
  rw [results_cell_tmp h, hp]
  simp only [asAddr, Sem.run_pure, Result.andThen_ok, run_loadVar_row w g t ty cs fr d hg hu hd hi]
theorem struct_entryU : Tryz.prog.underlying 88 = some (.struct (Tryz.prog.fieldsOf 88)) := by kernel_rfl
theorem size_of_entryU : (Tryz.prog.info? 88).map (·.size) = some 4 := by kernel_rfl
theorem size_of_nodeU : (Tryz.prog.info? 38).map (·.size) = some 3 := by kernel_rfl
/-- An entry as a value. -/
def evU (nm : List UInt8) (k : Int) (lk d : List UInt8) : Value := .agg #[.string (Hog.mk nm), .int .i64 k, .string (Hog.mk lk), .string (Hog.mk d)]
def nvU (x : Nd) : Value := .agg #[.string x.1, .int .i64 x.2.1, .string x.2.2]
/-- An entry in block g. -/
def BoxE (w : World) (g : Nat) (nm : List UInt8) (k : Int) (lk d : List UInt8) : Prop := w.heap[g]? = some (.cells #[.string (Hog.mk nm), .int .i64 k, .string (Hog.mk lk), .string (Hog.mk d)] 88 (0, 0))
theorem BoxE.facts {w : World} {g : Nat} {nm : List UInt8} {k : Int} {lk d : List UInt8} (h : BoxE w g nm k lk d) :
    (w.cell? ⟨g, 0, none⟩ = some (.string (Hog.mk nm)) ∧ w.cell? ⟨g, 1, none⟩ = some (.int .i64 k) ∧ w.cell? ⟨g, 2, none⟩ = some (.string (Hog.mk lk)) ∧ w.cell? ⟨g, 3, none⟩ = some (.string (Hog.mk d))) ∧
    (w.frozen? ⟨g, 0, none⟩ = false ∧ w.frozen? ⟨g, 1, none⟩ = false ∧ w.frozen? ⟨g, 2, none⟩ = false ∧ w.frozen? ⟨g, 3, none⟩ = false) ∧ g < w.heap.size :=
  ⟨⟨by rw [cell_of_row w g 0 _ _ (0, 0) h]; rfl, by rw [cell_of_row w g 1 _ _ (0, 0) h]; rfl, by rw [cell_of_row w g 2 _ _ (0, 0) h]; rfl, by rw [cell_of_row w g 3 _ _ (0, 0) h]; rfl⟩,
   ⟨frozen_of_row w g 0 _ _ h, frozen_of_row w g 1 _ _ h, frozen_of_row w g 2 _ _ h, frozen_of_row w g 3 _ _ h⟩, (Array.getElem?_eq_some_iff.1 h).1⟩
theorem BoxE.below {w w' : World} {g : Nat} {nm : List UInt8} {k : Int} {lk d : List UInt8} (h : BoxE w g nm k lk d) (hb : Below w.heap.size w w') : BoxE w' g nm k lk d := by
  have hlt := h.facts.2.2
  unfold BoxE at *
  rw [hb.block g hlt]; exact h
theorem BoxE.grown {w w' : World} {g : Nat} {nm : List UInt8} {k : Int} {lk d : List UInt8} {row : Option Nat} (h : BoxE w g nm k lk d) (hg : w.grownBy w' row) (hr : row ≠ some g) : BoxE w' g nm k lk d := by
  have hlt := h.facts.2.2
  unfold BoxE at *
  rw [hg.block g hlt (fun e => hr e.symm)]; exact h
theorem BoxE.name {w : World} {g : Nat} {nm : List UInt8} {k : Int} {lk d : List UInt8} (h : BoxE w g nm k lk d) (x : List UInt8) : BoxE (w.setCell ⟨g, 0, none⟩ (.string (Hog.mk x))) g x k lk d := by
  unfold BoxE
  rw [heap_setCell_same w g 0 _ _ _ h]; rfl
theorem BoxE.link {w : World} {g : Nat} {nm : List UInt8} {k : Int} {lk d : List UInt8} (h : BoxE w g nm k lk d) (x : List UInt8) : BoxE (w.setCell ⟨g, 2, none⟩ (.string (Hog.mk x))) g nm k x d := by
  unfold BoxE
  rw [heap_setCell_same w g 2 _ _ _ h]; rfl

theorem dot_test (nm : List UInt8) (b : Bool) (h : decide (nm = [46]) = b) : ((Hog.mk nm).toList == [46]) = b := by
  rw [Hog.mk_toList, ← h, Bool.eq_iff_iff, beq_iff_eq, decide_eq_true_eq]
set_option maxRecDepth 100000 in
set_option maxHeartbeats 1000000 in
theorem enode_ok (nm : List UInt8) (k : Int) (lk d : List UInt8) (x : Nd) (w : World) (hx : Hog.nodeE nm k lk d = x) :
    Calls Tryz.prog 46 #[evU nm k lk d] w fun e w' => e = .returned (nvU x) ∧ Below w.heap.size w w' := by
  subst hx
  unfold evU Hog.nodeE
  by_cases h1 : nm = [46]
  · have n1 := dot_test nm true (by simpa using h1)
    rw [if_pos h1]
    clear h1
    by_cases h4 : k = 4
    · have k4 : (k == 4) = true := by rw [beq_iff_eq]; exact h4
      rw [if_pos h4]
      clear h4
      go_enter Tryz.func46, Tryz.ntmps46
      go_wp2
      refine bodyPost_ret (results_cell_row rfl _ _ (w.heap.size + 1) 38 #[.string (⟨#[]⟩), .int .i64 k, .string (Hog.mk lk)] (0, 0) _ rfl ?_ struct_node rfl size_of_nodeU) rfl ?_
      · rw [heap_alloc_old _ _ (by simp)]
        exact heap_alloc2_new w _ _
      · exact ⟨rfl, ((below_box w _).trans ((below_box _ _).mono (by simp))).trans ((below_box _ _).mono (by rw [World.size_alloc, World.size_alloc]; omega))⟩
    · have k4 : (k == 4) = false := by rw [beq_eq_false_iff_ne]; exact h4
      rw [if_neg h4]
      clear h4
      go_enter Tryz.func46, Tryz.ntmps46
      go_wp2
      refine bodyPost_ret (results_cell_row rfl _ _ (w.heap.size + 1) 38 #[.string (⟨#[]⟩), .int .i64 k, .string (Hog.mk d)] (0, 0) _ rfl ?_ struct_node rfl size_of_nodeU) rfl ?_
      · rw [heap_alloc_old _ _ (by simp)]
        exact heap_alloc2_new w _ _
      · exact ⟨rfl, ((below_box w _).trans ((below_box _ _).mono (by simp))).trans ((below_box _ _).mono (by rw [World.size_alloc, World.size_alloc]; omega))⟩
  · have n1 := dot_test nm false (by simpa using h1)
    rw [if_neg h1]
    clear h1
    by_cases h4 : k = 4
    · have k4 : (k == 4) = true := by rw [beq_iff_eq]; exact h4
      rw [if_pos h4]
      clear h4
      go_enter Tryz.func46, Tryz.ntmps46
      go_wp2
      refine bodyPost_ret (results_cell_row rfl _ _ (w.heap.size + 1) 38 #[.string (Hog.mk nm), .int .i64 k, .string (Hog.mk lk)] (0, 0) _ rfl ?_ struct_node rfl size_of_nodeU) rfl ?_
      · rw [heap_alloc_old _ _ (by simp)]
        exact heap_alloc2_new w _ _
      · exact ⟨rfl, ((below_box w _).trans ((below_box _ _).mono (by simp))).trans ((below_box _ _).mono (by rw [World.size_alloc, World.size_alloc]; omega))⟩
    · have k4 : (k == 4) = false := by rw [beq_eq_false_iff_ne]; exact h4
      rw [if_neg h4]
      clear h4
      go_enter Tryz.func46, Tryz.ntmps46
      go_wp2
      refine bodyPost_ret (results_cell_row rfl _ _ (w.heap.size + 1) 38 #[.string (Hog.mk nm), .int .i64 k, .string (Hog.mk d)] (0, 0) _ rfl ?_ struct_node rfl size_of_nodeU) rfl ?_
      · rw [heap_alloc_old _ _ (by simp)]
        exact heap_alloc2_new w _ _
      · exact ⟨rfl, ((below_box w _).trans ((below_box _ _).mono (by simp))).trans ((below_box _ _).mono (by rw [World.size_alloc, World.size_alloc]; omega))⟩

set_option maxRecDepth 100000 in
set_option maxHeartbeats 1000000 in
theorem amend_ok (g : Nat) (nm lk d s : List UInt8) (k : Int) (nm' lk' : List UInt8) (w0 w : World) (hE : Errs w0) (hok : Ok w0 w) (hg : w0.heap.size ≤ g) (hs : s.length < 1000000) (h : BoxE w g nm k lk d) (hv : Hog.amendF s.length s (nm, lk) = (nm', lk')) :
    Calls Tryz.prog 47 #[.pointer (some ⟨g, 0, none⟩), .string (Hog.mk s)] w fun e w' => e = .returned (.tuple #[]) ∧ BoxE w' g nm' k lk' d ∧ w.grownBy w' (some g) ∧ Ok w0 w' := by
  have HE := hide hE
  have HV := hide hv
  have HB := hide h
  have HOK := hide hok
  clear hE hv h hok
  go_enter Tryz.func47, Tryz.ntmps47
  go_wp2
  go_loopw [1] (fun r wr => ∃ (z na la : List UInt8) (f : Nat), r = .string (Hog.mk z) ∧ z.length ≤ s.length ∧ z.length ≤ f ∧ Hid (Hog.amendF f z (na, la) = (nm', lk')) ∧ Hid (BoxE wr g na k la d) ∧ Hid (w.grownBy wr (some g)) ∧ Hid (Ok w0 wr)) (fun r _ => (match r with | .string b => b.size | _ => 0))
  case atStart => exact ⟨s, nm, lk, s.length, rfl, Nat.le_refl _, Nat.le_refl _, HV, HB, hide (grown_all (Below.refl _ w) _), HOK⟩
  case round =>
    obtain ⟨z, na, la, f, rfl, hz, hf, HVR, HBR, HGR, HOKR⟩ := hrel
    by_cases h0 : z = []
    · have n0 : (Hog.mk z).toList.isEmpty = true := by rw [Hog.mk_toList, h0]; rfl
      have HX : Hid ((na, la) = (nm', lk')) := by rw [← HVR.out, h0, Hog.amendF_nil]; exact hide rfl
      clear h0
      go_wp2
      go_end0
      obtain ⟨rfl, rfl⟩ := Prod.mk.inj HX.out
      exact ⟨rfl, HBR.out, HGR.out, HOKR.out⟩
    · have n0 : (Hog.mk z).toList.isEmpty = false := by rw [Hog.mk_toList]; cases z with | nil => exact absurd rfl h0 | cons a b => rfl
      obtain ⟨kk, v, r, hc⟩ : ∃ kk v r, Hog.cutP z = (kk, v, r) := ⟨_, _, _, rfl⟩
      have hr := Hog.cutP_rest z h0
      obtain ⟨f', hf', hst⟩ := Hog.amendF_step (na, la) h0 hf
      rw [hc] at hr hf' hst
      simp only [] at hr hf' hst
      rw [HVR.out] at hst
      have hrl := hr.1
      have HC : Hid (Hog.cutP (Hog.mk z).data.toList = (kk, v, r)) := by rw [Hog.mk_data]; exact hide hc
      have HST := hide hst.symm
      have hzs : (Hog.mk z).size < 1000000 := by rw [Hog.mk_size]; omega
      have HMS : Hid ((Hog.mk r).size < (Hog.mk z).size) := by rw [Hog.mk_size, Hog.mk_size]; exact hide hrl
      clear hc hr hst h0 HVR
      go_wp2_with fail
      refine (ucut_ok (Hog.mk z) kk v r w0 wr HE.out HOKR.out hzs HC.out).mono ?_
      rintro e w1 ⟨rfl, ok1, hb1⟩
      have HB1 := hide (HBR.out.below hb1)
      have HG1 := hide (grown_trans HGR.out (grown_all hb1 _))
      have HOK1 := hide ok1
      obtain ⟨⟨_, _, _, _⟩, ⟨f0, _, f2, _⟩, hlt⟩ := HB1.out.facts
      clear hb1 ok1
      by_cases h1 : kk = Hog.pathK
      · have t1 : ((Hog.mk kk).toList == [112, 97, 116, 104]) = true := by rw [Hog.mk_toList, h1]; rfl
        have HP : Hid (Hog.amendF f' r (v, la) = (nm', lk')) := by have := HST.out; rw [h1, Hog.put_path] at this; exact hide this
        clear h1
        go_wp2_with fail
        go_roundw
        case rel => exact ⟨r, v, la, f', rfl, by omega, hf', HP, hide (HB1.out.name v), hide (grown_trans HG1.out (grown_setCell _ _ _ _)), hide (HOK1.out.step (below_grown (grown_setCell _ _ _ _) (by have := HOK1.out.size; omega) (fun k e => by cases e; exact hg)))⟩
        case measure => exact HMS.out
      · have t1 : ((Hog.mk kk).toList == [112, 97, 116, 104]) = false := by rw [Hog.mk_toList, beq_eq_false_iff_ne]; exact h1
        by_cases h2 : kk = Hog.linkK
        · have t2 : ((Hog.mk kk).toList == [108, 105, 110, 107, 112, 97, 116, 104]) = true := by rw [Hog.mk_toList, h2]; rfl
          have HP : Hid (Hog.amendF f' r (na, v) = (nm', lk')) := by have := HST.out; rw [h2, Hog.put_link] at this; exact hide this
          clear h1 h2
          go_wp2_with fail
          go_roundw
          case rel => exact ⟨r, na, v, f', rfl, by omega, hf', HP, hide (HB1.out.link v), hide (grown_trans HG1.out (grown_setCell _ _ _ _)), hide (HOK1.out.step (below_grown (grown_setCell _ _ _ _) (by have := HOK1.out.size; omega) (fun k e => by cases e; exact hg)))⟩
          case measure => exact HMS.out
        · have t2 : ((Hog.mk kk).toList == [108, 105, 110, 107, 112, 97, 116, 104]) = false := by rw [Hog.mk_toList, beq_eq_false_iff_ne]; exact h2
          have HP : Hid (Hog.amendF f' r (na, la) = (nm', lk')) := by have := HST.out; unfold Hog.putP at this; rw [if_neg h1, if_neg h2] at this; exact hide this
          clear h1 h2
          go_wp2_with fail
          go_roundw
          case rel => exact ⟨r, na, la, f', rfl, by omega, hf', HP, HB1, HG1, HOK1⟩
          case measure => exact HMS.out
end Go.Proofs.YtecjkkipglldlaaGreatDoor
