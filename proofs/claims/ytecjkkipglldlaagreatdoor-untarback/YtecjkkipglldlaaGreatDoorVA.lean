/- Records taken apart: the library's Cut and Atoi; the walk of package untar's cut. -/
import Derived.Test.YtecjkkipglldlaaGreatDoorPlainUn
import Derived.Test.YtecjkkipglldlaaGreatDoorEA
import Derived.Test.YtecjkkipglldlaaGreatDoorTB
namespace Go.Proofs.YtecjkkipglldlaaGreatDoor
open Go.RowKit

/-- What the library's tables and variables hold that are read. -/
def Lib14 (w : World) : Prop := Pow w ∧ Errs w

theorem scut_any (s : ByteArray) (c : UInt8) (a b : List UInt8) (w0 w : World) (h : Ok w0 w) (hs : s.size < 1000000) (ha : Hog.aheadC c s.data.toList = a) (hb : Hog.behindC c s.data.toList = b) :
    Calls Tryz.prog 80 #[.string s, .string ⟨#[c]⟩] w fun e w' => (∃ v : Value, e = .returned (.tuple #[.string (Hog.mk a), .string (Hog.mk b), v])) ∧ Ok w0 w' ∧ Below w.heap.size w w' := by
  refine (Tryz.strings_Cut_shaped s ⟨#[c]⟩ w h.shape (by omega)).mono ?_
  rintro e w' ⟨rfl, n, rfl⟩
  have hc := Hog.cut_one c s.data.toList
  have h1 : (Lib.cut s.data.toList (⟨#[c]⟩ : ByteArray).data.toList).1 = a := hc.1.trans ha
  have h2 : (Lib.cut s.data.toList (⟨#[c]⟩ : ByteArray).data.toList).2.1 = b := hc.2.trans hb
  rw [h1, h2]
  have hbl := below_drewN (Below.refl w.heap.size w) n
  exact ⟨⟨_, rfl⟩, h.next hbl, hbl⟩
theorem atoi_good (x : ByteArray) (n : Int) (w0 w : World) (hok : Ok w0 w) (hx : x.size < 1000000) (h : Lib.atoiAll x.data.toList = .ok n) :
    Calls Tryz.prog 81 #[.string x] w fun e w' => e = .returned (.tuple #[.int .i64 n, .nilIface]) ∧ Ok w0 w' ∧ Below w.heap.size w w' := by
  refine (Tryz.strconv_Atoi_ok x (by omega) n h w).mono ?_
  rintro e w' ⟨rfl, hw⟩
  have hb : Below w.heap.size w w' := by
    rcases hw with rfl | ⟨t, rfl⟩
    · exact Below.refl _ _
    · exact Lib.bytesWorld_below ..
  exact ⟨rfl, hok.next hb, hb⟩
theorem atoi_bad (x : ByteArray) (w0 w : World) (hE : Errs w0) (hok : Ok w0 w) (hx : x.size < 1000000) (h : ∀ n, Lib.atoiAll x.data.toList ≠ .ok n) :
    Calls Tryz.prog 81 #[.string x] w fun e w' => (∃ n t p, e = .returned (.tuple #[.int .i64 n, .iface t p])) ∧ Ok w0 w' ∧ Below w.heap.size w w' := by
  obtain ⟨⟨a, b, h1⟩, ⟨c, d, h2⟩⟩ := hE.below hok.2
  cases hh : Lib.atoiAll x.data.toList with
  | ok v => exact absurd hh (h v)
  | «syntax» =>
    refine (Tryz.strconv_Atoi_syntax_var x (by omega) hh a b w h1).mono ?_
    rintro e w' ⟨N, rfl, _, _, hb⟩
    exact ⟨⟨_, _, _, rfl⟩, hok.next hb, hb⟩
  | range =>
    refine (Tryz.strconv_Atoi_range_var x (by omega) hh c d w h2).mono ?_
    rintro e w' ⟨N, rfl, _, _, hb⟩
    exact ⟨⟨_, _, _, rfl⟩, hok.next hb, hb⟩
theorem strim_ok (x : ByteArray) (a : List UInt8) (w : World) (hx : x.size < 1000000) (h : Hog.trimN x.data.toList = a) :
    Calls Tryz.prog 82 #[.string x, .string ⟨#[10]⟩] w fun e w' => e = .returned (.string (Hog.mk a)) ∧ w' = w := by
  refine (Tryz.strings_TrimSuffix x ⟨#[10]⟩ w (by omega)).mono ?_
  rintro e w' ⟨rfl, rfl⟩
  have h1 : Lib.trimSuffix x.data.toList (⟨#[10]⟩ : ByteArray).data.toList = a := h
  rw [h1]
  exact ⟨rfl, rfl⟩

theorem cutP_none {s : List UInt8} (h : Hog.lenR s = none) : Hog.cutP s = ([], [], []) := by unfold Hog.cutP; rw [h]
theorem cutP_some {s : List UInt8} {n : Nat} (h : Hog.lenR s = some n) : Hog.cutP s = (Hog.aheadC 61 ((s.drop ((Hog.aheadC 32 s).length + 1)).take (n - ((Hog.aheadC 32 s).length + 1))), Hog.trimN (Hog.behindC 61 ((s.drop ((Hog.aheadC 32 s).length + 1)).take (n - ((Hog.aheadC 32 s).length + 1)))), s.drop n) := by
  unfold Hog.cutP; rw [h]

set_option maxRecDepth 100000 in
set_option maxHeartbeats 1000000 in
theorem ucut_ok (s : ByteArray) (k v r : List UInt8) (w0 w : World) (hE : Errs w0) (hok : Ok w0 w) (hs : s.size < 1000000) (hc : Hog.cutP s.data.toList = (k, v, r)) :
    Calls Tryz.prog 64 #[.string s] w fun e w' => e = .returned (.tuple #[.string (Hog.mk k), .string (Hog.mk v), .string (Hog.mk r)]) ∧ Ok w0 w' ∧ Below w.heap.size w w' := by
  obtain ⟨d, hd⟩ : ∃ d, Hog.aheadC 32 s.data.toList = d := ⟨_, rfl⟩
  obtain ⟨b, hb⟩ : ∃ b, Hog.behindC 32 s.data.toList = b := ⟨_, rfl⟩
  have hds : (Hog.mk d).size < 1000000 := by rw [Hog.mk_size, ← hd]; have := Hog.ahead_le 32 s.data.toList; rw [← Hog.size_len] at this; omega
  have HD := hide hd
  have HB := hide hb
  have HC := hide hc
  have HE := hide hE
  have HOK := hide hok
  clear hc hb hE hok
  by_cases hn : ∃ n, Lib.atoiAll d = .ok n
  · obtain ⟨n, hn⟩ := hn
    have HN : Hid (Lib.atoiAll (Hog.mk d).data.toList = .ok n) := by rw [Hog.mk_data]; exact hide hn
    by_cases hbad : n ≤ d.length ∨ n > s.data.toList.length
    · have HR : Hid ((k, v, r) = (([], [], []) : List UInt8 × List UInt8 × List UInt8)) := by
        rw [← HC.out, cutP_none]
        · exact hide rfl
        · unfold Hog.lenR
          rw [hd, hn]
          simp only []
          rw [if_pos hbad]
      rw [← Hog.size_len] at hbad
      rw [← Hog.mk_size d] at hbad
      clear hd hn
      rcases hbad with h1 | h1
      · go_enter Tryz.func64, Tryz.ntmps64
        go_wp2_with fail
        refine (scut_any s 32 d b w0 w HOK.out hs HD.out HB.out).mono ?_
        rintro e w1 ⟨⟨u, rfl⟩, ok1, hb1⟩
        have HB1 := hide hb1
        clear hb1
        go_wp2_with fail
        refine (atoi_good (Hog.mk d) n w0 w1 ok1 hds HN.out).mono ?_
        rintro e w2 ⟨rfl, ok2, hb2⟩
        have HB2 := hide (below_two HB1.out hb2)
        clear hb2
        go_wp2
        go_ret3
        obtain ⟨rfl, rfl, rfl⟩ : k = [] ∧ v = [] ∧ r = [] := by simpa using HR.out
        exact ⟨rfl, ok2, HB2.out⟩
      · by_cases h2 : n ≤ ((Hog.mk d).size : Int)
        · go_enter Tryz.func64, Tryz.ntmps64
          go_wp2_with fail
          refine (scut_any s 32 d b w0 w HOK.out hs HD.out HB.out).mono ?_
          rintro e w1 ⟨⟨u, rfl⟩, ok1, hb1⟩
          have HB1 := hide hb1
          clear hb1
          go_wp2_with fail
          refine (atoi_good (Hog.mk d) n w0 w1 ok1 hds HN.out).mono ?_
          rintro e w2 ⟨rfl, ok2, hb2⟩
          have HB2 := hide (below_two HB1.out hb2)
          clear hb2
          go_wp2
          go_ret3
          obtain ⟨rfl, rfl, rfl⟩ : k = [] ∧ v = [] ∧ r = [] := by simpa using HR.out
          exact ⟨rfl, ok2, HB2.out⟩
        · go_enter Tryz.func64, Tryz.ntmps64
          go_wp2_with fail
          refine (scut_any s 32 d b w0 w HOK.out hs HD.out HB.out).mono ?_
          rintro e w1 ⟨⟨u, rfl⟩, ok1, hb1⟩
          have HB1 := hide hb1
          clear hb1
          go_wp2_with fail
          refine (atoi_good (Hog.mk d) n w0 w1 ok1 hds HN.out).mono ?_
          rintro e w2 ⟨rfl, ok2, hb2⟩
          have HB2 := hide (below_two HB1.out hb2)
          clear hb2
          go_wp2
          go_ret3
          obtain ⟨rfl, rfl, rfl⟩ : k = [] ∧ v = [] ∧ r = [] := by simpa using HR.out
          exact ⟨rfl, ok2, HB2.out⟩
    · obtain ⟨m, rfl⟩ : ∃ m : Nat, n = (m : Int) := ⟨n.toNat, by omega⟩
      have hm1 : (Hog.mk d).size < m := by rw [Hog.mk_size]; omega
      have hm2 : m ≤ s.size := by rw [Hog.size_len]; omega
      have hl : Hog.lenR s.data.toList = some m := by
        unfold Hog.lenR
        rw [hd, hn]
        simp only []
        rw [if_neg hbad, Int.toNat_natCast]
      have hcs := cutP_some hl
      rw [hd, HC.out] at hcs
      obtain ⟨x, hx⟩ : ∃ x, s.extract ((Hog.mk d).size + 1) m = x := ⟨_, rfl⟩
      have HX : Hid (x.data.toList = (s.data.toList.drop (d.length + 1)).take (m - (d.length + 1))) := by rw [← hx, Lib.extract_eq, Hog.mk_size]; exact hide (by simp)
      rw [← HX.out] at hcs
      obtain ⟨v0, hv0⟩ : ∃ v0, Hog.behindC 61 x.data.toList = v0 := ⟨_, rfl⟩
      rw [hv0] at hcs
      simp only [Prod.mk.injEq] at hcs
      obtain ⟨hk, hv, hr⟩ := hcs
      have hxs : x.size < 1000000 := by
        rw [Hog.size_len, HX.out, List.length_take, List.length_drop, ← Hog.size_len]; omega
      have hvs : (Hog.mk v0).size < 1000000 := by
        rw [Hog.mk_size, ← hv0]
        unfold Hog.behindC
        rw [List.length_drop, ← Hog.size_len]; omega
      have HK := hide hk.symm
      have HV0 := hide hv0
      have HV := hide hv.symm
      have HXE := hide hx
      have HR : Hid (s.extract m s.size = Hog.mk r) := by rw [hr, ← Lib.extract_to_end, Hog.data_mk]; exact hide rfl
      have d1 : ¬ ((m : Int) ≤ ((Hog.mk d).size : Int)) := by omega
      have d2 : ¬ ((m : Int) > (s.size : Int)) := by omega
      have d3 : ((Hog.mk d).size : Int) + 1 ≤ (m : Int) := by omega
      have d4 : (m : Int) ≤ (s.size : Int) := by omega
      clear hd hn hbad hl hk hv hr hv0 hx
      go_enter Tryz.func64, Tryz.ntmps64
      go_wp2_with fail
      refine (scut_any s 32 d b w0 w HOK.out hs HD.out HB.out).mono ?_
      rintro e w1 ⟨⟨u, rfl⟩, ok1, hb1⟩
      have HB1 := hide hb1
      clear hb1
      go_wp2_with fail
      refine (atoi_good (Hog.mk d) m w0 w1 ok1 hds HN.out).mono ?_
      rintro e w2 ⟨rfl, ok2, hb2⟩
      have HB2 := hide (below_two HB1.out hb2)
      clear hb2
      go_wp2_with fail
      rw [HXE.out]
      refine (scut_any x 61 k v0 w0 w2 ok2 hxs HK.out HV0.out).mono ?_
      rintro e w3 ⟨⟨u3, rfl⟩, ok3, hb3⟩
      have HB3 := hide (below_two HB2.out hb3)
      clear hb3
      have HT : Hid (∀ q, Calls Tryz.prog 82 #[.string (Hog.mk v0), .string ⟨#[10]⟩] (w3.drewN q) fun e w' => e = .returned (.string (Hog.mk v)) ∧ w' = w3.drewN q) := by
        refine hide fun q => strim_ok (Hog.mk v0) v _ hvs ?_
        rw [Hog.mk_data]
        exact HV.out
      have HQ : Hid (∀ q, Ok w0 (w3.drewN q) ∧ Below w.heap.size w (w3.drewN q)) := by
        refine hide fun q => ?_
        have hbq := below_drewN (Below.refl w3.heap.size w3) q
        exact ⟨ok3.next hbq, below_two HB3.out hbq⟩
      go_wp2_with fail
      go_quiet ((go_at_call 82; with_reducible exact Calls.quiet_of_same (HT.out _)))
      go_wp2
      go_ret3
      rw [HR.out]
      exact ⟨rfl, (HQ.out _).1, (HQ.out _).2⟩
  · have HN : Hid (∀ n, Lib.atoiAll (Hog.mk d).data.toList ≠ .ok n) := by rw [Hog.mk_data]; exact hide (fun n h => hn ⟨n, h⟩)
    have HR : Hid ((k, v, r) = (([], [], []) : List UInt8 × List UInt8 × List UInt8)) := by
      rw [← HC.out, cutP_none]
      · exact hide rfl
      · unfold Hog.lenR
        rw [hd]
        cases h : Lib.atoiAll d with
        | ok n => exact absurd ⟨n, h⟩ hn
        | «syntax» => rfl
        | range => rfl
    clear hd hn
    go_enter Tryz.func64, Tryz.ntmps64
    go_wp2_with fail
    refine (scut_any s 32 d b w0 w HOK.out hs HD.out HB.out).mono ?_
    rintro e w1 ⟨⟨u, rfl⟩, ok1, hb1⟩
    have HB1 := hide hb1
    clear hb1
    go_wp2_with fail
    refine (atoi_bad (Hog.mk d) w0 w1 HE.out ok1 hds HN.out).mono ?_
    rintro e w2 ⟨⟨n, tt, pp, rfl⟩, ok2, hb2⟩
    have HB2 := hide (below_two HB1.out hb2)
    clear hb2
    go_wp2
    go_ret3
    obtain ⟨rfl, rfl, rfl⟩ : k = [] ∧ v = [] ∧ r = [] := by simpa using HR.out
    exact ⟨rfl, ok2, HB2.out⟩
end Go.Proofs.YtecjkkipglldlaaGreatDoor
