/- The walks of the document's own answer, chapter 5: Num, Text. -/
import Derived.Test.YtlepahfbbdjdgaaDoorB11
namespace Go.Proofs.YtlepahfbbdjdgaaDoor
open Go.RowKit

theorem mul8 (k : Nat) : (8 : Int) * (7 - (k : Int)) = 56 - 8 * (k : Int) := by omega

set_option maxRecDepth 100000 in
set_option maxHeartbeats 1000000 in
theorem rnum_ok (ao : Option Addr) (m c : Nat) (l : List UInt8) (n : Int) (zs : List UInt8) (w : World) (h : ArgB w ao m c l) (hm : m < 500000000) (hz : l ++ numL n = zs) :
    Calls Tryd.prog 16 #[.slice ao m c, .int .i64 n] w fun e w' => ∃ b d, e = .returned (.slice b (m + 8) d) ∧ OwnB w.heap.size w' (.slice b (m + 8) d) zs ∧ Below w.heap.size w w' := by
  have HA := hide h
  have HM := hide h.len
  have HZ := hide hz
  clear h hz
  go_enter Tryd.func16, Tryd.ntmps16
  go_wp2_with (at_builtin; refine wpList_append_bytes rfl _ _ rfl w.heap.size _ [] rfl (OwnB.nil _ _) _ _ _ l rfl HA.out 0 rfl l rfl ?c1 (Nat.le_refl _) ?_)
  case c1 => omega
  intro b0 c0 w0 ho0 hl0
  have HO0 := hide ho0
  have hb0 := hl0.below (OwnB.nil w.heap.size w) (Nat.le_refl _)
  clear ho0 hl0
  go_wp2
  go_loopw [5, 6] (fun s i wr => ∃ (k : Nat) (b : Option Addr) (c : Nat), k ≤ 8 ∧ i = .int .i64 (7 - (k : Int)) ∧ s = .slice b (m + k) c ∧ Hid (OwnB w.heap.size wr (.slice b (m + k) c) (l ++ (bytesN (bitsN n)).take k)) ∧ Below w.heap.size w wr) (fun _ i _ => (intOf i + 1).toNat)
  case atStart => exact ⟨0, b0, c0, by omega, by simp, by simp, by simpa [Hid] using HO0.out, hb0⟩
  case round =>
    obtain ⟨k, b, c, hk, rfl, rfl, HO, hbl⟩ := hrel
    by_cases hlt : k < 8
    · have hs : (0 : Int) ≤ 7 - (k : Int) := by omega
      have hs8 := mul8 k
      have hs2 : (0 : Int) ≤ 56 - 8 * (k : Int) := by omega
      obtain ⟨xs, hx⟩ : ∃ xs, xs = l ++ (bytesN (bitsN n)).take k := ⟨_, rfl⟩
      obtain ⟨xs', hx'⟩ : ∃ xs, xs = l ++ (bytesN (bitsN n)).take (k + 1) := ⟨_, rfl⟩
      have HX : Hid (xs ++ [byteN (bitsN n) k] = xs') := by rw [hx, hx', bytesN_take hlt, List.append_assoc]; exact hide rfl
      have HL : Hid (xs.length = m + k) := by rw [hx, List.length_append, List.length_take, bytesN_len, HM.out]; exact hide (by omega)
      rw [← hx] at HO
      have HX' := hide hx'
      clear hx hx'
      have hbw : w.heap.size ≤ wr.heap.size := hbl.size
      go_wp2_with (at_builtin; refine wpList_append_b1 rfl _ _ rfl w.heap.size _ _ rfl HO.out _ rfl (byteN (bitsN n) k) ?c1 (m + k) HL.out xs' HX.out ?c2 hbw ?_)
      case c1 => rw [← byte_wrap, IntKind.wrap_u8']
      case c2 => omega
      intro b1 c1 w1 ho1 hl1
      have HO1 := hide ho1
      have hb1 := hbl.trans (hl1.below HO.out hbw)
      clear ho1 hl1
      rw [HX'.out] at HO1
      go_wp2
      go_roundw
      case rel => exact ⟨k + 1, b1, c1, by omega, by go_num, rfl, HO1, hb1⟩
      case measure => simp [intOf]; omega
    · obtain rfl : k = 8 := by omega
      go_wp2
      go_ret
      refine ⟨b, c, rfl, ?_, hbl⟩
      have h := HO.out
      rw [bytesN_all] at h
      rw [← HZ.out]
      exact h

theorem fill_more {q j : Nat} (h : j < fillN q) : (q + j) % 8 ≠ 0 := by unfold fillN at h; omega
theorem fill_end (q : Nat) : (q + fillN q) % 8 = 0 := by unfold fillN; omega

set_option maxRecDepth 100000 in
set_option maxHeartbeats 1000000 in
theorem rtext_ok (ao : Option Addr) (m c : Nat) (l : List UInt8) (s : ByteArray) (zs : List UInt8) (k : Nat) (w : World) (h : ArgB w ao m c l) (hm : m < 400000000) (hs : s.size < 1000000) (hz : l ++ textL s.data.toList = zs) (hk : zs.length = k) :
    Calls Tryd.prog 17 #[.slice ao m c, .string s] w fun e w' => ∃ b d, e = .returned (.slice b k d) ∧ OwnB w.heap.size w' (.slice b k d) zs ∧ Below w.heap.size w w' := by
  obtain ⟨q, hq⟩ : ∃ q, q = s.size := ⟨_, rfl⟩
  have hsz : s.data.toList.length = q := by rw [hq]; exact (Hog.size_len s).symm
  obtain ⟨f, hf⟩ : ∃ f, f = fillN q := ⟨_, rfl⟩
  have hf8 : f < 8 := by rw [hf]; exact fillN_lt q
  obtain ⟨l1, hl1⟩ : ∃ x, l ++ numL q = x := ⟨_, rfl⟩
  obtain ⟨l2, hl2⟩ : ∃ x, x = l1 ++ s.data.toList := ⟨_, rfl⟩
  have HL1 : Hid (l1.length = m + 8) := by rw [← hl1, List.length_append, numL_len, h.len]; exact hide rfl
  have HL2 : Hid (l2.length = m + 8 + q) := by rw [hl2, List.length_append, HL1.out, hsz]; exact hide rfl
  have HZ : Hid (l2 ++ zerosN f = zs) := by rw [← hz, hl2, ← hl1, hf]; unfold textL; rw [hsz]; simp [Hid]
  have HK : Hid (k = m + 8 + q + f) := by rw [← hk, ← HZ.out, List.length_append, HL2.out, zerosN_len]; exact hide rfl
  have HA := hide h
  have HQ := hide hq
  have HF := hide hf
  have HD1 := hide hl1
  have HD2 := hide hl2.symm
  have hq0 : q < 1000000 := by omega
  clear h hq hf hl1 hl2 hz hk hs hsz
  have hsq := HQ.out.symm
  go_enter Tryd.func17, Tryd.ntmps17
  go_wp2_with fail
  refine (rnum_ok ao m c l q l1 w HA.out (by omega) HD1.out).mono ?_
  rintro e w1 ⟨b1, c1, rfl, ho1, hb1⟩
  have HO1 := hide ho1
  have hbw1 : w.heap.size ≤ w1.heap.size := hb1.size
  clear ho1
  go_wp2_with (at_builtin; refine wpList_append_str rfl _ _ rfl w.heap.size _ _ rfl HO1.out s rfl (m + 8) q HL1.out HQ.out.symm l2 HD2.out ?c2 hbw1 ?_)
  case c2 => omega
  intro b2 c2 w2 ho2 hl2
  have HO2 := hide ho2
  have hbl2 := hb1.trans (hl2.below HO1.out hbw1)
  clear ho2 hb1 hl2 hbw1
  go_wp2
  go_loopw [5, 6] (fun s i wr => ∃ (j p : Nat) (b : Option Addr) (c : Nat), j ≤ f ∧ i = .int .i64 p ∧ s = .slice b (m + 8 + q + j) c ∧ Hid (p = q + j) ∧ Hid (OwnB w.heap.size wr (.slice b (m + 8 + q + j) c) (l2 ++ zerosN j)) ∧ Below w.heap.size w wr) (fun _ i _ => q + f - (intOf i).toNat)
  case atStart => exact ⟨0, q, b2, c2, by omega, rfl, rfl, hide rfl, by simpa [Hid, zerosN] using HO2.out, hbl2⟩
  case round =>
    obtain ⟨j, p, b, c, hj, rfl, rfl, HP, HO, hbl⟩ := hrel
    have hr := rem8 p
    have hp1 : p < 2000000 := by have := HP.out; omega
    have hp2 : p ≤ q + f := by have := HP.out; omega
    by_cases hlt : j < f
    · have hne : (((p % 8 : Nat) : Int) != 0) = true := by
        have h1 := fill_more (q := q) (j := j) (by rw [← HF.out]; exact hlt)
        rw [← HP.out] at h1
        rw [bne_iff_ne]; omega
      have hpf : p < q + f := by have := HP.out; omega
      obtain ⟨xs, hx⟩ : ∃ xs, xs = l2 ++ zerosN j := ⟨_, rfl⟩
      obtain ⟨xs', hx'⟩ : ∃ xs, xs = l2 ++ zerosN (j + 1) := ⟨_, rfl⟩
      have HX : Hid (xs ++ [0] = xs') := by rw [hx, hx', zeros_snoc, List.append_assoc]; exact hide rfl
      have HL : Hid (xs.length = m + 8 + q + j) := by rw [hx, List.length_append, zerosN_len, HL2.out]; exact hide rfl
      rw [← hx] at HO
      have HX' := hide hx'
      clear hx hx'
      have hbw : w.heap.size ≤ wr.heap.size := hbl.size
      obtain ⟨e8, he8⟩ : ∃ e, e = p % 8 := ⟨_, rfl⟩
      rw [← he8] at hr hne
      clear he8
      go_wp2_with (at_builtin; refine wpList_append_b1 rfl _ _ rfl w.heap.size _ _ rfl HO.out _ rfl 0 ?c1 (m + 8 + q + j) HL.out xs' HX.out ?c3 hbw ?_)
      case c1 => rfl
      case c3 => omega
      intro b3 c3 w3 ho3 hl3
      have HO3 := hide ho3
      have hb3 := hbl.trans (hl3.below HO.out hbw)
      clear ho3 hl3
      rw [HX'.out] at HO3
      have HP' : Hid (p + 1 = q + (j + 1)) := by have := HP.out; exact hide (by omega)
      go_wp2
      go_roundw
      case rel => exact ⟨j + 1, p + 1, b3, c3, by omega, by go_num, rfl, HP', HO3, hb3⟩
      case measure => simp [intOf]; omega
    · obtain rfl : j = f := by omega
      have hr0 : Int.tmod (p : Int) 8 = 0 := by rw [hr, HP.out, HF.out, fill_end]; rfl
      clear hr
      go_wp2
      go_ret
      rw [HK.out]
      exact ⟨b, c, rfl, by have h := HO.out; rw [HZ.out] at h; exact h, hbl⟩
end Go.Proofs.YtlepahfbbdjdgaaDoor
