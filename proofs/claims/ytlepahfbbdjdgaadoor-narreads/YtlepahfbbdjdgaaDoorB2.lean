/- The walks of package nar: numbers and texts laid. -/
import Derived.Test.YtlepahfbbdjdgaaDoorB1
import Derived.Test.YtlepahfbbdjdgaaDoorPlainN
import Derived.Laws.BitsAllLaws
namespace Go.Proofs.YtlepahfbbdjdgaaDoor
open Go.RowKit

theorem byte_wrap (n : Int) (k : Nat) : IntKind.u8.wrap (IntKind.u64.wrap n / 2 ^ (56 - 8 * k)) = ((byteN (bitsN n) k).toNat : Int) := by
  rw [byteN_toNat, IntKind.wrap_u8', IntKind.wrap_u64]
  unfold bitsN
  have h0 : (0 : Int) ≤ n % 18446744073709551616 := Int.emod_nonneg _ (by decide)
  rw [Int.natCast_emod, Int.natCast_ediv, Int.toNat_of_nonneg h0]
  simp

set_option maxRecDepth 100000 in
set_option maxHeartbeats 1000000 in
theorem layNum_ok (base : Nat) (v : Value) (l : List UInt8) (n : Int) (w : World) (hv : OwnB base w v l) (hl : l.length < 900000000) (hb : base ≤ w.heap.size) :
    Calls Tryd.prog 26 #[v, .int .i64 n] w fun e w' => ∃ b c, e = .returned (.slice b (l.length + 8) c) ∧ OwnB base w' (.slice b (l.length + 8) c) (l ++ numL n) ∧ Lays w v w' (.slice b (l.length + 8) c) := by
  obtain ⟨b0, c0, rfl⟩ := hv.form
  obtain ⟨m, hm⟩ : ∃ m, m = l.length := ⟨_, rfl⟩
  have HV := hide hv
  have HM := hide hm
  rw [← hm] at hl ⊢
  clear hv hm
  go_enter Tryd.func26, Tryd.ntmps26
  go_wp2
  go_loopw [0, 5] (fun s i wr => ∃ (k : Nat) (b : Option Addr) (c : Nat), k ≤ 8 ∧ i = .int .i64 (56 - 8 * (k : Int)) ∧ s = .slice b (m + k) c ∧ Hid (OwnB base wr (.slice b (m + k) c) (l ++ (bytesN (bitsN n)).take k)) ∧ Lays w (.slice b0 m c0) wr (.slice b (m + k) c)) (fun _ i _ => (intOf i + 8).toNat)
  case atStart => exact ⟨0, b0, c0, by omega, by simp, by simp, by simpa [Hid, HM.out] using HV.out, Lays.refl _ _⟩
  case round =>
    obtain ⟨k, b, c, hk, rfl, rfl, HO, hbl⟩ := hrel
    by_cases hlt : k < 8
    · have hs : (0 : Int) ≤ 56 - 8 * (k : Int) := by omega
      obtain ⟨zs, hz⟩ : ∃ zs, zs = l ++ (bytesN (bitsN n)).take k := ⟨_, rfl⟩
      obtain ⟨zs', hz'⟩ : ∃ zs, zs = l ++ (bytesN (bitsN n)).take (k + 1) := ⟨_, rfl⟩
      have HZ : Hid (zs ++ [byteN (bitsN n) k] = zs') := by rw [hz, hz', bytesN_take hlt, List.append_assoc]; exact hide rfl
      have HL : Hid (zs.length = m + k) := by rw [hz, List.length_append, List.length_take, bytesN_len, HM.out]; exact hide (by omega)
      rw [← hz] at HO
      have HZ' := hide hz'
      clear hz hz'
      have hbw : base ≤ wr.heap.size := Nat.le_trans hb hbl.size
      go_wp2_with (at_builtin; refine wpList_append_b1 rfl _ _ rfl base _ _ rfl HO.out _ rfl (byteN (bitsN n) k) ?c1 (m + k) HL.out zs' HZ.out ?c2 hbw ?_)
      case c1 => rw [← byte_wrap, IntKind.wrap_u8']
      case c2 => omega
      intro b1 c1 w1 ho1 hb1
      have HO1 := hide ho1
      clear ho1
      rw [HZ'.out] at HO1
      go_wp2
      go_roundw
      case rel => exact ⟨k + 1, b1, c1, by omega, by go_num, rfl, HO1, hbl.trans hb1⟩
      case measure => simp [intOf]; omega
    · obtain rfl : k = 8 := by omega
      go_wp2
      go_ret
      refine ⟨b, c, rfl, ?_, hbl⟩
      have h := HO.out
      rw [bytesN_all] at h
      exact h

theorem rem8 (n : Nat) : Int.tmod (n : Int) 8 = ((n % 8 : Nat) : Int) := by rw [Int.tmod_eq_emod_of_nonneg (by omega)]; omega
set_option maxHeartbeats 800000 in
theorem filling_ok (n : Nat) (w : World) :
    Calls Tryd.prog 38 #[.int .i64 n] w fun e w' => e = .returned (.int .i64 (fillN n : Nat)) ∧ w' = w := by
  have h1 := rem8 n
  obtain ⟨r, hr⟩ : ∃ r, r = n % 8 := ⟨_, rfl⟩
  have hr8 : r < 8 := by omega
  rw [← hr] at h1
  have h2 : (8 : Int) - (r : Int) = ((8 - r : Nat) : Int) := by omega
  have h3 := rem8 (8 - r)
  have e : fillN n = (8 - r) % 8 := by rw [hr]; rfl
  rw [e]
  clear e
  have H := hide hr
  clear hr
  go_enter Tryd.func38, Tryd.ntmps38
  go_wp2
  go_ret
  exact ⟨ret_int (by simp), rfl⟩

theorem zeros_snoc (k : Nat) : zerosN (k + 1) = zerosN k ++ [0] := by simp [zerosN, List.replicate_succ']

set_option maxRecDepth 100000 in
set_option maxHeartbeats 1000000 in
theorem layText_ok (base : Nat) (v : Value) (l : List UInt8) (s : ByteArray) (zs : List UInt8) (k : Nat) (w : World) (hv : OwnB base w v l) (hl : l.length < 500000000) (hs : s.size < 1000000) (hb : base ≤ w.heap.size)
    (hz : l ++ textL s.data.toList = zs) (hk : zs.length = k) :
    Calls Tryd.prog 28 #[v, .string s] w fun e w' => ∃ b c, e = .returned (.slice b k c) ∧ OwnB base w' (.slice b k c) zs ∧ Lays w v w' (.slice b k c) := by
  obtain ⟨b0, c0, rfl⟩ := hv.form
  obtain ⟨m, hm⟩ : ∃ m, m = l.length := ⟨_, rfl⟩
  obtain ⟨q, hq⟩ : ∃ q, q = s.size := ⟨_, rfl⟩
  have hsz : s.data.toList.length = q := by rw [hq]; exact (Hog.size_len s).symm
  obtain ⟨f, hf⟩ : ∃ f, f = fillN q := ⟨_, rfl⟩
  have hf8 : f < 8 := by rw [hf]; exact fillN_lt q
  obtain ⟨l1, hl1⟩ : ∃ x, x = l ++ numL q := ⟨_, rfl⟩
  obtain ⟨l2, hl2⟩ : ∃ x, x = l1 ++ s.data.toList := ⟨_, rfl⟩
  have HL1 : Hid (l1.length = m + 8) := by rw [hl1, List.length_append, numL_len, hm]; exact hide rfl
  have HL2 : Hid (l2.length = m + 8 + q) := by rw [hl2, List.length_append, HL1.out, hsz]; exact hide rfl
  have HZ : Hid (l2 ++ zerosN f = zs) := by rw [← hz, hl2, hl1, hf]; unfold textL; rw [hsz]; simp [Hid]
  have HK : Hid (k = m + 8 + q + f) := by rw [← hk, ← HZ.out, List.length_append, HL2.out, zerosN_len]; exact hide rfl
  have HV := hide hv
  have HM := hide hm
  have HQ := hide hq
  have HF := hide hf
  have HD1 := hide hl1
  have HD2 := hide hl2.symm
  have hq0 : q < 1000000 := by omega
  have hm0 : m < 500000000 := by omega
  rw [← hm] at hv ⊢
  clear hv hm hq hf hl1 hl2 hz hk hl hs hsz
  have hsq := HQ.out.symm
  go_enter Tryd.func28, Tryd.ntmps28
  go_wp2_with fail
  refine (layNum_ok base _ l q w (by have h := HV.out; rw [← HM.out] at h; exact h) (by have := HM.out; omega) hb).mono ?_
  rintro e w1 ⟨b1, c1, rfl, ho1, hb1⟩
  rw [← HM.out, ← HD1.out] at ho1
  rw [← HM.out] at hb1 ⊢
  have HO1 := hide ho1
  have hbw1 : base ≤ w1.heap.size := Nat.le_trans hb hb1.size
  clear ho1
  go_wp2_with (at_builtin; refine wpList_append_str rfl _ _ rfl base _ _ rfl HO1.out s rfl (m + 8) q HL1.out HQ.out.symm l2 HD2.out ?c2 hbw1 ?_)
  case c2 => omega
  intro b2 c2 w2 ho2 hb2
  have HO2 := hide ho2
  have hbl2 := hb1.trans hb2
  clear ho2 hb1 hb2 hbw1
  go_wp2_with fail
  refine (filling_ok q w2).mono ?_
  rintro e w3 ⟨rfl, rfl⟩
  rw [← HF.out]
  go_wp2
  go_loopw [0, 14] (fun s i wr => ∃ (j : Nat) (b : Option Addr) (c : Nat), j ≤ f ∧ i = .int .i64 j ∧ s = .slice b (m + 8 + q + j) c ∧ Hid (OwnB base wr (.slice b (m + 8 + q + j) c) (l2 ++ zerosN j)) ∧ Lays w (.slice b0 m c0) wr (.slice b (m + 8 + q + j) c)) (fun _ i _ => f - (intOf i).toNat)
  case atStart => exact ⟨0, b2, c2, by omega, rfl, rfl, by simpa [Hid, zerosN] using HO2.out, hbl2⟩
  case round =>
    obtain ⟨j, b, c, hj, rfl, rfl, HO, hbl⟩ := hrel
    by_cases hlt : j < f
    · have hji : (j : Int) < (f : Int) := by omega
      obtain ⟨xs, hx⟩ : ∃ xs, xs = l2 ++ zerosN j := ⟨_, rfl⟩
      obtain ⟨xs', hx'⟩ : ∃ xs, xs = l2 ++ zerosN (j + 1) := ⟨_, rfl⟩
      have HX : Hid (xs ++ [0] = xs') := by rw [hx, hx', zeros_snoc, List.append_assoc]; exact hide rfl
      have HL : Hid (xs.length = m + 8 + q + j) := by rw [hx, List.length_append, zerosN_len, HL2.out]; exact hide rfl
      rw [← hx] at HO
      have HX' := hide hx'
      clear hx hx'
      have hbw : base ≤ wr.heap.size := Nat.le_trans hb hbl.size
      go_wp2_with (at_builtin; refine wpList_append_b1 rfl _ _ rfl base _ _ rfl HO.out _ rfl 0 ?c1 (m + 8 + q + j) HL.out xs' HX.out ?c3 hbw ?_)
      case c1 => rfl
      case c3 => omega
      intro b3 c3 w3 ho3 hb3
      have HO3 := hide ho3
      clear ho3
      rw [HX'.out] at HO3
      go_wp2
      go_roundw
      case rel => exact ⟨j + 1, b3, c3, by omega, by go_num, rfl, HO3, hbl.trans hb3⟩
      case measure => simp [intOf]; omega
    · obtain rfl : j = f := by omega
      go_wp2
      go_ret
      rw [HK.out]
      exact ⟨b, c, rfl, by have h := HO.out; rw [HZ.out] at h; exact h, hbl⟩
end Go.Proofs.YtlepahfbbdjdgaaDoor
