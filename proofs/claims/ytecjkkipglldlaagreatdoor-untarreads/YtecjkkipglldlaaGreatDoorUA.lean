/- The document's own answer, chapter 13: Decimal, Record, cut, pad. -/
import Derived.Test.YtecjkkipglldlaaGreatDoorTI
namespace Go.Proofs.YtecjkkipglldlaaGreatDoor
open Go.RowKit

def tensB : ByteArray := ⟨#[48, 49, 50, 51, 52, 53, 54, 55, 56, 57]⟩
theorem ten_cut : ∀ d : Fin 10, tensB.extract d.1 (d.1 + 1) = Hog.mk [UInt8.ofNat (48 + d.1)] := by decide
set_option maxHeartbeats 800000 in
theorem rdec_ok (n : Nat) : ∀ (x : List UInt8) (w : World), n < 1000000000 → Hog.decL n = x → Calls Tryz.prog 68 #[.int .i64 n] w fun e w' => e = .returned (.string (Hog.mk x)) ∧ w' = w := by
  induction n using Nat.strongRecOn with
  | _ n ih =>
    intro x w hn hx
    by_cases h : n < 10
    · have h1 : (n : Int) < 10 := by omega
      have HE : Hid (tensB.extract n (n + 1) = Hog.mk x) := by rw [← hx, Hog.decL_one h]; exact hide (ten_cut ⟨n, h⟩)
      clear ih hx
      go_enter Tryz.func68, Tryz.ntmps68
      go_wp2
      go_ret
      exact ⟨ret_str HE.out, rfl⟩
    · have h1 : ¬ ((n : Int) < 10) := by omega
      obtain ⟨d, hd⟩ : ∃ d, d = n % 10 := ⟨_, rfl⟩
      obtain ⟨q, hq⟩ : ∃ q, q = n / 10 := ⟨_, rfl⟩
      have hd1 : (n : Int).tmod 10 = (d : Int) := by rw [Int.tmod_eq_emod_of_nonneg (by omega)]; omega
      have hq1 : (n : Int).tdiv 10 = (q : Int) := by rw [Int.tdiv_eq_ediv_of_nonneg (by omega)]; omega
      obtain ⟨x1, hx1⟩ : ∃ y, Hog.decL q = y := ⟨_, rfl⟩
      obtain ⟨x2, hx2⟩ : ∃ y, Hog.decL d = y := ⟨_, rfl⟩
      have HE : Hid (Hog.mk x1 ++ Hog.mk x2 = Hog.mk x) := by
        rw [mk_join, ← hx, Hog.decL_more h, ← hq, hx1, ← hx2, hd, Hog.decL_one (Nat.mod_lt _ (by decide))]; exact hide rfl
      have s1 : (Hog.mk x1).size ≤ 10 := by rw [Hog.mk_size, ← hx1, Hog.decL_len]; exact Hog.nDigits_le (k := 9) (by omega)
      have s2 : (Hog.mk x2).size ≤ 10 := by rw [Hog.mk_size, ← hx2, Hog.decL_len]; exact Hog.nDigits_le (k := 9) (by omega)
      have HC1 := hide (ih q (by omega) x1 w (by omega) hx1)
      have HC2 := hide (ih d (by omega) x2 w (by omega) hx2)
      have hqn : q < 1000000000 := by omega
      have hdn : d < 10 := by omega
      clear ih hx hx1 hx2 hd hq
      go_enter Tryz.func68, Tryz.ntmps68
      go_wp2_with fail
      refine (show Calls _ _ _ _ _ from HC1.out).mono ?_
      rintro e w1 ⟨rfl, rfl⟩
      go_wp2_with fail
      refine (show Calls _ _ _ _ _ from HC2.out).mono ?_
      rintro e w1 ⟨rfl, rfl⟩
      go_wp2_with fail
      go_ret
      exact ⟨ret_str HE.out, rfl⟩
set_option maxRecDepth 100000 in
set_option maxHeartbeats 1000000 in
theorem rrec_ok (k v : ByteArray) (lk lv z : List UInt8) (w : World) (hk : k.data.toList = lk) (hv : v.data.toList = lv) (hs : k.size + v.size < 900000) (hz : Hog.recL lk lv = z) :
    Calls Tryz.prog 53 #[.string k, .string v] w fun e w' => e = .returned (.string (Hog.mk z)) ∧ w' = w := by
  obtain ⟨r, hr⟩ : ∃ r, ⟨#[32]⟩ ++ k ++ ⟨#[61]⟩ ++ v ++ ⟨#[10]⟩ = r := ⟨_, rfl⟩
  obtain ⟨l, hl⟩ : ∃ l, Hog.restL lk lv = l := ⟨_, rfl⟩
  have hrl : r = Hog.mk l := by rw [← hr, rest_mk, hk, hv, hl]
  have hrs : r.size = l.length := by rw [hrl, Hog.mk_size]
  have hll : l.length < 900010 := by rw [← hl, Hog.restL_len, ← hk, ← hv, ← Hog.size_len, ← Hog.size_len]; omega
  have hrs2 : r.size < 900010 := by omega
  have HD := hide (Hog.digR_is (r := l.length) (by omega))
  obtain ⟨D, hD⟩ : ∃ D, Hog.digR l.length = D := ⟨_, rfl⟩
  rw [hD] at HD
  have HZ : Hid (z = Hog.decL (l.length + D) ++ l) := by
    rw [← hz]; unfold Hog.recL Hog.recN; rw [hl, hD]; exact hide rfl
  have HR := hide hr
  have HRL := hide hrl
  have HRS := hide hrs
  have hD8 : D ≤ 8 := HD.out.small
  have hrk1 : r.size ≤ k.size + v.size + 3 := by rw [hrs, ← hl, Hog.restL_len, ← hk, ← hv, ← Hog.size_len, ← Hog.size_len]; omega
  have hrk2 : k.size + v.size + 3 ≤ r.size := by rw [hrs, ← hl, Hog.restL_len, ← hk, ← hv, ← Hog.size_len, ← Hog.size_len]; omega
  clear hr hl hrl hrs hll hD hz hk hv
  go_enter Tryz.func53, Tryz.ntmps53
  go_wp2
  rw [HR.out]
  go_loopw [6] (fun d wr => ∃ j m : Nat, 1 ≤ j ∧ j ≤ D ∧ m = r.size + j ∧ d = .int .i64 m ∧ wr = w) (fun d _ => r.size + 9 - (intOf d).toNat)
  case atStart => exact ⟨1, r.size + 1, Nat.le_refl _, HD.out.pos, rfl, by go_num, rfl⟩
  case round =>
    obtain ⟨j, m, hj1, hjD, hm, rfl, rfl⟩ := hrel
    obtain ⟨x, hx⟩ : ∃ x, Hog.decL m = x := ⟨_, rfl⟩
    have HXL : Hid (x.length = Lib.nDigits (r.size + j)) := by rw [← hx, Hog.decL_len, hm]; exact hide rfl
    have HX := hide hx
    have HMJ := hide hm
    clear hx
    have hms : (Hog.mk x).size = Lib.nDigits (r.size + j) := by rw [Hog.mk_size, HXL.out]
    by_cases he : j = D
    · subst he
      have hj : (Hog.mk x).size = j := by rw [hms, HRS.out]; exact HD.out.right
      have ht : ((m : Int) != (r.size : Int) + ((Hog.mk x).size : Int)) = false := by rw [hj, bne_eq_false_iff_eq]; omega
      have hsz : (Hog.mk x).size ≤ 8 := by omega
      have HE : Hid (Hog.mk x ++ r = Hog.mk z) := by
        rw [HZ.out, HRL.out, mk_join, ← HX.out, HMJ.out, HRL.out, Hog.mk_size]; exact hide rfl
      have hmn : m < 900020 := by omega
      clear hms hj hm
      go_wp2_with fail
      refine (rdec_ok m x _ (by omega) HX.out).mono ?_
      rintro e w2 ⟨rfl, h2⟩
      have h3 := h2.symm
      subst h3
      clear h2
      go_wp2_with fail
      refine (rdec_ok m x _ (by omega) HX.out).mono ?_
      rintro e w2 ⟨rfl, h2⟩
      have h3 := h2.symm
      subst h3
      clear h2
      go_wp2_with fail
      go_ret
      exact ⟨ret_str HE.out, rfl⟩
    · have hj : (Hog.mk x).size ≠ j := by rw [hms, HRS.out]; exact HD.out.least j hj1 (by omega)
      have hnd : (Hog.mk x).size ≤ 8 := by rw [hms]; exact Hog.nDigits_le (k := 7) (by omega)
      have ht : ((m : Int) != (r.size : Int) + ((Hog.mk x).size : Int)) = true := by rw [bne_iff_ne]; omega
      have hmn : m < 900020 := by omega
      clear hms hj hm
      go_wp2_with fail
      refine (rdec_ok m x _ (by omega) HX.out).mono ?_
      rintro e w2 ⟨rfl, h2⟩
      have h3 := h2.symm
      subst h3
      clear h2
      go_wp2_with fail
      go_roundw
      case rel => exact ⟨j + 1, m + 1, by omega, by omega, by have := HMJ.out; omega, by go_num, trivial⟩
      case measure => simp [intOf]; have := HMJ.out; omega
set_option maxHeartbeats 400000 in
theorem rcutT_ok (s : ByteArray) (l x : List UInt8) (w : World) (hs : s.data.toList = l) (hx : l.take 100 = x) :
    Calls Tryz.prog 37 #[.string s] w fun e w' => e = .returned (.string (Hog.mk x)) ∧ w' = w := by
  have hsl : s.size = l.length := by rw [← hs, Hog.size_len]
  by_cases h : s.size ≤ 100
  · have hm : min (s.size : Int) 100 = (s.size : Int) := by omega
    have HE : Hid (s = Hog.mk x) := by
      rw [← hx, List.take_of_length_le (by omega), ← hs, Hog.data_mk]
      exact hide rfl
    clear hs hx hsl
    go_enter Tryz.func37, Tryz.ntmps37
    go_wp2
    go_ret
    exact ⟨ret_str HE.out, rfl⟩
  · have hm : min (s.size : Int) 100 = 100 := by omega
    have hi : (100 : Int) ≤ (s.size : Int) := by omega
    have HE : Hid (s.extract 0 100 = Hog.mk x) := by
      apply hide
      apply ByteArray.ext
      rw [← hx, ← hs]
      unfold Hog.mk
      rw [← Array.toList_inj]
      simp
    clear hs hx hsl
    go_enter Tryz.func37, Tryz.ntmps37
    go_wp2
    go_ret
    exact ⟨ret_str HE.out, rfl⟩
set_option maxRecDepth 100000 in
set_option maxHeartbeats 1000000 in
theorem rpad_ok (base n f : Nat) (v : Value) (l : List UInt8) (w : World) (hv : OwnB base w v l) (hn : l.length = n) (hl : n < 900000000) (hb : base ≤ w.heap.size) (hf : Hog.fillN n = f) :
    Calls Tryz.prog 36 #[v] w fun e w' => ∃ b c, e = .returned (.slice b (n + f) c) ∧ OwnB base w' (.slice b (n + f) c) (l ++ Hog.zeros f) ∧ Lays w v w' (.slice b (n + f) c) := by
  obtain ⟨b0, c0, rfl⟩ := hv.form
  have HV := hide hv
  have HN := hide hn
  have hf5 : f < 512 := by rw [← hf]; exact Hog.fillN_lt n
  have HF : Hid (∀ j, j ≤ f → ((n + j) % 512 = 0 ↔ j = f)) := hide (fun j hj => by rw [← hf] at hj ⊢; unfold Hog.fillN at hj ⊢; omega)
  rw [hn] at HV ⊢
  clear hv hn hf
  go_enter Tryz.func36, Tryz.ntmps36
  go_wp2
  go_loopw [0] (fun s wr => ∃ (j : Nat) (b : Option Addr) (c : Nat), j ≤ f ∧ s = .slice b (n + j) c ∧ Hid (OwnB base wr (.slice b (n + j) c) (l ++ Hog.zeros j)) ∧ Lays w (.slice b0 n c0) wr (.slice b (n + j) c)) (fun s _ => n + f - (match s with | .slice _ q _ => q | _ => 0))
  case atStart => exact ⟨0, b0, c0, by omega, rfl, by simpa [Hid, Hog.zeros] using HV.out, Lays.refl _ _⟩
  case round =>
    obtain ⟨j, b, c, hj, rfl, HO, hbl⟩ := hrel
    have hm1 : ((n : Int) + (j : Int)).tmod 512 = (((n + j) % 512 : Nat) : Int) := by rw [Int.tmod_eq_emod_of_nonneg (by omega)]; omega
    have hfj := HF.out j hj
    by_cases hlt : j < f
    · have ht : ((((n + j) % 512 : Nat) : Int) != 0) = true := by rw [bne_iff_ne]; omega
      have HL : Hid ((l ++ Hog.zeros j).length = n + j) := by rw [List.length_append, Hog.zeros_len, HN.out]; exact hide rfl
      have HX : Hid ((l ++ Hog.zeros j) ++ [0] = l ++ Hog.zeros (j + 1)) := by rw [List.append_assoc, Hog.zeros_snoc]; exact hide rfl
      obtain ⟨xs, hxs⟩ : ∃ xs, l ++ Hog.zeros j = xs := ⟨_, rfl⟩
      obtain ⟨ys, hys⟩ : ∃ xs, l ++ Hog.zeros (j + 1) = xs := ⟨_, rfl⟩
      rw [hxs] at HO HL HX
      rw [hys] at HX
      have HYS := hide hys
      clear hxs hys hfj
      have hbw : base ≤ wr.heap.size := Nat.le_trans hb hbl.size
      go_wp2_with (at_builtin; refine wpList_append_b1 rfl _ _ rfl base _ _ rfl HO.out _ rfl 0 ?c1 (n + j) HL.out ys HX.out ?c3 hbw ?_)
      case c1 => rfl
      case c3 => omega
      intro b3 c3 w3 ho3 hb3
      have HO3 := hide ho3
      clear ho3
      rw [← HYS.out] at HO3
      go_wp2
      go_roundw
      case rel => exact ⟨j + 1, b3, c3, by omega, rfl, HO3, hbl.trans hb3⟩
      case measure => simp; omega
    · obtain rfl : j = f := by omega
      have ht : ((((n + j) % 512 : Nat) : Int) != 0) = false := by rw [bne_eq_false_iff_eq]; omega
      clear hfj
      go_wp2
      go_ret
      exact ⟨b, c, rfl, HO.out, hbl⟩
end Go.Proofs.YtecjkkipglldlaaGreatDoor
