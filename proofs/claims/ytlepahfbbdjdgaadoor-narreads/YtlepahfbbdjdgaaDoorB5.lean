/- The walks of package nar: the reader: take, num. -/
import Derived.Test.YtlepahfbbdjdgaaDoorB4
namespace Go.Proofs.YtlepahfbbdjdgaaDoor
open Go.RowKit

set_option maxRecDepth 100000 in
set_option maxHeartbeats 1000000 in
theorem take_out (g : Nat) (n : Int) (s : RS) (w : World) (h : RdAt w g s) (hn : n < 0 ∨ (s.1.length : Int) < n) :
    Calls Tryd.prog 41 #[.pointer (some ⟨g, 0, none⟩), .int .i64 n] w fun e w' => e = .returned (.slice none 0 0) ∧ RdAt w' g ([], true) ∧ w.grownBy w' (some g) := by
  have HR := hide h
  obtain ⟨ao, m, c, hg, ha⟩ := h
  obtain ⟨c0, c1, f0, f1⟩ := reader_cells hg
  have hl := ha.arg.len
  rw [hl] at hn
  clear hg ha hl
  by_cases h0 : n < 0
  · have hd : decide (n < 0) = true := decide_eq_true h0
    clear hn
    go_enter Tryd.func41, Tryd.ntmps41
    go_wp2_with fail
    refine (fail_ok g s w HR.out).mono ?_
    rintro e w1 ⟨rfl, hr1, hg1⟩
    go_wp2
    go_ret
    exact ⟨rfl, hr1, hg1⟩
  · have hd : decide (n < 0) = false := decide_eq_false h0
    have hn' : (m : Int) < n := by omega
    clear hn
    go_enter Tryd.func41, Tryd.ntmps41
    go_wp2_with fail
    refine (fail_ok g s w HR.out).mono ?_
    rintro e w1 ⟨rfl, hr1, hg1⟩
    go_wp2
    go_ret
    exact ⟨rfl, hr1, hg1⟩

theorem take_ok (g : Nat) (n : Int) (s : RS) (x : List UInt8) (s' : RS) (w : World) (h : RdAt w g s) (hv : takeR n s = (x, s')) :
    Calls Tryd.prog 41 #[.pointer (some ⟨g, 0, none⟩), .int .i64 n] w fun e w' => ∃ b c, e = .returned (.slice b x.length c) ∧ ArgG w' g b x.length c x ∧ RdAt w' g s' ∧ w.grownBy w' (some g) := by
  by_cases hn : n < 0 ∨ (s.1.length : Int) < n
  · rw [takeR_out hn] at hv
    cases hv
    refine (take_out g n s w h hn).mono ?_
    rintro e w1 ⟨rfl, hr1, hg1⟩
    exact ⟨none, 0, rfl, ArgG.nil _ _, hr1, hg1⟩
  · obtain ⟨r, rfl⟩ : ∃ r : Nat, n = r := ⟨n.toNat, by omega⟩
    have hr : r ≤ s.1.length := by omega
    rw [takeR_in hr] at hv
    cases hv
    obtain ⟨ao, m, c, hg, ha⟩ := h
    have hl := ha.arg.len
    have hx : (s.1.take r).length = r := by rw [List.length_take]; omega
    rw [hx]
    have hset := grown_setCell w g 0 (.slice (cutAt ao c r) (m - r) (c - r))
    cases ao with
    | none =>
      obtain ⟨rfl, rfl⟩ := ha.arg.none rfl
      obtain rfl : r = 0 := by omega
      refine (take_none g 0 s.2 w hg rfl).mono ?_
      rintro e w1 ⟨rfl, rfl⟩
      exact ⟨none, 0, rfl, (ha.take (Nat.zero_le _)).grown (grown_setCell _ _ _ _), RdAt.set hg (ha.drop (Nat.zero_le _)), grown_setCell _ _ _ _⟩
    | some ad =>
      refine (take_some g r m c ad s.2 w hg (by omega) ha.arg.cap).mono ?_
      rintro e w1 ⟨rfl, rfl⟩
      exact ⟨some ad, c, rfl, (ha.take (by omega)).grown (grown_setCell _ _ _ _), RdAt.set hg (ha.drop (by omega)), grown_setCell _ _ _ _⟩

theorem shl8_or (x : Nat) (b : UInt8) (hx : x < 72057594037927936) : bits .or .u64 (IntKind.u64.wrap ((x : Int) * 256)) (b.toNat : Int) = ((x * 256 + b.toNat : Nat) : Int) := by
  have hb := b.toNat_lt
  have e : IntKind.u64.wrap ((x : Int) * 256) = ((x * 256 : Nat) : Int) := by rw [IntKind.wrap_u64]; omega
  rw [e, u64_or_nat _ _ (by omega) (by omega), nat_join 8 (x * 256) b.toNat (by omega) (by omega)]

theorem wrap_u8_u64 (b : UInt8) : IntKind.u64.wrap (b.toNat : Int) = (b.toNat : Int) := by have := b.toNat_lt; rw [IntKind.wrap_u64]; omega
theorem takeR8 (s : RS) : (takeR 8 s).1.length = 8 ∨ (takeR 8 s).1 = [] := by
  unfold takeR
  split
  · exact .inr rfl
  · rename_i h
    refine .inl ?_
    rw [List.length_take]; omega

set_option maxRecDepth 100000 in
set_option maxHeartbeats 1000000 in
theorem num_ok (g : Nat) (s : RS) (n : Int) (s' : RS) (w : World) (h : RdAt w g s) (hv : numR s = (n, s')) :
    Calls Tryd.prog 33 #[.pointer (some ⟨g, 0, none⟩)] w fun e w' => e = .returned (.int .i64 n) ∧ RdAt w' g s' ∧ w.grownBy w' (some g) := by
  obtain ⟨x, hx⟩ : ∃ x, x = (takeR 8 s).1 := ⟨_, rfl⟩
  have hl8 : x.length ≤ 8 := by rw [hx]; rcases takeR8 s with e | e <;> rw [e] <;> simp
  have ht : takeR 8 s = (x, s') := by rw [hx]; unfold numR at hv; simp only [Prod.mk.injEq] at hv; rw [← hv.2]
  have hn : n = signN (valN x) := by rw [hx]; unfold numR at hv; simp only [Prod.mk.injEq] at hv; exact hv.1.symm
  obtain ⟨m, hm⟩ : ∃ m, m = x.length := ⟨_, rfl⟩
  have HH := hide h
  have HT := hide ht
  have HN := hide hn
  have HM := hide hm
  have hm8 : m ≤ 8 := by omega
  clear h hv ht hn hx hm hl8
  go_enter Tryd.func33, Tryd.ntmps33
  go_wp2_with fail
  refine (take_ok g 8 s x s' w HH.out HT.out).mono ?_
  rintro e w1 ⟨b, c, rfl, ha1, hr1, hg1⟩
  rw [← HM.out] at ha1 ⊢
  have HA1 := hide ha1
  have HR1 := hide hr1
  have HG1 := hide hg1
  clear ha1 hr1 hg1
  go_wp2
  go_loopw [3, 9] (fun v i wr => ∃ (k y : Nat), k ≤ m ∧ i = .int .i64 k ∧ v = .int .u64 y ∧ Hid (y = valN (x.take k)) ∧ wr = w1) (fun _ i _ => m - (intOf i).toNat)
  case atStart => exact ⟨0, 0, by omega, rfl, rfl, rfl, rfl⟩
  case round =>
    obtain ⟨k, y, hk, rfl, rfl, HY, rfl⟩ := hrel
    by_cases hlt : k < m
    · have hki : (k : Int) < (m : Int) := by omega
      obtain ⟨bb, o, eb, _⟩ := HA1.out.arg.plain (show 0 < m by omega)
      subst eb
      obtain ⟨z, hz⟩ : ∃ z, x[k]? = some z := ⟨x[k]'(by have := HM.out; omega), List.getElem?_eq_some_iff.2 ⟨_, rfl⟩⟩
      have hc := HA1.out.arg.at hz
      have hy7 : y < 72057594037927936 := by rw [HY.out]; exact valN_lt7 (by rw [List.length_take]; omega)
      have HY7 := hide hy7
      have HZ := hide hz
      have hor := shl8_or y z hy7
      clear hz hy7
      go_wp2
      go_roundw
      case rel =>
        refine ⟨k + 1, y * 256 + z.toNat, by omega, by go_num, ?_, ?_, trivial⟩
        · rw [wrap_u8_u64 z, hor]
        · obtain ⟨hkl, e⟩ := List.getElem?_eq_some_iff.1 HZ.out
          rw [List.take_succ_eq_append_getElem hkl, valN_snoc, e, ← HY.out]
          exact hide rfl
      case measure => simp [intOf]; omega
    · obtain rfl : k = m := by omega
      have hy : y = valN x := by rw [HY.out, HM.out, List.take_length]
      have hs : IntKind.i64.wrap (y : Int) = n := by
        rw [HN.out, ← hy]
        have := valN_lt8 (l := x) (by have := HM.out; omega)
        rw [IntKind.wrap_i64]
        unfold signN
        split <;> omega
      have HS := hide hs
      clear hy hs
      go_wp2
      go_ret
      exact ⟨ret_int ((IntWalk.i64_left _).symm.trans HS.out), HR1.out, HG1.out⟩

set_option maxHeartbeats 800000 in
theorem ended_ok (g : Nat) (s : RS) (w : World) (h : RdAt w g s) :
    Calls Tryd.prog 35 #[.pointer (some ⟨g, 0, none⟩)] w fun e w' => e = .returned (.bool (!s.2 && s.1.isEmpty)) ∧ w' = w := by
  obtain ⟨ao, m, c, hg, ha⟩ := h
  obtain ⟨c0, c1, f0, f1⟩ := reader_cells hg
  have he : s.1.isEmpty = ((m : Int) == 0) := by
    have := ha.arg.len
    cases hq : s.1 with
    | nil => rw [hq] at this; simp at this; subst this; rfl
    | cons a r => rw [hq] at this; simp at this; rw [List.isEmpty_cons]; symm; rw [beq_eq_false_iff_ne]; omega
  have HE := hide he
  obtain ⟨l, f⟩ := s
  clear hg ha he
  go_enter Tryd.func35, Tryd.ntmps35
  cases f with
  | true =>
    go_wp2
    go_ret
    exact ⟨rfl, rfl⟩
  | false =>
    go_wp2
    go_ret
    exact ⟨ret_bool (by rw [HE.out]), rfl⟩

set_option maxHeartbeats 800000 in
theorem isSet_ok (b : UInt8) (w : World) :
    Calls Tryd.prog 43 #[.int .u8 b.toNat] w fun e w' => e = .returned (.bool (b != 0)) ∧ w' = w := by
  go_enter Tryd.func43, Tryd.ntmps43
  go_wp2
  go_ret
  refine ⟨ret_bool ?_, rfl⟩
  by_cases h : b = 0
  · subst h; rfl
  · have h2 : b.toNat ≠ 0 := fun e => h (UInt8.toNat_inj.1 (by rw [e]; rfl))
    rw [bne_iff_ne.2 h]
    first
      | (rw [bne_iff_ne]; omega)
      | (simp; omega)
end Go.Proofs.YtlepahfbbdjdgaaDoor
