/- The walks of package sum and of the document's own answer, chapter 6: Next, Of. -/
import Derived.Test.YtbdnkgmpklpegaaB10
import Derived.Test.YtbdnkgmpklpegaaPlainH
import Derived.Laws.Bits64
import Derived.Laws.BitsAllLaws
namespace Go.Proofs.Ytbdnkgmpklpegaa
open Go.RowKit

theorem step_u64 (h : Nat) (b : UInt8) (hh : h < 18446744073709551616) : IntKind.u64.wrap (bits .xor .u64 (h : Int) (b.toNat : Int) * 1099511628211) = (nextH h b : Int) := by
  have hb : b.toNat < 18446744073709551616 := Nat.lt_of_lt_of_le b.toNat_lt (by decide)
  rw [bits_xor_u64_nat h b.toNat hh hb, IntKind.wrap_u64]
  unfold nextH
  rw [Int.natCast_emod, Int.natCast_mul]
  rfl
theorem byte_u64 (b : UInt8) : IntKind.u64.wrap (b.toNat : Int) = b.toNat := by
  have := b.toNat_lt
  rw [IntKind.wrap_u64]; omega

set_option maxHeartbeats 400000 in
theorem next_any (h : Nat) (b : UInt8) (w : World) (hh : h < 18446744073709551616) :
    Calls Try.prog 10 #[.int .u64 h, .int .u8 b.toNat] w fun e w' => e = .returned (.int .u64 (nextH h b)) ∧ w' = w := by
  have h1 := byte_u64 b
  go_enter Try.func10, Try.ntmps10
  go_wp2
  go_ret
  refine ⟨ret_u64 ?_, rfl⟩
  exact step_u64 h b hh
set_option maxHeartbeats 400000 in
theorem rnext_any (h : Nat) (b : UInt8) (w : World) (hh : h < 18446744073709551616) :
    Calls Try.prog 11 #[.int .u64 h, .int .u8 b.toNat] w fun e w' => e = .returned (.int .u64 (nextH h b)) ∧ w' = w := by
  have h1 := byte_u64 b
  go_enter Try.func11, Try.ntmps11
  go_wp2
  go_ret
  refine ⟨ret_u64 ?_, rfl⟩
  exact step_u64 h b hh

/-- The slice holds slices that hold the bytes ls, and may be read. -/
structure ArgP (w : World) (ao : Option Addr) (n c : Nat) (ls : List (List UInt8)) : Prop where
  len : ls.length = n
  none : ao = none → n = 0 ∧ c = 0
  cap : n ≤ c
  cell : ∀ ad, ao = some ad → ∀ (j : Nat) l, ls[j]? = some l → ∃ bo m d, w.cell? (ad.add j) = some (.slice bo m d) ∧ ArgB w bo m d l
theorem ArgP.below {w w' : World} {ao : Option Addr} {n c : Nat} {ls : List (List UInt8)} (h : ArgP w ao n c ls) (hb : Below w.heap.size w w') : ArgP w' ao n c ls :=
  ⟨h.len, h.none, h.cap, fun ad e j l hl => by
    obtain ⟨bo, m, d, h1, h2⟩ := h.cell ad e j l hl
    exact ⟨bo, m, d, by rw [hb.cell (addrB_plain h1).2]; exact h1, h2.below hb⟩⟩
theorem ArgP.plain {w : World} {ao : Option Addr} {n c : Nat} {ls : List (List UInt8)} (h : ArgP w ao n c ls) (hn : 0 < n) : ∃ b o, ao = some ⟨b, o, Option.none⟩ ∧ b < w.heap.size := by
  cases ls with
  | nil => have := h.len; simp at this; omega
  | cons x r =>
    cases ao with
    | none => have := (h.none rfl).1; omega
    | some ad =>
      obtain ⟨bo, m, d, h0, _⟩ := h.cell ad rfl 0 x rfl
      rw [addB_zero] at h0
      obtain ⟨e, hlt⟩ := addrB_plain h0
      exact ⟨ad.block, ad.off, by rw [← e], hlt⟩
theorem ArgP.at {w : World} {b o n c : Nat} {ls : List (List UInt8)} (h : ArgP w (some ⟨b, o, Option.none⟩) n c ls) {j : Nat} {l : List UInt8} (hl : ls[j]? = some l) : ∃ bo m d, w.cell? ⟨b, o + j, Option.none⟩ = some (.slice bo m d) ∧ ArgB w bo m d l := by
  have := h.cell _ rfl j l hl
  rwa [addB_plain] at this
theorem ArgP.nil (w : World) : ArgP w Option.none 0 0 [] := ⟨rfl, fun _ => ⟨rfl, rfl⟩, Nat.le_refl _, fun ad e => by cases e⟩
/-- A new slice of one part. -/
theorem ArgP.one {w : World} {bo : Option Addr} {m d : Nat} {l : List UInt8} (h : ArgB w bo m d l) : ArgP (w.alloc (.cells #[.slice bo m d] 22)) (some ⟨w.heap.size, 0, Option.none⟩) 1 1 [l] := by
  refine ⟨rfl, by simp, Nat.le_refl _, fun ad e j x hx => ?_⟩
  cases e
  match j, hx with
  | 0, hx =>
    simp at hx
    subst hx
    exact ⟨bo, m, d, by rw [addB_plain]; simp, h.below (below_alloc _ _)⟩
  | (j + 1), hx => simp at hx

set_option maxHeartbeats 1000000 in
theorem of_some (b o n c : Nat) (ls : List (List UInt8)) (w : World) (h : ArgP w (some ⟨b, o, none⟩) n c ls) (hn : n < 1000000000) (hs : ∀ l ∈ ls, l.length < 1000000000) :
    Calls Try.prog 8 #[.slice (some ⟨b, o, none⟩) n c] w fun e w' => e = .returned (.int .u64 (ofH ls.flatten)) ∧ w' = w := by
  have HA := hide h
  have HN := hide h.len
  have HS := hide hs
  clear h hs
  go_enter Try.func8, Try.ntmps8
  go_wp2
  go_loopw [3, 10] (fun s i wr => ∃ k y : Nat, k ≤ n ∧ i = .int .i64 k ∧ s = .int .u64 y ∧ Hid (y = ofH (ls.take k).flatten) ∧ wr = w) (fun _ i _ => n - (intOf i).toNat)
  case atStart => exact ⟨0, 14695981039346656037, Nat.zero_le _, rfl, rfl, rfl, rfl⟩
  case round =>
    obtain ⟨k, y, hk, rfl, rfl, hy, rfl⟩ := hrel
    by_cases hlt : k < n
    · obtain ⟨l, hl⟩ : ∃ l, ls[k]? = some l := ⟨ls[k]'(by have := HN.out; omega), List.getElem?_eq_some_iff.2 ⟨_, rfl⟩⟩
      have hm := HS.out l (List.mem_of_getElem? hl)
      obtain ⟨bo, m, d, g1, hb⟩ := HA.out.at hl
      have hki : (k : Int) < (n : Int) := by omega
      have HL := hide hl
      have HB := hide hb
      have HM := hide hb.len
      rw [hb.len] at hm
      clear hl hb
      have hy64 : y < 18446744073709551616 := by rw [hy.out]; exact ofH_lt _
      go_wp2
      go_loopw [3, 16] (fun s i wq => ∃ j z : Nat, j ≤ m ∧ i = .int .i64 j ∧ s = .int .u64 z ∧ Hid (z = sumH y (l.take j)) ∧ wq = wr) (fun _ i _ => m - (intOf i).toNat)
      case atStart => exact ⟨0, y, Nat.zero_le _, rfl, rfl, rfl, rfl⟩
      case round =>
        obtain ⟨j, z, hj, rfl, rfl, hz, rfl⟩ := hrel
        by_cases hjm : j < m
        · obtain ⟨b', o', rfl, _⟩ := HB.out.plain (by omega)
          obtain ⟨x, hx⟩ : ∃ x, l[j]? = some x := ⟨l[j]'(by have := HM.out; omega), List.getElem?_eq_some_iff.2 ⟨_, rfl⟩⟩
          have f1 := HB.out.at hx
          have hji : (j : Int) < (m : Int) := by omega
          have HX := hide hx
          clear hx
          go_wp2_with fail
          refine (next_any z x _ (by rw [hz.out]; exact sumH_lt _ hy64)).mono ?_
          rintro e w1 ⟨rfl, rfl⟩
          go_wp2
          go_roundw
          case rel => exact ⟨j + 1, nextH z x, by omega, by go_num, rfl, by rw [hz.out]; exact (sumH_step HX.out).symm, trivial⟩
          case measure => simp [intOf]; omega
        · go_wp2
          go_roundw
          case rel =>
            refine ⟨k + 1, z, by omega, by go_num, rfl, ?_, trivial⟩
            have e : j = m := by omega
            rw [hz.out, e, ← HM.out, List.take_length, hy.out]
            exact (sum_flat _ ls HL.out).symm
          case measure => simp [intOf]; omega
    · go_wp2
      go_ret
      have e : k = n := by omega
      refine ⟨ret_u64 ?_, rfl⟩
      rw [hy.out, e, ← HN.out, List.take_length]
theorem of_none (a : Option Addr) (c : Nat) (w : World) :
    Calls Try.prog 8 #[.slice a 0 c] w fun e w' => e = .returned (.int .u64 (ofH [])) ∧ w' = w := by
  go_enter Try.func8, Try.ntmps8
  go_wp2
  go_loop [3, 10] (fun s i => i = .int .i64 0 ∧ s = .int .u64 (ofH [] : Nat)) (fun _ _ => 0)
  case atStart => exact ⟨rfl, rfl⟩
  case round =>
    obtain ⟨rfl, rfl⟩ := hrel
    go_wp2
    go_ret
    exact ⟨rfl, rfl⟩
theorem of_ok (ao : Option Addr) (n c : Nat) (ls : List (List UInt8)) (z : Nat) (w : World) (h : ArgP w ao n c ls) (hn : n < 1000000000) (hs : ∀ l ∈ ls, l.length < 1000000000) (hz : ofH ls.flatten = z) :
    Calls Try.prog 8 #[.slice ao n c] w fun e w' => e = .returned (.int .u64 z) ∧ w' = w := by
  subst hz
  by_cases h0 : 0 < n
  · obtain ⟨b, o, rfl, _⟩ := h.plain h0
    exact of_some b o n c ls w h hn hs
  · obtain rfl : n = 0 := by omega
    have e : ls = [] := List.eq_nil_of_length_eq_zero h.len
    subst e
    exact of_none ao c w
set_option maxHeartbeats 1000000 in
theorem rof_ok (ao : Option Addr) (n c : Nat) (l : List UInt8) (z : Nat) (w : World) (h : ArgB w ao n c l) (hn : n < 1000000000) (hz : ofH l = z) :
    Calls Try.prog 9 #[.slice ao n c] w fun e w' => e = .returned (.int .u64 z) ∧ w' = w := by
  have HB := hide h
  have HM := hide h.len
  have HZ := hide hz
  clear h hz
  go_enter Try.func9, Try.ntmps9
  go_wp2
  go_loopw [3, 4] (fun s i wq => ∃ j z : Nat, j ≤ n ∧ i = .int .i64 j ∧ s = .int .u64 z ∧ Hid (z = ofH (l.take j)) ∧ wq = w) (fun _ i _ => n - (intOf i).toNat)
  case atStart => exact ⟨0, 14695981039346656037, Nat.zero_le _, rfl, rfl, rfl, rfl⟩
  case round =>
    obtain ⟨j, y, hj, rfl, rfl, hy, rfl⟩ := hrel
    by_cases hjm : j < n
    · obtain ⟨b', o', rfl, _⟩ := HB.out.plain (by omega)
      obtain ⟨x, hx⟩ : ∃ x, l[j]? = some x := ⟨l[j]'(by have := HM.out; omega), List.getElem?_eq_some_iff.2 ⟨_, rfl⟩⟩
      have f1 := HB.out.at hx
      have hji : (j : Int) < (n : Int) := by omega
      have HX := hide hx
      clear hx
      go_wp2_with fail
      refine (rnext_any y x _ (by rw [hy.out]; exact ofH_lt _)).mono ?_
      rintro e w1 ⟨rfl, rfl⟩
      go_wp2
      go_roundw
      case rel => exact ⟨j + 1, nextH y x, by omega, by go_num, rfl, by rw [hy.out]; exact (sumH_step HX.out).symm, trivial⟩
      case measure => simp [intOf]; omega
    · go_wp2
      go_ret
      refine ⟨ret_u64 ?_, rfl⟩
      have e : j = n := by omega
      rw [hy.out, e, ← HM.out, List.take_length, HZ.out]
end Go.Proofs.Ytbdnkgmpklpegaa
