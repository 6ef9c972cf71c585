/- The walks of package sum: Hex. -/
import Derived.Test.YtbdnkgmpklpegaaZ1
import Derived.Test.YtbdnkgmpklpegaaBs
namespace Go.Proofs.Ytbdnkgmpklpegaa
open Go.RowKit

/-- In block g lie just these bytes, as an array. -/
def HexAt (w : World) (g : Nat) (l : List UInt8) : Prop := w.heap[g]? = some (.cells (bcells l).toArray 37 (0, 0))
theorem HexAt.cell {w : World} {g : Nat} {l : List UInt8} (h : HexAt w g l) {j : Nat} {x : UInt8} (hx : l[j]? = some x) : w.cell? ⟨g, j, none⟩ = some (.int .u8 x.toNat) := by
  rw [cell_of_row w g j _ 37 (0, 0) h]
  simpa using bcells_get hx
theorem HexAt.free {w : World} {g : Nat} {l : List UInt8} (h : HexAt w g l) (j : Nat) : w.frozen? ⟨g, j, none⟩ = false := frozen_of_row w g j _ 37 h
theorem HexAt.stored {w : World} {g : Nat} {l : List UInt8} (h : HexAt w g l) (k : Nat) (y : UInt8) : HexAt (w.setCell ⟨g, k, none⟩ (.int .u8 y.toNat)) g (l.set k y) := by
  unfold HexAt
  rw [heap_setCell_same w g k _ 37 _ h]
  unfold bcells
  rw [List.map_set]
  simp
theorem HexAt.arg {w : World} {g n : Nat} {l : List UInt8} (h : HexAt w g l) (hn : l.length = n) : ArgB w (some ⟨g, 0, none⟩) n n l := by
  subst hn
  refine ⟨rfl, by simp, Nat.le_refl _, fun ad e j u hu => ?_⟩
  cases e
  rw [addB_plain, Nat.zero_add, cell_of_row w g j _ 37 (0, 0) h]
  simpa using hu

def digitsB : ByteArray := ⟨#[48, 49, 50, 51, 52, 53, 54, 55, 56, 57, 97, 98, 99, 100, 101, 102]⟩
theorem digits_at : ∀ d : Fin 16, digitsB[d.1]'(d.2) = hexD d.1 := by decide
theorem digit_at (d : Nat) (hd : d < digitsB.size) : digitsB[d]'hd = hexD d := digits_at ⟨d, hd⟩
theorem hex_step {k h : Nat} (hk : k < 16) : (List.replicate (16 - k) 0 ++ digL k h).set (15 - k) (hexD (h / 16 ^ k % 16)) = List.replicate (16 - (k + 1)) 0 ++ digL (k + 1) h := by
  obtain ⟨j, hj⟩ : ∃ j, 16 - k = j + 1 := ⟨15 - k, by omega⟩
  rw [hj, show 15 - k = j by omega, show 16 - (k + 1) = j by omega, List.replicate_succ', List.append_assoc, digL_head]
  simp

set_option maxRecDepth 100000 in
set_option maxHeartbeats 1000000 in
theorem hex_any (h : Nat) (w : World) (hh : h < 18446744073709551616) :
    Calls Try.prog 12 #[.int .u64 h] w fun e w' => e = .returned (.string (Hog.mk (hexL h))) ∧ Below w.heap.size w w' := by
  go_enter Try.func12, Try.ntmps12
  go_wp2
  go_loopw [0, 4] (fun s i wr => ∃ (k y : Nat) (x : Int), k ≤ 16 ∧ x = 15 - (k : Int) ∧ i = .int .i64 x ∧ s = .int .u64 y ∧ Hid (y = h / 16 ^ k) ∧ Hid (HexAt wr w.heap.size (List.replicate (16 - k) 0 ++ digL k h)) ∧ Below w.heap.size w wr) (fun _ i _ => (intOf i + 1).toNat)
  case atStart => exact ⟨0, h, 15, by omega, by omega, rfl, rfl, by simp [Hid], heap_alloc_new w _, below_alloc _ _⟩
  case round =>
    obtain ⟨k, y, x, hk, hx, rfl, rfl, hy, hl, hbl⟩ := hrel
    by_cases hlt : k < 16
    · obtain ⟨j, rfl⟩ : ∃ j : Nat, x = j := ⟨15 - k, by omega⟩
      have hj : j + k = 15 := by omega
      have HJ := hide hj
      obtain ⟨d, hd⟩ : ∃ d, d = y % 16 := ⟨_, rfl⟩
      obtain ⟨q, hq⟩ : ∃ q, q = y / 16 := ⟨_, rfl⟩
      have hd1 : (y : Int).tmod 16 = (d : Int) := by rw [Int.tmod_eq_emod_of_nonneg (by omega)]; omega
      have hq1 : (y : Int).tdiv 16 = (q : Int) := by rw [Int.tdiv_eq_ediv_of_nonneg (by omega)]; omega
      have hd16 : d < 16 := by omega
      have f1 := hl.out.cell (j := j) (x := 0) (by rw [List.getElem?_append_left (by rw [List.length_replicate]; omega), List.getElem?_replicate, if_pos (by omega)])
      have f2 := hl.out.free j
      have hj0 : (0 : Int) ≤ (j : Int) := by omega
      have hj16 : (j : Int) < 16 := by omega
      have hqw : IntKind.u64.wrap (q : Int) = (q : Int) := by
        have : y ≤ h := by rw [hy.out]; exact Nat.div_le_self _ _
        rw [IntKind.wrap_u64]; omega
      have HD := hide hd
      have HQ := hide hq
      clear hd hq hj hx
      go_wp2
      go_roundw
      case rel =>
        refine ⟨k + 1, q, (j : Int) - 1, by omega, by have := HJ.out; omega, rfl, rfl, ?_, ?_, hbl.setCell (Nat.le_refl _) _⟩
        · rw [HQ.out, hy.out, Nat.div_div_eq_div_mul, Nat.pow_succ]
          exact hide rfl
        · have e1 : (List.replicate (16 - k) 0 ++ digL k h).set j (hexD d) = List.replicate (16 - (k + 1)) 0 ++ digL (k + 1) h := by
            rw [HD.out, hy.out, show j = 15 - k by have := HJ.out; omega]
            exact hex_step hlt
          have h1 := hl.out.stored j (hexD d)
          rw [e1] at h1
          rw [← digit_at d (show d < digitsB.size from hd16)] at h1
          exact h1
      case measure => simp [intOf]
    · obtain rfl : k = 16 := by omega
      have hs := str_bytes (hl.out.arg (n := 16) (by rw [List.length_append, digL_len]; rfl))
      have hx0 : x < 0 := by omega
      clear hx
      go_wp2
      go_ret
      exact ⟨rfl, hbl⟩
theorem digit_u64 (h j : Nat) (hh : h < 18446744073709551616) : bits .and .u64 ((h : Int) / 2 ^ (4 * j)) 15 = ((h / 16 ^ j % 16 : Nat) : Int) := by
  have e : (h : Int) / 2 ^ (4 * j) = ((h / 16 ^ j : Nat) : Int) := by rw [Int.natCast_ediv, Int.natCast_pow, Int.pow_mul]; rfl
  have hl : h / 16 ^ j < 18446744073709551616 := Nat.lt_of_le_of_lt (Nat.div_le_self _ _) hh
  rw [e]
  have := u64_and_nat (h / 16 ^ j) 15 hl (by decide)
  rw [Nat.and_two_pow_sub_one_eq_mod _ 4] at this
  exact this
set_option maxRecDepth 100000 in
set_option maxHeartbeats 1000000 in
theorem rhex_any (h : Nat) (w : World) (hh : h < 18446744073709551616) :
    Calls Try.prog 13 #[.int .u64 h] w fun e w' => e = .returned (.string (Hog.mk (hexL h))) ∧ Below w.heap.size w w' := by
  go_enter Try.func13, Try.ntmps13
  go_wp2
  go_loopw [3, 4] (fun s i wr => ∃ (k : Nat) (x : Int) (b : Option Addr) (c : Nat), k ≤ 16 ∧ x = 15 - (k : Int) ∧ i = .int .i64 x ∧ s = .slice b k c ∧ Hid (OwnB w.heap.size wr (.slice b k c) (digL k (h / 16 ^ (16 - k)))) ∧ Below w.heap.size w wr) (fun _ i _ => (intOf i + 1).toNat)
  case atStart => exact ⟨0, 15, none, 0, by omega, by omega, rfl, rfl, OwnB.nil _ _, Below.refl _ _⟩
  case round =>
    obtain ⟨k, x, b, c, hk, hx, rfl, rfl, hl, hbl⟩ := hrel
    by_cases hlt : k < 16
    · obtain ⟨j, rfl⟩ : ∃ j : Nat, x = j := ⟨15 - k, by omega⟩
      have hj : j + k = 15 := by omega
      have HJ := hide hj
      have hj0 : (0 : Int) ≤ (j : Int) := by omega
      have hj16 : (j : Int) < 16 := by omega
      obtain ⟨d, hd⟩ : ∃ d, d = h / 16 ^ j % 16 := ⟨_, rfl⟩
      have hand : bits .and .u64 ((h : Int) / 2 ^ (4 * j)) 15 = (d : Int) := by rw [hd]; exact digit_u64 h j hh
      have hd16 : d < 16 := by omega
      have hd0 : (0 : Int) ≤ (d : Int) := by omega
      have hd1 : (d : Int) < 16 := by omega
      have HLN := hide (digL_len k (h / 16 ^ (16 - k)))
      obtain ⟨zs, hzs⟩ : ∃ zs, zs = digL (k + 1) (h / 16 ^ (16 - (k + 1))) := ⟨_, rfl⟩
      have HZ : Hid (digL k (h / 16 ^ (16 - k)) ++ [hexD d] = zs) := by
        rw [hzs, hd, show 16 - k = j + 1 by omega, show 16 - (k + 1) = j by omega, digL, Nat.div_div_eq_div_mul, Nat.pow_succ]
        exact hide rfl
      have HZS := hide hzs
      have hbw : w.heap.size ≤ wr.heap.size := hbl.size
      clear hj hx hd hzs
      go_wp2_with (at_builtin; refine wpList_append_b1 rfl _ _ rfl w.heap.size _ _ rfl hl.out _ rfl (hexD d) ?c1 k HLN.out _ HZ.out ?c2 hbw ?_)
      case c1 => exact congrArg (fun x : UInt8 => (x.toNat : Int)) (digit_at d (show d < digitsB.size from hd16))
      case c2 => omega
      intro b1 c1 w1 ho1 hl1
      have HO1 := hide ho1
      have hb1 := hbl.trans (hl1.below hl.out hbw)
      clear ho1 hl1
      go_wp2
      go_roundw
      case rel => exact ⟨k + 1, (j : Int) - 1, b1, c1, by omega, by have := HJ.out; omega, rfl, rfl, by rw [← HZS.out]; exact HO1, hb1⟩
      case measure => simp [intOf]
    · obtain rfl : k = 16 := by omega
      have hs := str_bytes hl.out.argAt.2
      have hx0 : x < 0 := by omega
      clear hx
      go_wp2
      go_ret
      exact ⟨rfl, hbl⟩
end Go.Proofs.Ytbdnkgmpklpegaa
