/- The walks of the statements' own LendTexts and KeptTexts: texts are lent with spare room that is marked, and looked at again. -/
import Derived.Test.YteccbnhbdfplfaaR8
import Derived.Test.YteccbnhbdfplfaaW6
namespace Go.Proofs.Yteccbnhbdfplfaa
open Go.RowKit

/-- In block g lie the texts xs, and behind them, from place n on, k marks; there is room for three. -/
def Lent (w : World) (g k : Nat) (xs : List ByteArray) : Prop :=
  ∃ cur : Array Value, w.heap[g]? = some (.cells cur 9 (0, 0)) ∧ cur.size = xs.length + 3 ∧ (∀ (j : Nat) x, xs[j]? = some x → cur[j]? = some (.string x)) ∧ ∀ j, j < k → cur[xs.length + j]? = some (.string ⟨#[108, 101, 110, 116]⟩)

theorem Lent.cell {w : World} {g k : Nat} {xs : List ByteArray} (h : Lent w g k xs) (j : Nat) (hj : j < 3) : ∃ v, w.cell? ⟨g, xs.length + j, none⟩ = some v ∧ (j < k → v = .string ⟨#[108, 101, 110, 116]⟩) := by
  obtain ⟨cur, hg, hs, _, hm⟩ := h
  have hlt : xs.length + j < cur.size := by omega
  refine ⟨cur[xs.length + j], by rw [cell_of_row w g _ cur 9 (0, 0) hg]; exact Array.getElem?_eq_getElem hlt, fun hk => ?_⟩
  have := hm j hk
  rw [Array.getElem?_eq_getElem hlt] at this
  exact Option.some.inj this
theorem Lent.free {w : World} {g k : Nat} {xs : List ByteArray} (h : Lent w g k xs) (j : Nat) : w.frozen? ⟨g, j, none⟩ = false := by
  obtain ⟨cur, hg, _⟩ := h
  exact frozen_of_row w g j cur 9 hg
theorem Lent.mark {w : World} {g k : Nat} {xs : List ByteArray} (h : Lent w g k xs) (hk : k < 3) : Lent (w.setCell ⟨g, xs.length + k, none⟩ (.string ⟨#[108, 101, 110, 116]⟩)) g (k + 1) xs := by
  obtain ⟨cur, hg, hs, hx, hm⟩ := h
  refine ⟨_, heap_setCell_same w g _ cur 9 _ hg, by rw [Array.size_setIfInBounds]; exact hs, fun j x hj => ?_, fun j hj => ?_⟩
  · have hjl := (List.getElem?_eq_some_iff.1 hj).1
    rw [Array.getElem?_setIfInBounds_ne (by omega)]
    exact hx j x hj
  · by_cases e : j = k
    · subst e
      rw [Array.getElem?_setIfInBounds_self_of_lt (by omega)]
    · rw [Array.getElem?_setIfInBounds_ne (by omega)]
      exact hm j (by omega)
theorem Lent.txt {w : World} {g k : Nat} {xs : List ByteArray} (h : Lent w g k xs) : Txt w (.slice (some ⟨g, 0, none⟩) xs.length (xs.length + 3)) xs := by
  obtain ⟨cur, hg, hs, hx, _⟩ := h
  refine .inr ⟨g, 0, xs.length + 3, rfl, by omega, (Array.getElem?_eq_some_iff.1 hg).1, fun j x hj => ?_⟩
  rw [Nat.zero_add, cell_of_row w g j cur 9 (0, 0) hg]
  exact hx j x hj
theorem Lent.below {w w' : World} {g k : Nat} {xs : List ByteArray} (h : Lent w g k xs) (hb : Below w.heap.size w w') : Lent w' g k xs := by
  obtain ⟨cur, hg, r⟩ := h
  exact ⟨cur, by rw [hb.block g (Array.getElem?_eq_some_iff.1 hg).1]; exact hg, r⟩
theorem Lent.start {base : Nat} {w : World} {g : Nat} {xs : List ByteArray} {n : Nat} (hn : n = xs.length) (h : w.ownsRow base 9 1 (.slice (some ⟨g, 0, none⟩) n (n + 3)) n (xs.map Value.string)) : Lent w g 0 xs := by
  subst hn
  rcases h.2 with ⟨h', _⟩ | ⟨g', cap', cur, h', _, hg, _, _, hs, ht⟩
  · simp at h'
  · simp only [Value.slice.injEq, Option.some.injEq, Addr.mk.injEq, and_true, true_and] at h'
    obtain ⟨rfl, rfl⟩ := h'
    refine ⟨cur, hg, by omega, fun j x hj => ?_, fun j hj => by omega⟩
    have h1 : (xs.map Value.string)[j]? = some (.string x) := by rw [List.getElem?_map, hj]; rfl
    rw [← ht, List.getElem?_take] at h1
    split at h1
    · simpa using h1
    · cases h1

set_option maxRecDepth 100000 in
set_option maxHeartbeats 1000000 in
theorem lend_any (ao : Option Addr) (n c : Nat) (xs : List ByteArray) (w : World) (h : Arg w ao n c xs) (hn : n ≤ 14) :
    Calls Try.prog 10 #[.slice ao n c] w fun e w' => e = .returned (.slice (some ⟨w.heap.size, 0, none⟩) n (n + 3)) ∧ Lent w' w.heap.size 3 xs ∧ Below w.heap.size w w' := by
  have HA := hide h
  have hlen := hide h.len
  clear h
  obtain ⟨i0, hi, hz0, hz1, hz2⟩ := info_parts A9
  go_enter Try.func10, Try.ntmps10
  go_wp2_with (at_make; refine wpList_make_own w rfl _ _ 22 rfl w.heap.size 9 i0 (.string ByteArray.empty) 1 Try.underlying22 hi hz0 hz1 .i64 .i64 _ (n + 3) rfl rfl ?c1 ?c2 ?c3 (Nat.le_refl _) ?_)
  case c1 => simp
  case c2 => rw [hz2]; omega
  case c3 => unfold maxLen; omega
  intro w1 hown1 hgrow1
  have hb1 : Below w.heap.size w w1 := (Below.refl _ w).grown hgrow1 (Nat.le_refl _) (fun k hk => by cases hk)
  have HO1 := hide hown1
  have HA1 := hide (HA.out.below hb1)
  have HB1 := hide hb1
  clear hown1 hgrow1 hb1
  go_wp2_with (at_builtin; refine wpList_append_fits_any _ rfl _ _ 22 rfl w.heap.size 9 i0 1 Try.underlying22 hi hz1 w.heap.size 0 (n + 3) [] rfl HO1.out ao n c (xs.map Value.string) rfl ?d1 ?d2 ?d3 ?d4 ?d5 ?_)
  case d1 => rw [List.length_map, hlen.out, Nat.mul_one]
  case d2 => exact HA1.out.none
  case d3 => exact HA1.out.cell
  case d4 =>
    intro z hz
    obtain ⟨y, _, rfl⟩ := List.mem_map.1 hz
    rfl
  case d5 => omega
  intro w2 hown2 hgrow2
  have hb2 : Below w.heap.size w w2 := HB1.out.grown hgrow2 HB1.out.size (fun k hk => by simp at hk; omega)
  have HL2 : Hid (Lent w2 w.heap.size 0 xs) := Lent.start hlen.out.symm (by simpa using hown2)
  clear hown2 hgrow2
  go_wp2
  go_loopw [5] (fun i wr => ∃ k : Nat, k ≤ 3 ∧ i = .int .i64 k ∧ Hid (Lent wr w.heap.size k xs) ∧ Below w.heap.size w wr) (fun i _ => 3 - (intOf i).toNat)
  case atStart => exact ⟨0, by omega, rfl, HL2, hb2⟩
  case round =>
    obtain ⟨k, hk, rfl, hlk, hbl⟩ := hrel
    by_cases hlt : k < 3
    · obtain ⟨v, hv, _⟩ := hlk.out.cell k hlt
      have hf := hlk.out.free (xs.length + k)
      rw [hlen.out] at hv hf
      have hk3 : (k : Int) < 3 := by omega
      go_wp2
      go_roundw
      case rel =>
        refine ⟨k + 1, by omega, by go_num, ?_, hbl.setCell (Nat.le_refl _) _⟩
        have h := hlk.out.mark hlt
        rw [hlen.out] at h
        exact h
      case measure => simp [intOf]; omega
    · have hk3 : k = 3 := by omega
      subst hk3
      go_wp2
      go_ret
      exact ⟨rfl, hlk.out, hbl⟩
set_option maxRecDepth 100000 in
set_option maxHeartbeats 1000000 in
theorem kept_ok (ao : Option Addr) (g n c : Nat) (xs : List ByteArray) (w0 w : World) (h : Ok w0 w) (hl : Lent w g 3 xs) (ha : Arg w ao n c xs) (hn : n ≤ 14) :
    Calls Try.prog 22 #[.slice (some ⟨g, 0, none⟩) n (n + 3), .slice ao n c] w fun e w' => e = .returned (.bool true) ∧ Ok w0 w' := by
  have HL := hide hl
  have HA := hide ha
  have hlen := hide ha.len
  clear hl ha
  go_enter Try.func22, Try.ntmps22
  go_wp2
  go_loop [6] (fun i => ∃ k : Nat, k ≤ 3 ∧ i = .int .i64 k) (fun i => 3 - (intOf i).toNat)
  case atStart => exact ⟨0, by omega, rfl⟩
  case round =>
    obtain ⟨k, hk, rfl⟩ := hrel
    by_cases hlt : k < 3
    · obtain ⟨v, hv, hvv⟩ := HL.out.cell k hlt
      rw [hvv hlt, hlen.out] at hv
      have hk3 : (k : Int) < 3 := by omega
      clear hvv
      go_wp2
      go_round
      case rel => exact ⟨k + 1, by omega, by go_num⟩
      case measure => simp [intOf]; omega
    · have hk3 : k = 3 := by omega
      subst hk3
      have HT := hide HL.out.txt
      rw [hlen.out] at HT
      go_wp2_with fail
      refine (same_any _ _ xs xs w HT.out HA.out.txt (by have := hlen.out; omega)).mono ?_
      rintro e w1 ⟨rfl, hb1⟩
      rw [decide_eq_true rfl]
      go_wp2_with fail
      go_ret
      exact ⟨rfl, h.next hb1⟩
end Go.Proofs.Yteccbnhbdfplfaa
