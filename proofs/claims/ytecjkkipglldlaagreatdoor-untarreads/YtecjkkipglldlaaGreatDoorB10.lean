/- The walks of the statements' own LendBytes, KeptBytes, OverBytes. -/
import Derived.Test.YtecjkkipglldlaaGreatDoorB9
namespace Go.Proofs.YtecjkkipglldlaaGreatDoor
open Go.RowKit

/-- In block g lie the bytes l, and behind them k marks; there is room for three. -/
def LentB (w : World) (g k : Nat) (l : List UInt8) : Prop :=
  ∃ cur : Array Value, w.heap[g]? = some (.cells cur 5 (0, 0)) ∧ cur.size = l.length + 3 ∧ (∀ (j : Nat) x, (bcells l)[j]? = some x → cur[j]? = some x) ∧
    ∀ j, j < k → cur[l.length + j]? = some (.int .u8 119)
theorem LentB.cell {w : World} {g k : Nat} {l : List UInt8} (h : LentB w g k l) (j : Nat) (hj : j < l.length + 3) : ∃ v, w.cell? ⟨g, j, none⟩ = some v := by
  obtain ⟨cur, hg, hs, _, hm⟩ := h
  exact ⟨cur[j], by rw [cell_of_row w g _ cur 5 (0, 0) hg]; exact Array.getElem?_eq_getElem (by omega)⟩
theorem LentB.free {w : World} {g k : Nat} {l : List UInt8} (h : LentB w g k l) (j : Nat) : w.frozen? ⟨g, j, none⟩ = false := by
  obtain ⟨cur, hg, _⟩ := h
  exact frozen_of_row w g j cur 5 hg
theorem LentB.marked {w : World} {g k : Nat} {l : List UInt8} (h : LentB w g k l) (j : Nat) (hj : j < k) : w.cell? ⟨g, l.length + j, none⟩ = some (.int .u8 119) := by
  obtain ⟨cur, hg, hs, _, hm⟩ := h
  rw [cell_of_row w g _ cur 5 (0, 0) hg]
  exact hm j hj
theorem LentB.mark {w : World} {g k : Nat} {l : List UInt8} (h : LentB w g k l) (hk : k < 3) : LentB (w.setCell ⟨g, l.length + k, none⟩ (.int .u8 119)) g (k + 1) l := by
  obtain ⟨cur, hg, hs, hx, hm⟩ := h
  refine ⟨_, heap_setCell_same w g _ cur 5 _ hg, by simp only [Array.size_setIfInBounds]; exact hs, fun j x hj => ?_, fun j hj => ?_⟩
  · have hjl := (List.getElem?_eq_some_iff.1 hj).1
    rw [bcells_len] at hjl
    rw [Array.getElem?_setIfInBounds_ne (by omega)]
    exact hx j x hj
  · by_cases e : j = k
    · subst e
      rw [Array.getElem?_setIfInBounds_self_of_lt (by omega)]
    · rw [Array.getElem?_setIfInBounds_ne (by omega)]
      exact hm j (by omega)
theorem LentB.arg {w : World} {g k n : Nat} {l : List UInt8} (h : LentB w g k l) (hn : n = l.length) : ArgB w (some ⟨g, 0, none⟩) n (n + 3) l := by
  subst hn
  obtain ⟨cur, hg, hs, hx, _⟩ := h
  refine ⟨rfl, by simp, by omega, fun ad e j u hu => ?_⟩
  cases e
  rw [addB_plain, Nat.zero_add, cell_of_row w g j cur 5 (0, 0) hg]
  exact hx j u hu
theorem LentB.below {w w' : World} {g k : Nat} {l : List UInt8} (h : LentB w g k l) {B : Nat} (hb : Below B w w') (hB : g < B) : LentB w' g k l := by
  obtain ⟨cur, hg, r⟩ := h
  exact ⟨cur, by rw [hb.block g hB]; exact hg, r⟩
theorem LentB.lt {w : World} {g k : Nat} {l : List UInt8} (h : LentB w g k l) : g < w.heap.size := by
  obtain ⟨cur, hg, r⟩ := h
  exact (Array.getElem?_eq_some_iff.1 hg).1
theorem LentB.start {base : Nat} {w : World} {g : Nat} {l : List UInt8} {n : Nat} (hn : n = l.length) (h : w.ownsRow base 5 1 (.slice (some ⟨g, 0, none⟩) n (n + 3)) n (bcells l)) : LentB w g 0 l := by
  subst hn
  rcases h.2 with ⟨h', _⟩ | ⟨g', cap', cur, h', _, hg, _, _, hs, ht⟩
  · simp at h'
  · simp only [Value.slice.injEq, Option.some.injEq, Addr.mk.injEq, and_true, true_and] at h'
    obtain ⟨rfl, rfl⟩ := h'
    refine ⟨cur, hg, by omega, fun j x hj => ?_, fun j hj => by omega⟩
    rw [← ht, List.getElem?_take] at hj
    split at hj
    · simpa using hj
    · cases hj

set_option maxRecDepth 100000 in
set_option maxHeartbeats 1000000 in
theorem lendB_any (ao : Option Addr) (n c : Nat) (l : List UInt8) (w : World) (h : ArgB w ao n c l) (hn : n ≤ 100000) :
    Calls Tryz.prog 7 #[.slice ao n c] w fun e w' => e = .returned (.slice (some ⟨w.heap.size, 0, none⟩) n (n + 3)) ∧ LentB w' w.heap.size 3 l ∧ Below w.heap.size w w' := by
  have HA := hide h
  have hlen := hide h.len
  clear h
  obtain ⟨i0, hi, hz0, hz1, hz2⟩ := info_parts A5
  go_enter Tryz.func7, Tryz.ntmps7
  go_wp2_with (at_make; refine wpList_make_own w rfl _ _ 22 rfl w.heap.size 5 i0 (.int .u8 0) 1 Tryz.underlying22 hi hz0 hz1 .i64 .i64 _ (n + 3) rfl rfl ?c1 ?c2 ?c3 (Nat.le_refl _) ?_)
  case c1 => simp
  case c2 => rw [hz2]; omega
  case c3 => unfold maxLen; omega
  intro w1 hown1 hgrow1
  have hb1 : Below w.heap.size w w1 := (Below.refl _ w).grown hgrow1 (Nat.le_refl _) (fun k hk => by cases hk)
  have HO1 := hide hown1
  have HA1 := hide (HA.out.below hb1)
  have HB1 := hide hb1
  clear hown1 hgrow1 hb1
  go_wp2_with (at_builtin; refine wpList_append_fits_any _ rfl _ _ 22 rfl w.heap.size 5 i0 1 Tryz.underlying22 hi hz1 w.heap.size 0 (n + 3) [] rfl HO1.out ao n c (bcells l) rfl ?d1 ?d2 ?d3 ?d4 ?d5 ?_)
  case d1 => rw [bcells_len, hlen.out, Nat.mul_one]
  case d2 => exact HA1.out.none
  case d3 => exact HA1.out.cell
  case d4 => exact bcells_one l
  case d5 => omega
  intro w2 hown2 hgrow2
  have hb2 : Below w.heap.size w w2 := HB1.out.grown hgrow2 HB1.out.size (fun k hk => by simp at hk; omega)
  have HL2 : Hid (LentB w2 w.heap.size 0 l) := LentB.start hlen.out.symm (by simpa using hown2)
  clear hown2 hgrow2
  go_wp2
  go_loopw [5] (fun i wr => ∃ k : Nat, k ≤ 3 ∧ i = .int .i64 k ∧ Hid (LentB wr w.heap.size k l) ∧ Below w.heap.size w wr) (fun i _ => 3 - (intOf i).toNat)
  case atStart => exact ⟨0, by omega, rfl, HL2, hb2⟩
  case round =>
    obtain ⟨k, hk, rfl, hlk, hbl⟩ := hrel
    by_cases hlt : k < 3
    · obtain ⟨v1, hv1⟩ := hlk.out.cell (n + k) (by rw [hlen.out]; omega)
      have hf1 := hlk.out.free (n + k)
      have hk3 : (k : Int) < 3 := by omega
      go_wp2
      go_roundw
      case rel =>
        refine ⟨k + 1, by omega, by go_num, ?_, hbl.setCell (Nat.le_refl _) _⟩
        have h := hlk.out.mark hlt
        rw [hlen.out] at h
        exact h
      case measure => simp [intOf]; omega
    · have hk3 : k = 3 := by omega
      subst hk3
      go_wp2
      go_ret
      exact ⟨rfl, hlk.out, hbl⟩
set_option maxRecDepth 100000 in
set_option maxHeartbeats 1000000 in
theorem keptB_any (ao : Option Addr) (g n c : Nat) (l : List UInt8) (w0 w : World) (hok : Ok w0 w) (hl : LentB w g 3 l) (ha : ArgB w ao n c l) (hn : n ≤ 100000) :
    Calls Tryz.prog 13 #[.slice (some ⟨g, 0, none⟩) n (n + 3), .slice ao n c] w fun e w' => e = .returned (.bool true) ∧ Ok w0 w' ∧ Below w.heap.size w w' := by
  have HL := hide hl
  have HA := hide ha
  have hlen := hide ha.len
  clear hl ha
  go_enter Tryz.func13, Tryz.ntmps13
  go_wp2
  go_loopw [6] (fun i wr => ∃ k : Nat, k ≤ 3 ∧ i = .int .i64 k ∧ wr = w) (fun i _ => 3 - (intOf i).toNat)
  case atStart => exact ⟨0, by omega, rfl, rfl⟩
  case round =>
    obtain ⟨k, hk, rfl, rfl⟩ := hrel
    by_cases hlt : k < 3
    · have g1 := HL.out.marked k hlt
      rw [hlen.out] at g1
      have hk3 : (k : Int) < 3 := by omega
      go_wp2
      go_roundw
      case rel => exact ⟨k + 1, by omega, by go_num, trivial⟩
      case measure => simp [intOf]; omega
    · have hk3 : k = 3 := by omega
      subst hk3
      go_wp2_with fail
      refine (sameB_ok _ _ _ _ _ _ l l true w0 _ hok (HL.out.arg hlen.out.symm) HA.out (by omega) (by simp)).mono ?_
      rintro e w1 ⟨rfl, ok1, hb1⟩
      go_wp2_with fail
      go_ret
      exact ⟨rfl, ok1, hb1⟩

theorem OwnB.stored {base : Nat} {w : World} {g n cap : Nat} {l : List UInt8} (hn : n = l.length) (h : OwnB base w (.slice (some ⟨g, 0, none⟩) n cap) l) (k : Nat) (y : UInt8) : OwnB base (w.setCell ⟨g, k, none⟩ (.int .u8 y.toNat)) (.slice (some ⟨g, 0, none⟩) n cap) (l.set k y) := by
  subst hn
  have h2 := (World.ownsRow.stored h k (.int .u8 y.toNat)).1
  unfold OwnB
  have e : bcells (l.set k y) = (bcells l).set k (.int .u8 y.toNat) := by unfold bcells; rw [List.map_set]
  rw [e, List.length_set]
  exact h2

end Go.Proofs.YtecjkkipglldlaaGreatDoor
