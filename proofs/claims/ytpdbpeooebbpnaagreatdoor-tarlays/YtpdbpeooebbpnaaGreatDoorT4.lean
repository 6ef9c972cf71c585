/- The walks of the statements' own LendNodes and KeptNodes: nodes are lent with spare room that is marked, and looked at again. -/
import Derived.Test.YtpdbpeooebbpnaaGreatDoorJ6
namespace Go.Proofs.YtpdbpeooebbpnaaGreatDoor
open Go.RowKit

def lentNd : Nd := (⟨#[108, 101, 110, 116]⟩, 0, ⟨#[]⟩)
/-- In block g lie the nodes ns, and behind them k marks; there is room for three. -/
def LentN (w : World) (g k : Nat) (ns : List Nd) : Prop :=
  ∃ cur : Array Value, w.heap[g]? = some (.cells cur 39 (0, 0)) ∧ cur.size = (ns.length + 3) * 3 ∧ (∀ (j : Nat) x, (flat ns)[j]? = some x → cur[j]? = some x) ∧
    ∀ j, j < k → cur[ns.length * 3 + j * 3]? = some (.string lentNd.1) ∧ cur[ns.length * 3 + j * 3 + 1]? = some (.int .i64 0) ∧ cur[ns.length * 3 + j * 3 + 2]? = some (.string lentNd.2.2)

theorem LentN.cell {w : World} {g k : Nat} {ns : List Nd} (h : LentN w g k ns) (j : Nat) (hj : j < (ns.length + 3) * 3) : ∃ v, w.cell? ⟨g, j, none⟩ = some v := by
  obtain ⟨cur, hg, hs, _, hm⟩ := h
  exact ⟨cur[j], by rw [cell_of_row w g _ cur 39 (0, 0) hg]; exact Array.getElem?_eq_getElem (by omega)⟩
theorem LentN.free {w : World} {g k : Nat} {ns : List Nd} (h : LentN w g k ns) (j : Nat) : w.frozen? ⟨g, j, none⟩ = false := by
  obtain ⟨cur, hg, _⟩ := h
  exact frozen_of_row w g j cur 39 hg
theorem LentN.marked {w : World} {g k : Nat} {ns : List Nd} (h : LentN w g k ns) (j : Nat) (hj : j < k) : At w g (ns.length * 3 + j * 3) lentNd := by
  obtain ⟨cur, hg, hs, _, hm⟩ := h
  obtain ⟨h1, h2, h3⟩ := hm j hj
  refine ⟨?_, ?_, ?_⟩ <;> rw [cell_of_row w g _ cur 39 (0, 0) hg] <;> assumption
theorem LentN.mark {w : World} {g k : Nat} {ns : List Nd} (h : LentN w g k ns) (hk : k < 3) :
    LentN (((w.setCell ⟨g, ns.length * 3 + k * 3, none⟩ (.string lentNd.1)).setCell ⟨g, ns.length * 3 + k * 3 + 1, none⟩ (.int .i64 0)).setCell ⟨g, ns.length * 3 + k * 3 + 2, none⟩ (.string lentNd.2.2)) g (k + 1) ns := by
  obtain ⟨cur, hg, hs, hx, hm⟩ := h
  refine ⟨_, heap_setCell_same _ g _ _ 39 _ (heap_setCell_same _ g _ _ 39 _ (heap_setCell_same w g _ cur 39 _ hg)), by simp only [Array.size_setIfInBounds]; exact hs, fun j x hj => ?_, fun j hj => ?_⟩
  · have hjl := (List.getElem?_eq_some_iff.1 hj).1
    rw [flat_len] at hjl
    rw [Array.getElem?_setIfInBounds_ne (by omega), Array.getElem?_setIfInBounds_ne (by omega), Array.getElem?_setIfInBounds_ne (by omega)]
    exact hx j x hj
  · by_cases e : j = k
    · subst e
      refine ⟨?_, ?_, ?_⟩
      · rw [Array.getElem?_setIfInBounds_ne (by omega), Array.getElem?_setIfInBounds_ne (by omega), Array.getElem?_setIfInBounds_self_of_lt (by omega)]
      · rw [Array.getElem?_setIfInBounds_ne (by omega), Array.getElem?_setIfInBounds_self_of_lt (by simp only [Array.size_setIfInBounds]; omega)]
      · rw [Array.getElem?_setIfInBounds_self_of_lt (by simp only [Array.size_setIfInBounds]; omega)]
    · obtain ⟨h1, h2, h3⟩ := hm j (by omega)
      refine ⟨?_, ?_, ?_⟩ <;> rw [Array.getElem?_setIfInBounds_ne (by omega), Array.getElem?_setIfInBounds_ne (by omega), Array.getElem?_setIfInBounds_ne (by omega)] <;> assumption
theorem LentN.arg {w : World} {g k n : Nat} {ns : List Nd} (h : LentN w g k ns) (hn : n = ns.length) : ArgN w (some ⟨g, 0, none⟩) n (n + 3) ns := by
  subst hn
  obtain ⟨cur, hg, hs, hx, _⟩ := h
  refine ⟨rfl, by simp, by omega, fun ad e j u hu => ?_⟩
  cases e
  rw [addN_plain, Nat.zero_add, cell_of_row w g j cur 39 (0, 0) hg]
  exact hx j u hu
theorem LentN.below {w w' : World} {g k : Nat} {ns : List Nd} (h : LentN w g k ns) {B : Nat} (hb : Below B w w') (hB : g < B) : LentN w' g k ns := by
  obtain ⟨cur, hg, r⟩ := h
  exact ⟨cur, by rw [hb.block g hB]; exact hg, r⟩
theorem LentN.lt {w : World} {g k : Nat} {ns : List Nd} (h : LentN w g k ns) : g < w.heap.size := by
  obtain ⟨cur, hg, r⟩ := h
  exact (Array.getElem?_eq_some_iff.1 hg).1
theorem LentN.start {base : Nat} {w : World} {g : Nat} {ns : List Nd} {n : Nat} (hn : n = ns.length) (h : w.ownsRow base 39 3 (.slice (some ⟨g, 0, none⟩) n (n + 3)) n (flat ns)) : LentN w g 0 ns := by
  subst hn
  rcases h.2 with ⟨h', _⟩ | ⟨g', cap', cur, h', _, hg, _, _, hs, ht⟩
  · simp at h'
  · simp only [Value.slice.injEq, Option.some.injEq, Addr.mk.injEq, and_true, true_and] at h'
    obtain ⟨rfl, rfl⟩ := h'
    refine ⟨cur, hg, by omega, fun j x hj => ?_, fun j hj => by omega⟩
    rw [← ht, List.getElem?_take] at hj
    split at hj
    · simpa using hj
    · cases hj

set_option maxRecDepth 100000 in
set_option maxHeartbeats 1000000 in
theorem lendN_any (ao : Option Addr) (n c : Nat) (ns : List Nd) (w : World) (h : ArgN w ao n c ns) (hn : n ≤ 1000) :
    Calls Tryz.prog 6 #[.slice ao n c] w fun e w' => e = .returned (.slice (some ⟨w.heap.size, 0, none⟩) n (n + 3)) ∧ LentN w' w.heap.size 3 ns ∧ Below w.heap.size w w' := by
  have HA := hide h
  have hlen := hide h.len
  clear h
  obtain ⟨i0, hi, hz0, hz1, hz2⟩ := info_parts A24
  go_enter Tryz.func6, Tryz.ntmps6
  go_wp2_with (at_make; refine wpList_make_own w rfl _ _ 22 rfl w.heap.size 39 i0 (.agg #[.string ByteArray.empty, .int .i64 0, .string ByteArray.empty]) 3 Tryz.underlying22 hi hz0 hz1 .i64 .i64 _ (n + 3) rfl rfl ?c1 ?c2 ?c3 (Nat.le_refl _) ?_)
  case c1 => simp
  case c2 => rw [hz2]; omega
  case c3 => unfold maxLen; omega
  intro w1 hown1 hgrow1
  have hb1 : Below w.heap.size w w1 := (Below.refl _ w).grown hgrow1 (Nat.le_refl _) (fun k hk => by cases hk)
  have HO1 := hide hown1
  have HA1 := hide (HA.out.below hb1)
  have HB1 := hide hb1
  clear hown1 hgrow1 hb1
  go_wp2_with (at_builtin; refine wpList_append_fits_any _ rfl _ _ 22 rfl w.heap.size 39 i0 3 Tryz.underlying22 hi hz1 w.heap.size 0 (n + 3) [] rfl HO1.out ao n c (flat ns) rfl ?d1 ?d2 ?d3 ?d4 ?d5 ?_)
  case d1 => rw [flat_len, hlen.out]
  case d2 => exact HA1.out.none
  case d3 => exact HA1.out.cell
  case d4 => exact flat_one ns
  case d5 => omega
  intro w2 hown2 hgrow2
  have hb2 : Below w.heap.size w w2 := HB1.out.grown hgrow2 HB1.out.size (fun k hk => by simp at hk; omega)
  have HL2 : Hid (LentN w2 w.heap.size 0 ns) := LentN.start hlen.out.symm (by simpa using hown2)
  clear hown2 hgrow2
  go_wp2
  go_loopw [5] (fun i wr => ∃ k : Nat, k ≤ 3 ∧ i = .int .i64 k ∧ Hid (LentN wr w.heap.size k ns) ∧ Below w.heap.size w wr) (fun i _ => 3 - (intOf i).toNat)
  case atStart => exact ⟨0, by omega, rfl, HL2, hb2⟩
  case round =>
    obtain ⟨k, hk, rfl, hlk, hbl⟩ := hrel
    by_cases hlt : k < 3
    · obtain ⟨v1, hv1⟩ := hlk.out.cell (n * 3 + k * 3) (by rw [hlen.out]; omega)
      obtain ⟨v2, hv2⟩ := hlk.out.cell (n * 3 + k * 3 + 1) (by rw [hlen.out]; omega)
      obtain ⟨v3, hv3⟩ := hlk.out.cell (n * 3 + k * 3 + 2) (by rw [hlen.out]; omega)
      have hf1 := hlk.out.free (n * 3 + k * 3)
      have hf2 := hlk.out.free (n * 3 + k * 3 + 1)
      have hf3 := hlk.out.free (n * 3 + k * 3 + 2)
      have hk3 : (k : Int) < 3 := by omega
      go_wp2
      go_roundw
      case rel =>
        refine ⟨k + 1, by omega, by go_num, ?_, ((hbl.setCell (Nat.le_refl _) _).setCell (Nat.le_refl _) _).setCell (Nat.le_refl _) _⟩
        have h := hlk.out.mark hlt
        rw [hlen.out] at h
        exact h
      case measure => simp [intOf]; omega
    · have hk3 : k = 3 := by omega
      subst hk3
      go_wp2
      go_ret
      exact ⟨rfl, hlk.out, hbl⟩
set_option maxRecDepth 100000 in
set_option maxHeartbeats 1000000 in
theorem keptN_any (ao : Option Addr) (g n c : Nat) (ns : List Nd) (w : World) (hl : LentN w g 3 ns) (ha : ArgN w ao n c ns) (hn : n ≤ 1000) :
    Calls Tryz.prog 13 #[.slice (some ⟨g, 0, none⟩) n (n + 3), .slice ao n c] w fun e w' => e = .returned (.bool true) ∧ Below w.heap.size w w' := by
  have HL := hide hl
  have HA := hide ha
  have hlen := hide ha.len
  clear hl ha
  go_enter Tryz.func13, Tryz.ntmps13
  go_wp2
  go_loopw [6] (fun i wr => ∃ k : Nat, k ≤ 3 ∧ i = .int .i64 k ∧ Below w.heap.size w wr) (fun i _ => 3 - (intOf i).toNat)
  case atStart => exact ⟨0, by omega, rfl, Below.refl _ _⟩
  case round =>
    obtain ⟨k, hk, rfl, hbl⟩ := hrel
    by_cases hlt : k < 3
    · obtain ⟨g1, g2, g3⟩ := (HL.out.marked k hlt).below hbl HL.out.lt
      rw [hlen.out] at g1 g2 g3
      have hk3 : (k : Int) < 3 := by omega
      have hnq := fun w => neq_node lentNd lentNd w
      have hgd := guard_node
      have hnn : nneq lentNd lentNd = false := by simp [nneq]
      rw [hnn] at hnq
      unfold lentNd at g1 g2 g3 hnq
      go_wp2
      go_roundw
      case rel => exact ⟨k + 1, by omega, by go_num, hbl⟩
      case measure => simp [intOf]; omega
    · have hk3 : k = 3 := by omega
      subst hk3
      have HL1 := hide (HL.out.below hbl HL.out.lt)
      have HT := hide (HL1.out.arg hlen.out.symm).nods
      have HA1 := hide (HA.out.below hbl).nods
      go_wp2_with fail
      refine (sameN_any _ _ ns ns wr HT.out HA1.out (by have := hlen.out; omega)).mono ?_
      rintro e w1 ⟨rfl, hb1⟩
      rw [decide_eq_true rfl]
      go_wp2_with fail
      go_ret
      exact ⟨rfl, hbl.trans (hb1.mono hbl.size)⟩
end Go.Proofs.YtpdbpeooebbpnaaGreatDoor
