/- The walk of package scan: borders. -/
import Derived.Test.YteccbnhbdfplfaaSB
import Derived.RegionTactic
namespace Go.Proofs.Yteccbnhbdfplfaa
open Go.RowKit

theorem ints_zero (n : Nat) : (madeCells #[Value.int .i64 0] n).toList = (List.replicate n (0 : Int)).map (Value.int .i64) := by
  rw [toList_madeCells_one, List.map_replicate]
theorem OwnZ.cellAt {base : Nat} {w : World} {g n c : Nat} {zs : List Int} (h : OwnZ base w (.slice (some ⟨g, 0, none⟩) n c) zs) {j : Nat} {z : Int} (hz : zs[j]? = some z) : w.cell? ⟨g, j, none⟩ = some (.int .i64 z) := by
  obtain ⟨a, c', e⟩ := h.form
  have hj := (List.getElem?_eq_some_iff.1 hz).1
  simp only [Value.slice.injEq] at e
  obtain ⟨rfl, rfl, rfl⟩ := e
  have h1 := World.ownsRow.cellAt h j (by omega)
  rw [h1]; simp [hz]
theorem OwnZ.free {base : Nat} {w : World} {g n c : Nat} {zs : List Int} (h : OwnZ base w (.slice (some ⟨g, 0, none⟩) n c) zs) (j : Nat) : w.frozen? ⟨g, j, none⟩ = false := by
  obtain ⟨a, c', e⟩ := h.form
  simp only [Value.slice.injEq] at e
  obtain ⟨rfl, rfl, rfl⟩ := e
  exact World.ownsRow.frozenAt h j
theorem OwnZ.put {base : Nat} {w : World} {g n c : Nat} {zs : List Int} (h : OwnZ base w (.slice (some ⟨g, 0, none⟩) n c) zs) (j : Nat) (x : Int) : OwnZ base (w.setCell ⟨g, j, none⟩ (.int .i64 x)) (.slice (some ⟨g, 0, none⟩) n c) (zs.set j x) := by
  obtain ⟨a, c', e⟩ := h.form
  simp only [Value.slice.injEq] at e
  obtain ⟨rfl, rfl, rfl⟩ := e
  have := h.stored j x
  rwa [List.length_set] at this

theorem tail_snoc {P : List UInt8} {k : Nat} {x : UInt8} (hx : P[k + 1]? = some x) : P.tail.take k ++ [x] = P.tail.take (k + 1) := by
  have h1 : P.tail[k]? = some x := by rw [List.getElem?_tail]; exact hx
  obtain ⟨hk, e⟩ := List.getElem?_eq_some_iff.1 h1
  rw [List.take_succ_eq_append_getElem hk, e]

set_option maxRecDepth 100000 in
set_option maxHeartbeats 1000000 in
theorem borders_ok (p : ByteArray) (w : World) (hp : 0 < p.size) (hm : p.size < 1000000) :
    Calls Try.prog 36 #[.string p] w fun e w' => ∃ zs : List Int, e = .returned (.slice (some ⟨w.heap.size, 0, none⟩) p.size p.size) ∧ OwnZ w.heap.size w' (.slice (some ⟨w.heap.size, 0, none⟩) p.size p.size) zs ∧ zs.length = p.size ∧ Hog.table p.data.toList zs p.size ∧ Below w.heap.size w w' := by
  obtain ⟨i0, hi, hz0, hz1, hz2⟩ := info_parts A3
  have hmi : (p.size : Int) < 1000000 := by omega
  go_enter Try.func36, Try.ntmps36
  go_wp2_with (at_make; refine wpList_make_full w rfl _ _ 28 rfl w.heap.size 3 i0 (.int .i64 0) 1 Try.underlying28 hi hz0 hz1 .i64 .i64 _ _ p.size rfl rfl ?c1 ?c2 ?c3 ?c4 (Nat.le_refl _) ?_)
  case c1 => simp
  case c2 => simp
  case c3 => rw [hz2]; omega
  case c4 => unfold maxLen; omega
  intro w1 hown1 hgrow1
  have HB1 : Hid (Below w.heap.size w w1) := (Below.refl _ w).grown hgrow1 (Nat.le_refl _) (fun k hk => by cases hk)
  rw [ints_zero] at hown1
  have HO1 : Hid (OwnZ w.heap.size w1 (.slice (some ⟨w.heap.size, 0, none⟩) p.size p.size) (List.replicate p.size 0)) := by
    unfold OwnZ
    rw [List.length_replicate]
    exact hown1
  clear hown1 hgrow1
  go_wp2
  go_loopw [4] (fun i wr => ∃ k : Nat, 1 ≤ k ∧ k ≤ p.size ∧ i = .int .i64 k ∧ Hid (∃ zs : List Int, OwnZ w.heap.size wr (.slice (some ⟨w.heap.size, 0, none⟩) p.size p.size) zs ∧ zs.length = p.size ∧ Hog.table p.data.toList zs k) ∧ Below w.heap.size w wr) (fun i _ => p.size - (intOf i).toNat)
  case atStart =>
    refine ⟨1, Nat.le_refl _, by omega, rfl, ⟨_, HO1.out, by simp, fun j hj => ?_⟩, HB1.out⟩
    obtain rfl : j = 0 := by omega
    exact ⟨0, by rw [List.getElem?_replicate, if_pos hp]; rfl, by rw [List.take_zero]; exact Hog.best_nil _⟩
  case round =>
    obtain ⟨k, hk1, hk, rfl, hex, hbl⟩ := hrel
    obtain ⟨zs, ho, hzl, htb⟩ := hex.out
    have HO := hide ho
    have HL := hide hzl
    have HT := hide htb
    clear ho hzl htb hex
    by_cases hlt : k < p.size
    · have hq1 : (k : Int) < (p.size : Int) := by omega
      clear hi hz0 hz1 hz2
      go_wp2_with fail
      obtain ⟨q, rfl⟩ : ∃ q, k = q + 1 := ⟨k - 1, by omega⟩
      have hqn : q < p.size := by omega
      have hqi : (q : Int) < (p.size : Int) := by omega
      have hqs : (q : Int) + 1 < (p.size : Int) := by omega
      have hq0 : (0 : Int) ≤ (q : Int) + 1 := by omega
      have hwq : IntKind.i64.wrap (q : Int) = q := by rw [IntKind.wrap_i64]; omega
      obtain ⟨r, hr1, hr2⟩ := HT.out q (by omega)
      have hrq : r ≤ q := by
        have h1 := Hog.bord_len hr2.1
        have h2 := List.length_take_le q p.data.toList.tail
        omega
      have hcell := HO.out.cellAt hr1
      have HAT := hide (at_byte p (q + 1) hlt)
      have HR := hide hr2
      have hfr := HO.out.free (q + 1)
      have HG := hide (grow_any p w.heap.size 0 p.size p.size zs (p.data.toList.tail.take q) p[q + 1] r wr.drew hp (by unfold maxLen; omega) (by omega) (by omega) (fun j z hz => by rw [Nat.zero_add]; exact HO.out.cellAt hz) (Hog.table_less HT.out (by omega)) HR.out)
      have hcd : wr.drew.cell? ⟨w.heap.size, q, none⟩ = some (.int .i64 r) := hcell
      have hfd : wr.drew.frozen? ⟨w.heap.size, q + 1, none⟩ = false := hfr
      obtain ⟨v0, hv0⟩ : ∃ v0, wr.drew.cell? ⟨w.heap.size, q + 1, none⟩ = some (.int .i64 v0) := ⟨zs[q + 1]'(by have := HL.out; omega), HO.out.cellAt (List.getElem?_eq_getElem _)⟩
      clear hr1 hr2
      refine wp_region_any (by kernel_rfl) ?_
      change wpAny _ _ _ _ _ _ _ (World.drew _)
      refine wpAny_take (i := 0) (v := .slice (some ⟨w.heap.size, 0, none⟩) p.size p.size) rfl (by kernel_rfl) (by kernel_rfl) (by kernel_rfl) (fun _ _ _ h => h) (Or.inl ⟨by rfl, ?_⟩) ?_
      · intro w'; go_simp
      refine wpAny_take (i := 1) (v := .int .i64 ((q + 1 : Nat) : Int)) rfl (by kernel_rfl) (by kernel_rfl) (by kernel_rfl) (fun _ _ _ h => h) (Or.inl ⟨by rfl, ?_⟩) ?_
      · intro w'; go_simp
      refine wpAny_take (i := 2) (v := .string p) rfl (by kernel_rfl) (by kernel_rfl) (by kernel_rfl) (fun _ _ _ h => h) (Or.inl ⟨by rfl, ?_⟩) ?_
      · intro w'; go_simp
      refine wpAny_take (i := 3) (v := .slice (some ⟨w.heap.size, 0, none⟩) p.size p.size) rfl (by kernel_rfl) (by kernel_rfl) (by kernel_rfl) (fun _ _ _ h => h) (Or.inl ⟨by rfl, ?_⟩) ?_
      · intro w'; go_simp
      refine wpAny_take (i := 4) (v := .slice (some ⟨w.heap.size, 0, none⟩) p.size p.size) rfl (by kernel_rfl) (by kernel_rfl) (by kernel_rfl) (fun _ _ _ h => h) (Or.inl ⟨by rfl, ?_⟩) ?_
      · intro w'; go_simp
      refine wpAny_take (i := 5) (v := .int .i64 ((q + 1 : Nat) : Int)) rfl (by kernel_rfl) (by kernel_rfl) (by kernel_rfl) (fun _ _ _ h => h) (Or.inl ⟨by rfl, ?_⟩) ?_
      · intro w'; go_simp
      refine wpAny_take (i := 6) (v := .int .i64 (q : Int)) rfl (by kernel_rfl) (by kernel_rfl) (by kernel_rfl) (fun _ _ _ h => h) (Or.inl ⟨by rfl, ?_⟩) ?_
      · intro w'; go_simp
      refine wpAny_take (i := 7) (v := .pointer (some ⟨w.heap.size, q, none⟩)) rfl (by kernel_rfl) (by kernel_rfl) (by kernel_rfl) (fun _ _ _ h => h) (Or.inl ⟨by rfl, ?_⟩) ?_
      · intro w'; go_simp
      refine wpAny_take (i := 9) (v := .string p) rfl (by kernel_rfl) (by kernel_rfl) (by kernel_rfl) (fun _ _ _ h => h) (Or.inl ⟨by rfl, ?_⟩) ?_
      · intro w'; go_simp
      refine wpAny_take (i := 10) (v := .int .i64 ((q + 1 : Nat) : Int)) rfl (by kernel_rfl) (by kernel_rfl) (by kernel_rfl) (fun _ _ _ h => h) (Or.inl ⟨by rfl, ?_⟩) ?_
      · intro w'; go_simp
      refine wpAny_take (i := 11) (v := .int .u8 (p[q + 1].toNat : Int)) rfl (by kernel_rfl) (by kernel_rfl) (by kernel_rfl) (fun _ _ _ h => h) (Or.inl ⟨by rfl, ?_⟩) ?_
      · intro w'; go_simp
      refine wpAny_ready (rs := [8]) (by kernel_rfl) (by simp) (AllReady.cons rfl ?_ AllReady.nil)
      intro K hK
      go_simp
      refine hK _ _ ?_
      clear hK K
      refine wpAny_ready (rs := [12]) (by kernel_rfl) (by simp) (AllReady.cons rfl ?_ AllReady.nil)
      intro K hK
      go_simp
      refine HG.out.mono ?_
      rintro e w2 ⟨⟨r2, rfl, hb2⟩, rfl⟩
      refine hK _ _ ?_
      clear hK K
      have HB2 := hide hb2
      clear hb2
      refine wpAny_take (i := 13) (v := .pointer (some ⟨w.heap.size, q + 1, none⟩)) rfl (by kernel_rfl) (by kernel_rfl) (by kernel_rfl) (fun _ _ _ h => h) (Or.inl ⟨by rfl, ?_⟩) ?_
      · intro w'; go_simp
      refine wpAny_ready (rs := [14]) (by kernel_rfl) (by simp) (AllReady.cons rfl ?_ AllReady.nil)
      intro K hK
      go_simp
      refine hK _ _ ?_
      clear hK K
      refine wpAny_done (by kernel_rfl) ?_ _
      go_wp2
      go_roundw
      case rel =>
        refine ⟨q + 1 + 1, by omega, by omega, by go_num, ⟨zs.set (q + 1) (r2 : Int), (HO.out.below (Below.refl _ _).drew).put (q + 1) r2, by rw [List.length_set]; exact HL.out, ?_⟩, (hbl.drew).setCell (Nat.le_refl _) _⟩
        refine Hog.table_set HT.out (by have := HL.out; omega) ?_
        have h1 := HB2.out
        rw [tail_snoc HAT.out] at h1
        exact h1
      case measure => simp [intOf]; omega
    · obtain rfl : k = p.size := by omega
      go_wp2
      go_ret
      exact ⟨zs, rfl, HO.out, HL.out, HT.out, hbl⟩
end Go.Proofs.Yteccbnhbdfplfaa
