/- The walk of the statements' own OverItems, of a registration's items that are one's own. -/
import Derived.Test.YtmlkknbndglgaaaGreatDoorJ18
import Derived.Test.YtmlkknbndglgaaaGreatDoorJ14
import Derived.Test.YtmlkknbndglgaaaGreatDoorJ6
namespace Go.Proofs.YtmlkknbndglgaaaGreatDoor
open Go.RowKit

theorem Off.symm {a b : Option Nat} (h : Off a b) : Off b a := by
  rcases h with rfl | h
  · cases b with
    | none => exact .inl rfl
    | some j => exact .inr (by simp)
  · exact .inr fun e => h e.symm
/-- While items are written over: which of them stand as they did. -/
structure OverS (D E : Nat) (w0 w : World) (gi m c : Nat) (ps : List Pr) (v : Value) (prof : List ByteArray) (k : Nat) : Prop where
  row : ∃ cells : List Value, w.ownsRow D 47 3 (.slice (some ⟨gi, 0, none⟩) m c) m cells ∧ ∀ (j : Nat) p, k ≤ j → ps[j]? = some p → cells[j * 3]? = some (.string p.1.1) ∧ cells[j * 3 + 1]? = some (refsV p.1) ∧ cells[j * 3 + 2]? = some (treeV p.1)
  refs : ∀ (j : Nat) p, k ≤ j → ps[j]? = some p → Own D w (refsV p.1) p.2.2.1
  prof : Own D w v prof
  below : Below D w0 w
  up : ∀ k, E ≤ k → k < w0.heap.size → w.heap[k]? = w0.heap[k]?

set_option maxRecDepth 100000 in
set_option maxHeartbeats 2000000 in
theorem overP_some (D E : Nat) (w : World) (ps : List Pr) (gi m c : Nat) (v : Value) (is : List RI) (prof : List ByteArray) (h : RowsR D w ps (.slice (some ⟨gi, 0, none⟩) m c) v is prof) (hm : m = ps.length) (hm9 : m < 900000) (hil : ∀ i ∈ is, i.2.length < 900000) (hiE : gi < E) (hrE : ∀ p ∈ ps, ∀ k, (refsV p.1).ownBlock = some k → k < E) :
    Calls Tryz.prog 18 #[.slice (some ⟨gi, 0, none⟩) m c] w fun e w' => e = .returned (.tuple #[]) ∧ Below D w w' ∧ Own D w' v prof ∧ ∀ k, E ≤ k → k < w.heap.size → w'.heap[k]? = w.heap[k]? := by
  have HM := hide hm
  have HS : Hid (OverS D E w w gi m c ps v prof 0) := by
    refine ⟨⟨rflat ps, by have h1 := h.own; unfold OwnS at h1; rw [← hm] at h1; exact h1, fun j p _ hp => rflat_get hp⟩, fun j p _ hp => (h.each p (List.mem_of_getElem? hp)).2.1, h.prf, Below.refl _ _, fun _ _ _ => rfl⟩
  have HGI : Hid (∀ p ∈ ps, Off (some gi) (refsV p.1).ownBlock) := fun p hp => rows_unlike h.own (h.each p hp).2.1
  have HGV : Hid (Off (some gi) v.ownBlock) := rows_unlike h.own h.prf
  have hap := h.apart
  unfold rowsOf at hap
  rw [List.pairwise_cons] at hap
  have HV : Hid (∀ p ∈ ps, Off v.ownBlock (refsV p.1).ownBlock) := fun p hp => hap.1 _ (List.mem_map.2 ⟨p, hp, rfl⟩)
  have HP : Hid (∀ (i j : Nat) p q, i < j → ps[i]? = some p → ps[j]? = some q → Off (refsV q.1).ownBlock (refsV p.1).ownBlock) := fun i j p q hij hp hq => by
    obtain ⟨hi, rfl⟩ := List.getElem?_eq_some_iff.1 hp
    obtain ⟨hj, rfl⟩ := List.getElem?_eq_some_iff.1 hq
    have := (List.pairwise_iff_getElem.1 hap.2) i j (by rw [List.length_map]; exact hi) (by rw [List.length_map]; exact hj) hij
    rw [List.getElem_map, List.getElem_map] at this
    exact this.symm
  have HE : Hid (∀ p ∈ ps, treeV p.1 = .slice none 0 0 ∧ p.2.2.1.length < 900000) := fun p hp => ⟨(h.each p hp).2.2.1, hil (p.2.1, p.2.2.1) (by rw [← h.names]; exact List.mem_map.2 ⟨p, hp, rfl⟩)⟩
  have HIE : Hid (gi < E) := hiE
  have HRE := hide hrE
  have HD : Hid (D ≤ w.heap.size) := h.low
  have HDG : Hid (D ≤ gi) := (h.own.lt gi rfl).1
  clear h hil hap hm hiE hrE
  go_enter Tryz.func18, Tryz.ntmps18
  go_wp2
  go_loopw [2] (fun i wr => ∃ k : Nat, k ≤ m ∧ i = .int .i64 k ∧ Hid (OverS D E w wr gi m c ps v prof k)) (fun i _ => m - (intOf i).toNat)
  case atStart => exact ⟨0, Nat.zero_le _, rfl, HS⟩
  case round =>
    obtain ⟨k, hk, rfl, HST⟩ := hrel
    by_cases hkm : k < m
    · have hki : (k : Int) < (m : Int) := by omega
      obtain ⟨p, hp⟩ : ∃ p, ps[k]? = some p := ⟨ps[k]'(by have := HM.out; omega), List.getElem?_eq_some_iff.2 ⟨_, rfl⟩⟩
      have hpm := List.mem_of_getElem? hp
      obtain ⟨cells, hrow, hcs⟩ := HST.out.row
      obtain ⟨e0, e1, e2⟩ := hcs k p (Nat.le_refl _) hp
      have c1 : wr.cell? ⟨gi, k * 3 + 1, none⟩ = some (refsV p.1) := (World.ownsRow.cellAt hrow (k * 3 + 1) (by omega)).trans e1
      obtain ⟨ra, rn, rc, hrv⟩ : ∃ ra rn rc, refsV p.1 = .slice ra rn rc := ⟨_, _, _, rfl⟩
      have ho := HST.out.refs k p (Nat.le_refl _) hp
      rw [hrv] at c1 ho
      obtain ⟨ht, hl9⟩ := HE.out p hpm
      have hds := HST.out.below.size
      have HRV := hide hrv
      have HPK := hide hp
      have HPM := hide hpm
      have HO := hide ho
      have HROW := hide hrow
      have HCS := hide hcs
      have HT := hide ht
      have HL9 := hide hl9
      have HD2 : Hid (D ≤ wr.heap.size) := by have := HD.out; show _ ≤ _; omega
      have hlt : gi < wr.heap.size := (hrow.lt gi rfl).2
      clear hrv hp hpm ho hrow hcs ht hl9 e0 e1 e2 hds
      go_wp2_with fail
      refine (overT_ok _ p.2.2.1 D wr HO.out HD2.out HL9.out).mono ?_
      rintro e w1 ⟨rfl, hg1⟩
      rw [← HRV.out] at hg1
      have HROW1 : Hid (w1.ownsRow D 47 3 (.slice (some ⟨gi, 0, none⟩) m c) m cells) := World.ownsRow.kept HROW.out hg1 (HGI.out p HPM.out)
      have HV1 : Hid (Own D w1 v prof) := World.ownsRow.kept HST.out.prof hg1 (HV.out p HPM.out)
      have HRF1 : Hid (∀ (j : Nat) q, k + 1 ≤ j → ps[j]? = some q → Own D w1 (refsV q.1) q.2.2.1) := fun j q hj hq => World.ownsRow.kept (HST.out.refs j q (by omega) hq) hg1 (HP.out k j p q hj HPK.out hq)
      have HB1 := hide (HST.out.below.grown hg1 HD2.out (fun j hj => by rw [HRV.out] at hj; exact (HO.out.lt j hj).1))
      have c2 : w1.cell? ⟨gi, k * 3 + 2, none⟩ = some (.slice none 0 0) := by
        rw [World.ownsRow.cellAt HROW1.out (k * 3 + 2) (by omega), (HCS.out k p (Nat.le_refl _) HPK.out).2.2, HT.out]
      have hlt1 : gi < w1.heap.size := (HROW1.out.lt gi rfl).2
      have HU1 : Hid (∀ k, E ≤ k → k < w.heap.size → w1.heap[k]? = w.heap[k]?) := fun j h1 h2 => (hg1.block j (by have := HST.out.below.size; omega) (fun e => by have := HRE.out p HPM.out j e.symm; omega)).trans (HST.out.up j h1 h2)
      clear hg1 c1 hlt
      go_wp2_with fail
      refine (overN_none w1).mono ?_
      rintro e w2 ⟨rfl, hg2⟩
      have HROW2 : Hid (w2.ownsRow D 47 3 (.slice (some ⟨gi, 0, none⟩) m c) m cells) := World.ownsRow.kept HROW1.out hg2 (.inr (by simp [Value.ownBlock]))
      have HV2 : Hid (Own D w2 v prof) := HV1.out.below ⟨hg2.os, hg2.tape, hg2.output, hg2.size, fun k hk => hg2.block k hk (fun e => by cases e)⟩
      have HB12 : Below w1.heap.size w1 w2 := ⟨hg2.os, hg2.tape, hg2.output, hg2.size, fun k hk => hg2.block k hk (fun e => by cases e)⟩
      have HRF2 : Hid (∀ (j : Nat) q, k + 1 ≤ j → ps[j]? = some q → Own D w2 (refsV q.1) q.2.2.1) := fun j q hj hq => (HRF1.out j q hj hq).below HB12
      have HB2 := hide (HB1.out.trans (HB12.mono (by have := HB1.out.size; have := HD.out; omega)))
      have HU2 : Hid (∀ k, E ≤ k → k < w.heap.size → w2.heap[k]? = w.heap[k]?) := fun j h1 h2 => (hg2.block j (by have := HB1.out.size; omega) (fun e => by cases e)).trans (HU1.out j h1 h2)
      obtain ⟨hx0, hx1, hx2⟩ := HCS.out k p (Nat.le_refl _) HPK.out
      have d0 := (World.ownsRow.cellAt HROW2.out (k * 3) (by omega)).trans hx0
      have d1 := (World.ownsRow.cellAt HROW2.out (k * 3 + 1) (by omega)).trans hx1
      have d2 := (World.ownsRow.cellAt HROW2.out (k * 3 + 2) (by omega)).trans hx2
      have f0 := World.ownsRow.frozenAt HROW2.out (k * 3)
      have f1 := World.ownsRow.frozenAt HROW2.out (k * 3 + 1)
      have f2 := World.ownsRow.frozenAt HROW2.out (k * 3 + 2)
      have hlt2 : gi < w2.heap.size := (HROW2.out.lt gi rfl).2
      clear hg2 HB12 hx0 hx1 hx2 c2 hlt1
      go_wp2
      have HEND : Hid (OverS D E w (((w2.setCell ⟨gi, k * 3, none⟩ (.string ⟨#[111, 118, 101, 114]⟩)).setCell ⟨gi, k * 3 + 1, none⟩ (.slice none 0 0)).setCell ⟨gi, k * 3 + 2, none⟩ (.slice none 0 0)) gi m c ps v prof (k + 1)) := by
        have s1 := World.ownsRow.stored HROW2.out (k * 3) (.string ⟨#[111, 118, 101, 114]⟩)
        have s2 := World.ownsRow.stored s1.1 (k * 3 + 1) (.slice none 0 0)
        have s3 := World.ownsRow.stored s2.1 (k * 3 + 2) (.slice none 0 0)
        have hg := grown_trans s1.2 (grown_trans s2.2 s3.2)
        refine ⟨⟨_, s3.1, fun j q hj hq => ?_⟩, fun j q hj hq => ?_, ?_, ?_, fun j h1 h2 => (hg.block j (by have := HB2.out.size; omega) (fun e => by have := Option.some.inj e; have := HIE.out; omega)).trans (HU2.out j h1 h2)⟩
        · obtain ⟨t0, t1, t2⟩ := HCS.out j q (by omega) hq
          refine ⟨?_, ?_, ?_⟩
          · rw [List.getElem?_set_ne (by omega), List.getElem?_set_ne (by omega), List.getElem?_set_ne (by omega)]; exact t0
          · rw [List.getElem?_set_ne (by omega), List.getElem?_set_ne (by omega), List.getElem?_set_ne (by omega)]; exact t1
          · rw [List.getElem?_set_ne (by omega), List.getElem?_set_ne (by omega), List.getElem?_set_ne (by omega)]; exact t2
        · exact World.ownsRow.kept (HRF2.out j q hj hq) hg (HGI.out q (List.mem_of_getElem? hq)).symm
        · exact World.ownsRow.kept HV2.out hg HGV.out.symm
        · exact HB2.out.grown hg (by have := HDG.out; omega) (fun j hj => by cases hj; exact HDG.out)
      clear d0 d1 d2 f0 f1 f2
      go_roundw
      case rel => exact ⟨k + 1, by omega, by go_num, HEND⟩
      case measure => simp [intOf]; omega
    · obtain rfl : k = m := by omega
      have hkd : (k : Int) ≤ (k : Int) := Int.le_refl _
      go_wp2
      go_end0
      exact ⟨rfl, HST.out.below, HST.out.prof, HST.out.up⟩
set_option maxRecDepth 100000 in
theorem overP_none (a : Option Addr) (c : Nat) (w : World) :
    Calls Tryz.prog 18 #[.slice a 0 c] w fun e w' => e = .returned (.tuple #[]) ∧ w' = w := by
  go_enter Tryz.func18, Tryz.ntmps18
  go_wp2
  go_loopw [2] (fun i wr => i = .int .i64 0 ∧ wr = w) (fun _ _ => 0)
  case atStart => exact ⟨rfl, rfl⟩
  case round =>
    obtain ⟨rfl, rfl⟩ := hrel
    go_wp2
    go_end0
    exact ⟨rfl, rfl⟩
theorem overP_ok (D E : Nat) (w : World) (ps : List Pr) (u v : Value) (is : List RI) (prof : List ByteArray) (h : RowsR D w ps u v is prof) (hm9 : ps.length < 900000) (hil : ∀ i ∈ is, i.2.length < 900000) (hiE : ∀ k, u.ownBlock = some k → k < E) (hrE : ∀ p ∈ ps, ∀ k, (refsV p.1).ownBlock = some k → k < E) :
    Calls Tryz.prog 18 #[u] w fun e w' => e = .returned (.tuple #[]) ∧ Below D w w' ∧ Own D w' v prof ∧ ∀ k, E ≤ k → k < w.heap.size → w'.heap[k]? = w.heap[k]? := by
  obtain ⟨a, c, rfl⟩ := h.own.form
  by_cases h0 : ps.length = 0
  · rw [h0]
    refine (overP_none a c w).mono ?_
    rintro e w' ⟨rfl, rfl⟩
    exact ⟨rfl, Below.refl _ _, h.prf, fun _ _ _ => rfl⟩
  · obtain ⟨gi, rfl, _⟩ := h.own.block (by omega)
    exact overP_some D E w ps gi ps.length c v is prof h rfl hm9 hil (hiE gi rfl) hrE
/-- A row of one's own whose block stands as it did. -/
theorem owns_still {w w' : World} {base e size : Nat} {v : Value} {n : Nat} {xs : List Value} (h : w.ownsRow base e size v n xs) (hk : ∀ g, v.ownBlock = some g → w'.heap[g]? = w.heap[g]?) : w'.ownsRow base e size v n xs := by
  refine ⟨h.1, ?_⟩
  rcases h.2 with hn | ⟨g, cap, cur, rfl, hb, hgg, rest⟩
  · exact .inl hn
  · exact .inr ⟨g, cap, cur, rfl, hb, by rw [hk g rfl]; exact hgg, rest⟩
theorem RowsR.still {D : Nat} {w w' : World} {ps : List Pr} {u v : Value} {is : List RI} {prof : List ByteArray} (h : RowsR D w ps u v is prof) (hs : w.heap.size ≤ w'.heap.size) (hk : ∀ g, D ≤ g → g < w.heap.size → w'.heap[g]? = w.heap[g]?) : RowsR D w' ps u v is prof :=
  ⟨owns_still h.own (fun g e => hk g (h.own.lt g e).1 (h.own.lt g e).2), owns_still h.prf (fun g e => hk g (h.prf.lt g e).1 (h.prf.lt g e).2), h.names,
    fun p hp => ⟨(h.each p hp).1, owns_still (h.each p hp).2.1 (fun g e => hk g ((h.each p hp).2.1.lt g e).1 ((h.each p hp).2.1.lt g e).2), (h.each p hp).2.2⟩, h.apart, Nat.le_trans h.low hs⟩
theorem RowsR.top {D : Nat} {w : World} {ps : List Pr} {u v : Value} {is : List RI} {prof : List ByteArray} (h : RowsR D w ps u v is prof) : (∀ k, u.ownBlock = some k → k < w.heap.size) ∧ (∀ p ∈ ps, ∀ k, (refsV p.1).ownBlock = some k → k < w.heap.size) ∧ ∀ k, v.ownBlock = some k → k < w.heap.size :=
  ⟨fun k e => (h.own.lt k e).2, fun p hp k e => ((h.each p hp).2.1.lt k e).2, fun k e => (h.prf.lt k e).2⟩
end Go.Proofs.YtmlkknbndglgaaaGreatDoor
