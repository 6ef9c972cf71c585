/- The walk of closure's Get. -/
import Derived.Test.YtinjbijigjfdfaaGreatDoorJ12
import Derived.Test.YtinjbijigjfdfaaGreatDoorJ7
import Derived.Laws.ResultCell
namespace Go.Proofs.YtinjbijigjfdfaaGreatDoor
open Go.RowKit

theorem get_first {is : List It} {x : ByteArray} {k : Nat} {i : It} (hi : is[k]? = some i) (hx : i.1 = x) (ha : ∀ (j : Nat) y, j < k → is[j]? = some y → y.1 ≠ x) : Hog.getK is x = some i := by
  obtain ⟨hk, rfl⟩ := List.getElem?_eq_some_iff.1 hi
  unfold Hog.getK
  rw [List.find?_eq_some_iff_getElem]
  exact ⟨by simpa using hx, k, hk, rfl, fun j hj => by simpa using ha j _ hj (List.getElem?_eq_getElem (by omega))⟩
theorem get_never {is : List It} {x : ByteArray} (ha : ∀ (j : Nat) y, j < is.length → is[j]? = some y → y.1 ≠ x) : Hog.getK is x = none := by
  rw [Hog.getK_none]
  intro h
  obtain ⟨i, hi, e⟩ := List.mem_map.1 h
  obtain ⟨j, hj⟩ := List.getElem?_of_mem hi
  exact ha j i (List.getElem?_eq_some_iff.1 hj).1 hj e

/-- A block that holds an item's cells. -/
def BoxI (w : World) (g : Nat) (nm : ByteArray) (u v : Value) : Prop := w.heap[g]? = some (.cells #[.string nm, u, v] 29 (0, 0))
theorem BoxI.facts {w : World} {g : Nat} {nm : ByteArray} {u v : Value} (h : BoxI w g nm u v) : (w.cell? ⟨g, 0, none⟩ = some (.string nm) ∧ w.cell? ⟨g, 1, none⟩ = some u ∧ w.cell? ⟨g, 2, none⟩ = some v) ∧
    (w.frozen? ⟨g, 0, none⟩ = false ∧ w.frozen? ⟨g, 1, none⟩ = false ∧ w.frozen? ⟨g, 2, none⟩ = false) ∧ g < w.heap.size :=
  ⟨⟨by rw [cell_of_row w g 0 _ _ (0, 0) h]; rfl, by rw [cell_of_row w g 1 _ _ (0, 0) h]; rfl, by rw [cell_of_row w g 2 _ _ (0, 0) h]; rfl⟩,
   ⟨frozen_of_row w g 0 _ _ h, frozen_of_row w g 1 _ _ h, frozen_of_row w g 2 _ _ h⟩, (Array.getElem?_eq_some_iff.1 h).1⟩
theorem BoxI.below {w w' : World} {g : Nat} {nm : ByteArray} {u v : Value} (h : BoxI w g nm u v) (hb : Below w.heap.size w w') : BoxI w' g nm u v := by
  unfold BoxI
  rw [hb.block g h.facts.2.2]
  exact h
theorem BoxI.made (w : World) (nm : ByteArray) (u v : Value) : BoxI (w.alloc (.cells #[.string nm, u, v] 29)) w.heap.size nm u v := heap_alloc_new w _
theorem BoxI.stored {w : World} {g : Nat} {nm : ByteArray} {u v : Value} (h : BoxI w g nm u v) (nm' : ByteArray) (u' v' : Value) : BoxI (((w.setCell ⟨g, 0, none⟩ (.string nm')).setCell ⟨g, 1, none⟩ u').setCell ⟨g, 2, none⟩ v') g nm' u' v' := by
  have h1 := heap_setCell_same w g 0 _ _ (.string nm') h
  have h2 := heap_setCell_same _ g 1 _ _ u' h1
  have h3 := heap_setCell_same _ g 2 _ _ v' h2
  unfold BoxI
  rw [h3]; rfl
theorem storedI_below {B : Nat} {w0 w : World} {g : Nat} (h : Below B w0 w) (hg : B ≤ g) (a b c : Value) : Below B w0 (((w.setCell ⟨g, 0, none⟩ a).setCell ⟨g, 1, none⟩ b).setCell ⟨g, 2, none⟩ c) :=
  ((h.setCell (p := ⟨g, 0, none⟩) hg _).setCell (p := ⟨g, 1, none⟩) hg _).setCell (p := ⟨g, 2, none⟩) hg _
theorem storedI_grown (w : World) (g : Nat) (a b c : Value) : w.grownBy (((w.setCell ⟨g, 0, none⟩ a).setCell ⟨g, 1, none⟩ b).setCell ⟨g, 2, none⟩ c) (some g) :=
  grown_trans (grown_setCell w g 0 a) (grown_trans (grown_setCell _ g 1 b) (grown_setCell _ g 2 c))
theorem results_item {fn : Func} {q u : Tmp} (h : fn.results = #[.cell q 29, .tmp u]) (tmps : Array Value) (w : World) (g : Nat) (nm : ByteArray) (x y : Value) (hp : tmps.getD q undef = .pointer (some ⟨g, 0, none⟩)) (hg : BoxI w g nm x y) :
    (results fn tmps).run Tryz.prog w = .ok (.tuple #[.agg #[.string nm, x, y], tmps.getD u undef]) w := by
  rw [results_cell_tmp h, hp]
  simp [asAddr, Result.andThen, run_loadVar_row w g 29 29 _ (0, 0) _ hg struct_item rfl size_of_item]

/-- What Get answers: the item, its lists copied. -/
def GotI (w w' : World) (i : It) (e : Ending) : Prop := ∃ ra rc ta tc base, e = .returned (.tuple #[.agg #[.string i.1, .slice ra i.2.1.length rc, .slice ta i.2.2.length tc], .bool true]) ∧
  Own w.heap.size w' (.slice ra i.2.1.length rc) i.2.1 ∧ OwnN base w' (.slice ta i.2.2.length tc) i.2.2 ∧ w.heap.size ≤ base ∧ base ≤ w'.heap.size ∧ (∀ k, (Value.slice ra i.2.1.length rc).ownBlock = some k → k < base) ∧ Below w.heap.size w w'
def NotI (w w' : World) (e : Ending) : Prop := e = .returned (.tuple #[.agg #[.string ByteArray.empty, .slice none 0 0, .slice none 0 0], .bool false]) ∧ Below w.heap.size w w'

set_option maxRecDepth 100000 in
set_option maxHeartbeats 2000000 in
theorem get_some (b o c n : Nat) (ps : List Pr) (x : ByteArray) (w : World) (hn : n = ps.length) (h9 : n < 900000) (hr : RunS w b o ps) (hf : ∀ i ∈ itsOf ps, i.2.1.length < 900000 ∧ i.2.2.length < 900000) :
    Calls Tryz.prog 7 #[.slice (some ⟨b, o, none⟩) n c, .string x] w fun e w' => (∃ i, Hog.getK (itsOf ps) x = some i ∧ GotI w w' i e) ∨ (Hog.getK (itsOf ps) x = none ∧ NotI w w' e) := by
  have HR := hide hr
  have HN := hide hn
  have HF := hide hf
  have HB := hide (BoxI.made w ByteArray.empty (.slice none 0 0) (.slice none 0 0))
  have HW0 := hide (below_box w (.cells #[.string ByteArray.empty, .slice none 0 0, .slice none 0 0] 29))
  obtain ⟨W, hW⟩ : ∃ W, W = w.alloc (.cells #[.string ByteArray.empty, .slice none 0 0, .slice none 0 0] 29) := ⟨_, rfl⟩
  rw [← hW] at HB HW0
  have HW := hide hW.symm
  have hszW : w.heap.size < W.heap.size := by rw [hW]; simp
  clear hr hn hf hW
  go_enter Tryz.func7, Tryz.ntmps7
  go_wp2
  rw [show (ByteArray.mk #[] : ByteArray) = ByteArray.empty from rfl] at *
  rw [HW.out]
  go_loopw [10] (fun i wr => ∃ k : Nat, k ≤ n ∧ i = .int .i64 k ∧ Hid (∀ (j : Nat) y, j < k → (itsOf ps)[j]? = some y → y.1 ≠ x) ∧ Hid (Below W.heap.size W wr)) (fun i _ => n - (intOf i).toNat)
  case atStart => exact ⟨0, Nat.zero_le _, rfl, fun j y h => absurd h (by omega), Below.refl _ _⟩
  case round =>
    obtain ⟨k, hk, rfl, ha, hbl⟩ := hrel
    by_cases hlt : k < n
    · obtain ⟨p, hp⟩ : ∃ p, ps[k]? = some p := ⟨ps[k]'(by have := HN.out; omega), List.getElem?_eq_some_iff.2 ⟨_, rfl⟩⟩
      have hpi : (itsOf ps)[k]? = some p.2 := by unfold itsOf; rw [List.getElem?_map, hp]; rfl
      have hA := (HR.out.2 k p hp).below (below_two HW0.out hbl.out)
      have q0 := hA.c0
      have q1 := hA.c1
      have q2 := hA.c2
      unfold refsV at q1
      unfold treeV at q2
      have HIS := hide hA.is
      have HFI := hide (HF.out p.2 (List.mem_of_getElem? hpi))
      have HP := hide hpi
      have hki : (k : Int) < (n : Int) := by omega
      clear hp hpi hA
      by_cases hx : p.2.1 = x
      · have hq : (p.2.1.toList == x.toList) = true := by rw [hx]; exact beq_self_eq_true _
        have HG := hide (get_first HP.out hx ha.out)
        clear hx
        have HBB := hide (below_box wr (.cells #[.string p.2.1, .slice p.1.2.1.1 p.1.2.1.2.1 p.1.2.1.2.2, .slice p.1.2.2.1 p.1.2.2.2.1 p.1.2.2.2.2] 29))
        have hrl := HIS.out.refs.len
        have htl := HIS.out.tree.len
        have HRL := hide hrl
        have HTL := hide htl
        have hl1 := HFI.out.1
        have hl2 := HFI.out.2
        rw [hrl] at hl1
        rw [htl] at hl2
        clear hrl htl
        go_wp2_with fail
        refine (ownI_ok p.2.1 p.2.2.1 p.2.2.2 _ _ _ _ _ _ _ (HIS.out.refs.below HBB.out) (HIS.out.tree.below HBB.out) hl1 hl2).mono ?_
        rintro e w3 ⟨ra, rc, ta, tc, base, rfl, ho, hno, hb1, hb2, hb3, hb4⟩
        have HBX := hide ((HB.out.below hbl.out).below (below_two HBB.out hb4))
        obtain ⟨⟨k0, k1, k2⟩, ⟨f0, f1, f2⟩, hlt3⟩ := HBX.out.facts
        have hsr : w.heap.size < wr.heap.size := Nat.lt_of_lt_of_le hszW hbl.out.size
        have hsb : (wr.alloc (.cells #[.string p.2.1, .slice p.1.2.1.1 p.1.2.1.2.1 p.1.2.1.2.2, .slice p.1.2.2.1 p.1.2.2.2.1 p.1.2.2.2.2] 29)).heap.size = wr.heap.size + 1 := by simp
        rw [hsb] at ho hb1
        have HO := hide ho
        have HNO := hide hno
        have HB3 := hide hb3
        have HB03 := hide (below_two HW0.out (below_two hbl.out (below_two HBB.out hb4)))
        clear ho hno hb3 hb4
        go_wp2
        refine bodyPost_ret (results_item rfl _ _ w.heap.size _ _ _ rfl (HBX.out.stored _ _ _)) rfl ?_
        have hg := storedI_grown w3 w.heap.size (.string p.2.1) (.slice ra p.1.2.1.2.1 rc) (.slice ta p.1.2.2.2.1 tc)
        refine .inl ⟨p.2, HG.out, ra, rc, ta, tc, base, by rw [HRL.out, HTL.out]; rfl, ?_, ?_, by omega, by have := hg.size; omega, by rw [HRL.out]; exact HB3.out, storedI_below HB03.out (Nat.le_refl _) _ _ _⟩
        · rw [HRL.out]; exact (Own.far HO.out hg (by omega)).base (by omega)
        · rw [HTL.out]; exact OwnN.far HNO.out hg (by omega)
      · have hq : (p.2.1.toList == x.toList) = false := by
          rw [beq_eq_false_iff_ne]; exact fun e => hx (bytes_eq.2 e)
        have HX := hide hx
        clear hx
        have HBB := hide (below_two hbl.out (below_box wr (.cells #[.string p.2.1, .slice p.1.2.1.1 p.1.2.1.2.1 p.1.2.1.2.2, .slice p.1.2.2.1 p.1.2.2.2.1 p.1.2.2.2.2] 29)))
        go_wp2
        go_roundw
        case rel =>
          refine ⟨k + 1, by omega, by go_num, fun j y hj hy => ?_, HBB⟩
          by_cases e : j = k
          · subst e
            rw [HP.out] at hy; cases hy
            exact HX.out
          · exact ha.out j y (by omega) hy
        case measure => simp [intOf]; omega
    · have hki : (n : Int) ≤ (k : Int) := by omega
      have HE : Hid (Hog.getK (itsOf ps) x = none) := get_never fun j y hj hy => ha.out j y (by rw [its_len, ← HN.out] at hj; omega) hy
      have HBX := hide (HB.out.below hbl.out)
      obtain ⟨⟨k0, k1, k2⟩, ⟨f0, f1, f2⟩, hlt3⟩ := HBX.out.facts
      go_wp2
      refine bodyPost_ret (results_item rfl _ _ w.heap.size _ _ _ rfl (HBX.out.stored _ _ _)) rfl ?_
      exact .inr ⟨HE.out, rfl, storedI_below (below_two HW0.out hbl.out) (Nat.le_refl _) _ _ _⟩

set_option maxRecDepth 100000 in
set_option maxHeartbeats 1000000 in
theorem get_none (a : Option Addr) (c : Nat) (x : ByteArray) (w : World) :
    Calls Tryz.prog 7 #[.slice a 0 c, .string x] w fun e w' => NotI w w' e := by
  have HB := hide (BoxI.made w ByteArray.empty (.slice none 0 0) (.slice none 0 0))
  have HW0 := hide (below_box w (.cells #[.string ByteArray.empty, .slice none 0 0, .slice none 0 0] 29))
  obtain ⟨W, hW⟩ : ∃ W, W = w.alloc (.cells #[.string ByteArray.empty, .slice none 0 0, .slice none 0 0] 29) := ⟨_, rfl⟩
  rw [← hW] at HB HW0
  have HW := hide hW.symm
  clear hW
  go_enter Tryz.func7, Tryz.ntmps7
  go_wp2
  rw [show (ByteArray.mk #[] : ByteArray) = ByteArray.empty from rfl] at *
  rw [HW.out]
  go_loop [10] (fun i => i = .int .i64 0) (fun _ => 0)
  case atStart => rfl
  case round =>
    subst hrel
    obtain ⟨⟨k0, k1, k2⟩, ⟨f0, f1, f2⟩, hlt3⟩ := HB.out.facts
    go_wp2
    refine bodyPost_ret (results_item rfl _ _ w.heap.size _ _ _ rfl (HB.out.stored _ _ _)) rfl ?_
    exact ⟨rfl, storedI_below HW0.out (Nat.le_refl _) _ _ _⟩
theorem get_any (v : Value) (ps : List Pr) (x : ByteArray) (w : World) (h : Sls w v ps) (h9 : ps.length < 900000) (hf : ∀ i ∈ itsOf ps, i.2.1.length < 900000 ∧ i.2.2.length < 900000) :
    Calls Tryz.prog 7 #[v, .string x] w fun e w' => (∃ i, Hog.getK (itsOf ps) x = some i ∧ GotI w w' i e) ∨ (Hog.getK (itsOf ps) x = none ∧ NotI w w' e) := by
  rcases h with ⟨rfl, a, c, rfl⟩ | ⟨b, o, c, rfl, _, hr⟩
  · exact (get_none a c x w).mono fun e w' h => .inr ⟨rfl, h⟩
  · exact get_some b o c ps.length ps x w rfl h9 hr hf
theorem get_hit (v : Value) (ps : List Pr) (x : ByteArray) (i : It) (w : World) (h : Sls w v ps) (h9 : ps.length < 900000) (hf : ∀ i ∈ itsOf ps, i.2.1.length < 900000 ∧ i.2.2.length < 900000) (hg : Hog.getK (itsOf ps) x = some i) :
    Calls Tryz.prog 7 #[v, .string x] w fun e w' => GotI w w' i e := by
  refine (get_any v ps x w h h9 hf).mono ?_
  rintro e w' (⟨j, h1, h2⟩ | ⟨h1, _⟩)
  · rw [hg] at h1; cases h1; exact h2
  · rw [hg] at h1; cases h1
theorem get_miss (v : Value) (ps : List Pr) (x : ByteArray) (w : World) (h : Sls w v ps) (h9 : ps.length < 900000) (hf : ∀ i ∈ itsOf ps, i.2.1.length < 900000 ∧ i.2.2.length < 900000) (hg : Hog.getK (itsOf ps) x = none) :
    Calls Tryz.prog 7 #[v, .string x] w fun e w' => NotI w w' e := by
  refine (get_any v ps x w h h9 hf).mono ?_
  rintro e w' (⟨j, h1, _⟩ | ⟨_, h2⟩)
  · rw [hg] at h1; cases h1
  · exact h2
end Go.Proofs.YtinjbijigjfdfaaGreatDoor
