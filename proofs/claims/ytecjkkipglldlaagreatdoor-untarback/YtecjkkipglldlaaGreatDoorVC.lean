/- Entries in memory: the walks of package untar's methods of an entry: node, amend. -/
import Derived.Test.YtecjkkipglldlaaGreatDoorVB
import Derived.Laws.ResultCell
namespace Go.Proofs.YtecjkkipglldlaaGreatDoor
open Go.RowKit

theorem results_row_tmp {P : Program} {fn : Func} {p u : Tmp} {ty : TypeId} (h : fn.results = #[.cell p ty, .tmp u]) (tmps : Array Value) (w : World) (g : Nat) (t : TypeId) (cs : Array Value) (fr : Nat × Nat) (d : TypeDesc)
    (hp : tmps.getD p undef = .pointer (some ⟨g, 0, none⟩)) (hg : w.heap[g]? = some (.cells cs t fr))
    (hu : P.underlying ty = some d) (hd : (match d with | .struct _ | .array _ _ => true | _ => false) = true) (hi : (P.info? ty).map (·.size) = some cs.size) :
    (results fn tmps).run P w = .ok (.tuple #[.agg cs, tmps.getD u undef]) w := by
  rw [results_cell_tmp h, hp]
  simp only [asAddr, Sem.run_pure, Result.andThen_ok, run_loadVar_row w g t ty cs fr d hg hu hd hi]
theorem struct_entryU : Tryz.prog.underlying 88 = some (.struct (Tryz.prog.fieldsOf 88)) := by kernel_rfl
theorem size_of_entryU : (Tryz.prog.info? 88).map (·.size) = some 4 := by kernel_rfl
theorem size_of_nodeU : (Tryz.prog.info? 38).map (·.size) = some 3 := by kernel_rfl
/-- An entry as a value. -/
def evU (nm : List UInt8) (k : Int) (lk d : List UInt8) : Value := .agg #[.string (Hog.mk nm), .int .i64 k, .string (Hog.mk lk), .string (Hog.mk d)]
def nvU (x : Nd) : Value := .agg #[.string x.1, .int .i64 x.2.1, .string x.2.2]
/-- An entry in block g. -/
def BoxE (w : World) (g : Nat) (nm : List UInt8) (k : Int) (lk d : List UInt8) : Prop := w.heap[g]? = some (.cells #[.string (Hog.mk nm), .int .i64 k, .string (Hog.mk lk), .string (Hog.mk d)] 88 (0, 0))
theorem BoxE.facts {w : World} {g : Nat} {nm : List UInt8} {k : Int} {lk d : List UInt8} (h : BoxE w g nm k lk d) :
    (w.cell? ⟨g, 0, none⟩ = some (.string (Hog.mk nm)) ∧ w.cell? ⟨g, 1, none⟩ = some (.int .i64 k) ∧ w.cell? ⟨g, 2, none⟩ = some (.string (Hog.mk lk)) ∧ w.cell? ⟨g, 3, none⟩ = some (.string (Hog.mk d))) ∧
    (w.frozen? ⟨g, 0, none⟩ = false ∧ w.frozen? ⟨g, 1, none⟩ = false ∧ w.frozen? ⟨g, 2, none⟩ = false ∧ w.frozen? ⟨g, 3, none⟩ = false) ∧ g < w.heap.size :=
  ⟨⟨by rw [cell_of_row w g 0 _ _ (0, 0) h]; rfl, by rw [cell_of_row w g 1 _ _ (0, 0) h]; rfl, by rw [cell_of_row w g 2 _ _ (0, 0) h]; rfl, by rw [cell_of_row w g 3 _ _ (0, 0) h]; rfl⟩,
   ⟨frozen_of_row w g 0 _ _ h, frozen_of_row w g 1 _ _ h, frozen_of_row w g 2 _ _ h, frozen_of_row w g 3 _ _ h⟩, (Array.getElem?_eq_some_iff.1 h).1⟩
theorem BoxE.below {w w' : World} {g : Nat} {nm : List UInt8} {k : Int} {lk d : List UInt8} (h : BoxE w g nm k lk d) (hb : Below w.heap.size w w') : BoxE w' g nm k lk d := by
  have hlt := h.facts.2.2
  unfold BoxE at *
  rw [hb.block g hlt]; exact h
theorem BoxE.grown {w w' : World} {g : Nat} {nm : List UInt8} {k : Int} {lk d : List UInt8} {row : Option Nat} (h : BoxE w g nm k lk d) (hg : w.grownBy w' row) (hr : row ≠ some g) : BoxE w' g nm k lk d := by
  have hlt := h.facts.2.2
  unfold BoxE at *
  rw [hg.block g hlt (fun e => hr e.symm)]; exact h
theorem BoxE.name {w : World} {g : Nat} {nm : List UInt8} {k : Int} {lk d : List UInt8} (h : BoxE w g nm k lk d) (x : List UInt8) : BoxE (w.setCell ⟨g, 0, none⟩ (.string (Hog.mk x))) g x k lk d := by
  unfold BoxE
  rw [heap_setCell_same w g 0 _ _ _ h]; rfl
theorem BoxE.link {w : World} {g : Nat} {nm : List UInt8} {k : Int} {lk d : List UInt8} (h : BoxE w g nm k lk d) (x : List UInt8) : BoxE (w.setCell ⟨g, 2, none⟩ (.string (Hog.mk x))) g nm k x d := by
  unfold BoxE
  rw [heap_setCell_same w g 2 _ _ _ h]; rfl

theorem dot_test (nm : List UInt8) (b : Bool) (h : decide (nm = [46]) = b) : ((Hog.mk nm).toList == [46]) = b := by
  rw [Hog.mk_toList, ← h, Bool.eq_iff_iff, beq_iff_eq, decide_eq_true_eq]
set_option maxRecDepth 100000 in
set_option maxHeartbeats 1000000 in
theorem enode_ok (nm : List UInt8) (k : Int) (lk d : List UInt8) (x : Nd) (w : World) (hx : Hog.nodeE nm k lk d = x) :
    Calls Tryz.prog 46 #[evU nm k lk d] w fun e w' => e = .returned (nvU x) ∧ Below w.heap.size w w' := by
  subst hx
  unfold evU Hog.nodeE
  by_cases h1 : nm = [46]
  · have n1 := dot_test nm true (by simpa using h1)
    rw [if_pos h1]
    clear h1
    by_cases h4 : k = 4
    · have k4 : (k == 4) = true := by rw [beq_iff_eq]; exact h4
      rw [if_pos h4]
      clear h4
      go_enter Tryz.func46, Tryz.ntmps46
      go_wp2
      refine bodyPost_ret (results_cell_row rfl _ _ (w.heap.size + 1) 38 #[.string (⟨#[]⟩), .int .i64 k, .string (Hog.mk lk)] (0, 0) _ rfl ?_ struct_node rfl size_of_nodeU) rfl ?_
      · rw [heap_alloc_old _ _ (by simp)]
        exact heap_alloc2_new w _ _
      · exact ⟨rfl, ((below_box w _).trans ((below_box _ _).mono (by simp))).trans ((below_box _ _).mono (by rw [World.size_alloc, World.size_alloc]; omega))⟩
    · have k4 : (k == 4) = false := by rw [beq_eq_false_iff_ne]; exact h4
      rw [if_neg h4]
      clear h4
      go_enter Tryz.func46, Tryz.ntmps46
      go_wp2
      refine bodyPost_ret (results_cell_row rfl _ _ (w.heap.size + 1) 38 #[.string (⟨#[]⟩), .int .i64 k, .string (Hog.mk d)] (0, 0) _ rfl ?_ struct_node rfl size_of_nodeU) rfl ?_
      · rw [heap_alloc_old _ _ (by simp)]
        exact heap_alloc2_new w _ _
      · exact ⟨rfl, ((below_box w _).trans ((below_box _ _).mono (by simp))).trans ((below_box _ _).mono (by rw [World.size_alloc, World.size_alloc]; omega))⟩
  · have n1 := dot_test nm false (by simpa using h1)
    rw [if_neg h1]
    clear h1
    by_cases h4 : k = 4
    · have k4 : (k == 4) = true := by rw [beq_iff_eq]; exact h4
      rw [if_pos h4]
      clear h4
      go_enter Tryz.func46, Tryz.ntmps46
      go_wp2
      refine bodyPost_ret (results_cell_row rfl _ _ (w.heap.size + 1) 38 #[.string (Hog.mk nm), .int .i64 k, .string (Hog.mk lk)] (0, 0) _ rfl ?_ struct_node rfl size_of_nodeU) rfl ?_
      · rw [heap_alloc_old _ _ (by simp)]
        exact heap_alloc2_new w _ _
      · exact ⟨rfl, ((below_box w _).trans ((below_box _ _).mono (by simp))).trans ((below_box _ _).mono (by rw [World.size_alloc, World.size_alloc]; omega))⟩
    · have k4 : (k == 4) = false := by rw [beq_eq_false_iff_ne]; exact h4
      rw [if_neg h4]
      clear h4
      go_enter Tryz.func46, Tryz.ntmps46
      go_wp2
      refine bodyPost_ret (results_cell_row rfl _ _ (w.heap.size + 1) 38 #[.string (Hog.mk nm), .int .i64 k, .string (Hog.mk d)] (0, 0) _ rfl ?_ struct_node rfl size_of_nodeU) rfl ?_
      · rw [heap_alloc_old _ _ (by simp)]
        exact heap_alloc2_new w _ _
      · exact ⟨rfl, ((below_box w _).trans ((below_box _ _).mono (by simp))).trans ((below_box _ _).mono (by rw [World.size_alloc, World.size_alloc]; omega))⟩

set_option maxRecDepth 100000 in
set_option maxHeartbeats 1000000 in
theorem amend_ok (g : Nat) (nm lk d s : List UInt8) (k : Int) (nm' lk' : List UInt8) (w0 w : World) (hE : Errs w0) (hok : Ok w0 w) (hg : w0.heap.size ≤ g) (hs : s.length < 1000000) (h : BoxE w g nm k lk d) (hv : Hog.amendF s.length s (nm, lk) = (nm', lk')) :
    Calls Tryz.prog 47 #[.pointer (some ⟨g, 0, none⟩), .string (Hog.mk s)] w fun e w' => e = .returned (.tuple #[]) ∧ BoxE w' g nm' k lk' d ∧ w.grownBy w' (some g) ∧ Ok w0 w' := by
  have HE := hide hE
  have HV := hide hv
  have HB := hide h
  have HOK := hide hok
  clear hE hv h hok
  go_enter Tryz.func47, Tryz.ntmps47
  go_wp2
  go_loopw [1] (fun r wr => ∃ (z na la : List UInt8) (f : Nat), r = .string (Hog.mk z) ∧ z.length ≤ s.length ∧ z.length ≤ f ∧ Hid (Hog.amendF f z (na, la) = (nm', lk')) ∧ Hid (BoxE wr g na k la d) ∧ Hid (w.grownBy wr (some g)) ∧ Hid (Ok w0 wr)) (fun r _ => (match r with | .string b => b.size | _ => 0))
  case atStart => exact ⟨s, nm, lk, s.length, rfl, Nat.le_refl _, Nat.le_refl _, HV, HB, hide (grown_all (Below.refl _ w) _), HOK⟩
  case round =>
    obtain ⟨z, na, la, f, rfl, hz, hf, HVR, HBR, HGR, HOKR⟩ := hrel
    by_cases h0 : z = []
    · have n0 : (Hog.mk z).toList.isEmpty = true := by rw [Hog.mk_toList, h0]; rfl
      have HX : Hid ((na, la) = (nm', lk')) := by rw [← HVR.out, h0, Hog.amendF_nil]; exact hide rfl
      clear h0
      go_wp2
      go_end0
      obtain ⟨rfl, rfl⟩ := Prod.mk.inj HX.out
      exact ⟨rfl, HBR.out, HGR.out, HOKR.out⟩
    · have n0 : (Hog.mk z).toList.isEmpty = false := by rw [Hog.mk_toList]; cases z with | nil => exact absurd rfl h0 | cons a b => rfl
      obtain ⟨kk, v, r, hc⟩ : ∃ kk v r, Hog.cutP z = (kk, v, r) := ⟨_, _, _, rfl⟩
      have hr := Hog.cutP_rest z h0
      obtain ⟨f', hf', hst⟩ := Hog.amendF_step (na, la) h0 hf
      rw [hc] at hr hf' hst
      simp only [] at hr hf' hst
      rw [HVR.out] at hst
      have hrl := hr.1
      have HC : Hid (Hog.cutP (Hog.mk z).data.toList = (kk, v, r)) := by rw [Hog.mk_data]; exact hide hc
      have HST := hide hst.symm
      have hzs : (Hog.mk z).size < 1000000 := by rw [Hog.mk_size]; omega
      have HMS : Hid ((Hog.mk r).size < (Hog.mk z).size) := by rw [Hog.mk_size, Hog.mk_size]; exact hide hrl
      clear hc hr hst h0 HVR
      go_wp2_with fail
      refine (ucut_ok (Hog.mk z) kk v r w0 wr HE.out HOKR.out hzs HC.out).mono ?_
      rintro e w1 ⟨rfl, ok1, hb1⟩
      have HB1 := hide (HBR.out.below hb1)
      have HG1 := hide (grown_trans HGR.out (grown_all hb1 _))
      have HOK1 := hide ok1
      obtain ⟨⟨_, _, _, _⟩, ⟨f0, _, f2, _⟩, hlt⟩ := HB1.out.facts
      clear hb1 ok1
      by_cases h1 : kk = Hog.pathK
      · have t1 : ((Hog.mk kk).toList == [112, 97, 116, 104]) = true := by rw [Hog.mk_toList, h1]; rfl
        have HP : Hid (Hog.amendF f' r (v, la) = (nm', lk')) := by have := HST.out; rw [h1, Hog.put_path] at this; exact hide this
        clear h1
        go_wp2_with fail
        go_roundw
        case rel => exact ⟨r, v, la, f', rfl, by omega, hf', HP, hide (HB1.out.name v), hide (grown_trans HG1.out (grown_setCell _ _ _ _)), hide (HOK1.out.step (below_grown (grown_setCell _ _ _ _) (by have := HOK1.out.size; omega) (fun k e => by cases e; exact hg)))⟩
        case measure => exact HMS.out
      · have t1 : ((Hog.mk kk).toList == [112, 97, 116, 104]) = false := by rw [Hog.mk_toList, beq_eq_false_iff_ne]; exact h1
        by_cases h2 : kk = Hog.linkK
        · have t2 : ((Hog.mk kk).toList == [108, 105, 110, 107, 112, 97, 116, 104]) = true := by rw [Hog.mk_toList, h2]; rfl
          have HP : Hid (Hog.amendF f' r (na, v) = (nm', lk')) := by have := HST.out; rw [h2, Hog.put_link] at this; exact hide this
          clear h1 h2
          go_wp2_with fail
          go_roundw
          case rel => exact ⟨r, na, v, f', rfl, by omega, hf', HP, hide (HB1.out.link v), hide (grown_trans HG1.out (grown_setCell _ _ _ _)), hide (HOK1.out.step (below_grown (grown_setCell _ _ _ _) (by have := HOK1.out.size; omega) (fun k e => by cases e; exact hg)))⟩
          case measure => exact HMS.out
        · have t2 : ((Hog.mk kk).toList == [108, 105, 110, 107, 112, 97, 116, 104]) = false := by rw [Hog.mk_toList, beq_eq_false_iff_ne]; exact h2
          have HP : Hid (Hog.amendF f' r (na, la) = (nm', lk')) := by have := HST.out; unfold Hog.putP at this; rw [if_neg h1, if_neg h2] at this; exact hide this
          clear h1 h2
          go_wp2_with fail
          go_roundw
          case rel => exact ⟨r, na, la, f', rfl, by omega, hf', HP, HB1, HG1, HOK1⟩
          case measure => exact HMS.out
end Go.Proofs.YtecjkkipglldlaaGreatDoor
