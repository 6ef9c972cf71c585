/- The walk of chapter 14's awake. -/
import Derived.Test.YtecjkkipglldlaaGreatDoorVF
import Derived.Test.YtecjkkipglldlaaGreatDoorTI
import Derived.Test.YtecjkkipglldlaaGreatDoorJ2
import Derived.Test.YtecjkkipglldlaaGreatDoorJ3
namespace Go.Proofs.YtecjkkipglldlaaGreatDoor
open Go.RowKit

/-- The row that so many bytes 0 make. -/
def objZ (n : Nat) : Obj := .cells (bcells (Hog.zeros n)).toArray 5
theorem run_makeZ (n : Nat) (hn : n < 1000000) (W : World) : (Instr.makeSlice 22 (.int .i64 n) (.int .i64 n)).run Tryz.prog W = .ok (.slice (some ⟨W.heap.size, 0, none⟩) n n) (W.alloc (objZ n)) := by
  obtain ⟨i0, hi, hz0, hz1, hz2⟩ := info_parts A5
  have h := run_make (P := Tryz.prog) W 22 5 i0 _ Tryz.underlying22 hi hz0 .i64 .i64 n n (by omega) (Int.le_refl _) (by rw [hz2]; omega) (by omega)
  rw [h]
  have e : madeCells (Value.int .u8 0).cells ((n : Int).toNat * i0.size) = (bcells (Hog.zeros n)).toArray := by
    rw [hz1, show ((n : Int).toNat * 1) = n by omega]
    have e1 : ∀ (z : Value) (n : Nat), madeCells #[z] n = (List.replicate n z).toArray := fun z n => by rw [← toList_madeCells_one, Array.toArray_toList]
    rw [show (Value.int .u8 0).cells = #[Value.int .u8 0] by rfl, e1]
    unfold bcells Hog.zeros
    rw [List.map_replicate]
    rfl
  rw [e]
  rfl
theorem rowZ (n : Nat) (W : World) : RowH (W.alloc (objZ n)) W.heap.size (Hog.zeros n) := heap_alloc_new W _
theorem aw14_zero : Hog.TarIs (Hog.zeros 1024) [] 5 := by
  refine .inr ⟨rfl, rfl, fun t ht e => ?_⟩
  have h1 := Hog.nodesF_tar ht []
  rw [List.append_nil, e] at h1
  have h2 := Hog.nodesF_tree [] [] 400 (fun n hn => by cases hn) (by decide)
  generalize Hog.zeros 1024 = z at h1 h2
  rw [show Hog.treeT [] = [] from rfl, List.nil_append, List.append_nil, h1] at h2
  exact tree_ne ht h2
theorem aw14_one : Hog.TarIs (Hog.tarL aw13) aw13 0 := .inl ⟨rfl, aw13_may, rfl⟩

set_option maxRecDepth 100000 in
set_option maxHeartbeats 1000000 in
theorem awake14_ok (w0 w : World) (hp : Lib14 w0) (h : Ok w0 w) :
    Calls Tryz.prog 6 #[] w fun e w' => e = .returned (.bool true) ∧ Ok w0 w' ∧ Below w.heap.size w w' := by
  obtain ⟨wa, hwa⟩ : ∃ wa, wa = w.alloc (.cells #[.string ⟨#[]⟩, .int .i64 1, .string ⟨#[]⟩] 38) := ⟨_, rfl⟩
  have hba : Below w.heap.size w wa := by rw [hwa]; exact below_alloc _ _
  have HRA : Hid (Nods wa (.slice (some ⟨w.heap.size, 0, none⟩) 1 1) aw13) := by rw [hwa]; exact hide ((Run.one w (⟨#[]⟩, 1, ⟨#[]⟩)).nods (c := 1) (by simp))
  have oka := h.next hba
  have HBA := hide hba
  have HWA := hide hwa
  obtain ⟨lz, hlz⟩ : ∃ lz, Hog.tarL aw13 = lz := ⟨_, rfl⟩
  have HZ := hide hlz
  have HZL : Hid (lz.length = 1536) := by rw [← hlz]; exact hide aw13_len
  have HT1 : Hid (Hog.TarIs lz aw13 0) := by rw [← hlz]; exact hide aw14_one
  have HT0 := hide aw14_zero
  have hmk : ∀ W : World, (Instr.makeSlice 22 (.int .i64 1024) (.int .i64 1024)).run Tryz.prog W = .ok (.slice (some ⟨W.heap.size, 0, none⟩) 1024 1024) (W.alloc (objZ 1024)) := fun W => run_makeZ 1024 (by omega) W
  have HP := hide hp
  clear hba hwa hlz h hp
  go_enter Tryz.func6, Tryz.ntmps6
  go_wp2_with fail
  rw [← HWA.out]
  refine (tlay_good _ aw13 lz 1536 w0 wa HP.out.1 oka HRA.out aw13_short aw13_may HZ.out HZL.out).mono ?_
  rintro e w1 ⟨b1, c1, rfl, ho1, ok1, hb1⟩
  have HO1 := hide ho1
  have HB1 := hide (below_two HBA.out hb1)
  clear ho1 hb1
  go_wp2_with fail
  refine (uread_ok _ 1536 _ lz aw13 0 1 w0 w1 HP.out ok1 HO1.out.argAt.2 (by omega) HT1.out rfl).mono ?_
  rintro e w2 ⟨b2, c2, rfl, ho2, ok2, hb2⟩
  have HO2 := hide (HO1.out.below hb2)
  have HN2 := hide ho2
  have HB2 := hide (below_two HB1.out hb2)
  clear ho2 hb2 HO1
  obtain ⟨wz, hwz⟩ : ∃ wz, w2.alloc (objZ 1024) = wz := ⟨_, rfl⟩
  have hbz : Below w2.heap.size w2 wz := by rw [← hwz]; exact below_alloc _ _
  have HRZ : Hid (RowH wz w2.heap.size (Hog.zeros 1024)) := by rw [← hwz]; exact hide (rowZ 1024 w2)
  have HOZ := hide (HO2.out.below hbz)
  have HNZ := hide (HN2.out.below hbz)
  have HBZ := hide (below_two HB2.out hbz)
  have HOKZ := hide (ok2.next hbz)
  have hmk2 := hmk w2
  rw [hwz] at hmk2
  clear hmk hwz hbz HO2 HN2
  go_wp2_with fail
  refine (uread_ok _ 1024 _ (Hog.zeros 1024) [] 5 0 w0 wz HP.out HOKZ.out (HRZ.out.arg (Hog.zeros_len 1024) (Nat.le_refl _)) (by omega) HT0.out rfl).mono ?_
  rintro e w3 ⟨b3, c3, rfl, ho3, ok3, hb3⟩
  have HO3 := hide (HOZ.out.below hb3)
  have HN3 := hide (HNZ.out.below hb3)
  have HB3 := hide (below_two HBZ.out hb3)
  clear ho3 hb3 HOZ HNZ hmk2
  go_wp2_with fail
  refine (unames_ok _ 1536 _ lz aw13 0 1 w0 w3 HP.out ok3 HO3.out.argAt.2 (by omega) HT1.out rfl).mono ?_
  rintro e w4 ⟨b4, c4, rfl, ho4, ok4, hb4⟩
  have HX4 := hide ho4
  have HN4 := hide (HN3.out.below hb4)
  have HB4 := hide (below_two HB3.out hb4)
  clear ho4 hb4 HO3 HN3
  obtain ⟨wb, hwb⟩ : ∃ wb, wb = w4.alloc (.cells #[.string ⟨#[]⟩, .int .i64 1, .string ⟨#[]⟩] 38) := ⟨_, rfl⟩
  have hbb : Below w4.heap.size w4 wb := by rw [hwb]; exact below_alloc _ _
  have HRB : Hid (Nods wb (.slice (some ⟨w4.heap.size, 0, none⟩) 1 1) aw13) := by rw [hwb]; exact hide ((Run.one w4 (⟨#[]⟩, 1, ⟨#[]⟩)).nods (c := 1) (by simp))
  have HOKB := hide (ok4.next hbb)
  have HXB := hide (HX4.out.below hbb)
  have HNB := hide (HN4.out.below hbb)
  have HBB := hide (below_two HB4.out hbb)
  have HWB := hide hwb
  clear hwb hbb HX4 HN4
  go_wp2_with fail
  rw [← HWB.out]
  refine (sameN_any _ _ aw13 aw13 wb HNB.out.nods HRB.out (by decide)).mono ?_
  rintro e w5 ⟨rfl, hb5⟩
  rw [show decide (aw13 = aw13) = true from by simp]
  have HX5 := hide (HXB.out.below hb5)
  have HB5 := hide (below_two HBB.out hb5)
  have HOK5 := hide (HOKB.out.next hb5)
  clear hb5 HXB HNB
  obtain ⟨wc, hwc⟩ : ∃ wc, wc = w5.alloc (.cells #[.string ⟨#[]⟩] 9) := ⟨_, rfl⟩
  have hbc : Below w5.heap.size w5 wc := by rw [hwc]; exact below_alloc _ _
  have HTC : Hid (Txt wc (.slice (some ⟨w5.heap.size, 0, none⟩) 1 1) [⟨#[]⟩]) := by rw [hwc]; exact hide (Own.one w5 ⟨#[]⟩).txt
  have HXC := hide (HX5.out.below hbc)
  have HBC := hide (below_two HB5.out hbc)
  have HOKC := hide (HOK5.out.next hbc)
  have HWC := hide hwc
  clear hwc hbc HX5
  go_wp2_with fail
  rw [← HWC.out]
  refine (same_any _ _ (pathsN aw13) [⟨#[]⟩] wc HXC.out.txt HTC.out (by decide)).mono ?_
  rintro e w6 ⟨rfl, hb6⟩
  rw [show decide (pathsN aw13 = [⟨#[]⟩]) = true from by decide]
  have HB6 := hide (below_two HBC.out hb6)
  have HOK6 := hide (HOKC.out.next hb6)
  clear hb6
  go_wp2
  go_ret
  exact ⟨rfl, HOK6.out, HB6.out⟩
end Go.Proofs.YtecjkkipglldlaaGreatDoor
