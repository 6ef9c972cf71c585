/- The walk of the document's own answer, chapter 11: Lay. -/
import Derived.Test.YtmlkknbndglgaaaGreatDoorMT
import Derived.Test.YtmlkknbndglgaaaGreatDoorMD
import Derived.RegionTactic
namespace Go.Proofs.YtmlkknbndglgaaaGreatDoor
open Go.RowKit

/-- The text's two first lines. -/
def headM (pre : ByteArray) (pol : Int) : List UInt8 := Hog.linesW (Hog.wordM 0) [pre] ++ Hog.linesW (Hog.wordM 1) [Hog.digM pol]
theorem cut_len {α β : Type} (f : α → List β) (l : List α) (k : Nat) : ((l.take k).flatMap f).length ≤ (l.flatMap f).length := by
  have e : (l.flatMap f) = (l.take k).flatMap f ++ (l.drop k).flatMap f := by rw [← List.flatMap_append, List.take_append_drop]
  rw [e, List.length_append]; omega
theorem part_a {q : Hog.RegP} (k : Nat) : (headM q.pre q.pol ++ (q.items.take k).flatMap Hog.itemL).length ≤ (Hog.layM q).length := by
  rw [Hog.lay_parts]
  unfold headM
  have h := cut_len Hog.itemL q.items k
  simp only [List.length_append] at h ⊢
  omega
theorem part_b {q : Hog.RegP} {k : Nat} {i : RI} (hi : q.items[k]? = some i) (j : Nat) : (headM q.pre q.pol ++ (q.items.take k).flatMap Hog.itemL ++ Hog.linesW (Hog.wordM 2) [i.1] ++ Hog.linesW (Hog.wordM 3) (i.2.take j)).length ≤ (Hog.layM q).length := by
  have h1 := part_a (q := q) (k + 1)
  rw [items_step hi] at h1
  have h2 := cut_len (Hog.lineW (Hog.wordM 3)) i.2 j
  unfold Hog.linesW at h1 h2 ⊢
  simp only [List.length_append] at h1 h2 ⊢
  omega
theorem part_c {q : Hog.RegP} (j : Nat) : (headM q.pre q.pol ++ q.items.flatMap Hog.itemL ++ Hog.linesW (Hog.wordM 4) (q.prof.take j)).length ≤ (Hog.layM q).length := by
  rw [Hog.lay_parts]
  unfold headM
  have h2 := cut_len (Hog.lineW (Hog.wordM 4)) q.prof j
  unfold Hog.linesW at h2 ⊢
  simp only [List.length_append] at h2 ⊢
  omega
theorem dig_text {p : Int} (h : polB p = true) : ∃ n : Nat, p = n ∧ n ≤ 1 ∧ (⟨#[48, 49]⟩ : ByteArray).extract n (n + 1) = Hog.digM p := by
  rcases polB_iff.1 h with rfl | rfl
  · exact ⟨0, rfl, by omega, by decide +kernel⟩
  · exact ⟨1, rfl, by omega, by decide +kernel⟩
theorem word_line (J : ByteArray) (t : List UInt8) (w : List UInt8) (x : ByteArray) (h : J = Hog.mk t) : J ++ Hog.mk w ++ x ++ ⟨#[10]⟩ = Hog.mk (t ++ Hog.lineW w x) := by
  rw [h, ← line_mk, ByteArray.append_assoc, ByteArray.append_assoc, ByteArray.append_assoc]

set_option maxRecDepth 100000 in
set_option maxHeartbeats 4000000 in
theorem rlayYes (pre : ByteArray) (pol : Int) (items : List RI) (prof : List ByteArray) (is : List It) (u v : Value) (w : World) (hf : FairP ⟨pre, pol, items, prof⟩) (hi : Its w u is) (hq : rsI is = items) (hp : Txt w v prof) (hv : mayR ⟨pre, pol, items, prof⟩ = true) :
    Calls Tryz.prog 10 #[.agg #[.string pre, u, v, .int .i64 pol]] w fun e w' => e = .returned (.tuple #[.string (Hog.mk (Hog.layM ⟨pre, pol, items, prof⟩)), .int .i64 0]) ∧ Below w.heap.size w w' := by
  obtain ⟨W, hW⟩ : ∃ W, W = w.alloc (pcells pre u v pol) := ⟨_, rfl⟩
  have HB0 : Hid (Below w.heap.size w W) := by rw [hW]; exact below_box _ _
  have HM := hide (rmayP_ok ⟨pre, pol, items, prof⟩ is u v true W hf (hi.below HB0.out) hq (hp.below HB0.out) hv)
  obtain ⟨pz, hiz, hpl, hpz, hl8⟩ := lay_no hv
  simp only at pz hiz hpl hpz hl8
  have hsm := mayR_small hv
  obtain ⟨dn, hdn, hd1, hdx⟩ := dig_text (mayR_iff.1 hv).2.1
  simp only at hdn hd1 hdx
  have HHEAD : Hid ((⟨#[112, 114, 101, 102, 105, 120, 32]⟩ : ByteArray) ++ pre ++ ⟨#[10, 112, 111, 108, 105, 99, 121, 32]⟩ ++ (⟨#[48, 49]⟩ : ByteArray).extract dn (dn + 1) ++ ⟨#[10]⟩ = Hog.mk (headM pre pol)) := by
    show _ = _
    rw [hdx]
    unfold headM Hog.linesW
    rw [List.flatMap_singleton, List.flatMap_singleton]
    have e1 := word_line ⟨#[]⟩ [] (Hog.wordM 0) pre rfl
    have e2 := word_line _ _ (Hog.wordM 1) (Hog.digM pol) e1
    rw [List.nil_append] at e2
    rw [← e2, show (⟨#[10, 112, 111, 108, 105, 99, 121, 32]⟩ : ByteArray) = ⟨#[10]⟩ ++ Hog.mk (Hog.wordM 1) from by decide +kernel]
    rw [show (⟨#[112, 114, 101, 102, 105, 120, 32]⟩ : ByteArray) = (⟨#[]⟩ : ByteArray) ++ Hog.mk (Hog.wordM 0) from by decide +kernel]
    simp only [ByteArray.append_assoc]
  have hds : ((⟨#[48, 49]⟩ : ByteArray).extract dn (dn + 1)).size ≤ 40 := by rw [hdx]; exact dig_small _
  obtain ⟨ia, ic, rfl⟩ := hi.form
  obtain ⟨pa, pc, rfl⟩ := hp.form
  obtain ⟨m, hm⟩ : ∃ m, is.length = m := ⟨_, rfl⟩
  obtain ⟨n, hn⟩ : ∃ n, prof.length = n := ⟨_, rfl⟩
  rw [hm] at HM hi hW ⊢
  rw [hn] at HM hp hW ⊢
  have HI := hide (hi.below HB0.out)
  have HP := hide (hp.below HB0.out)
  have hm8 : m ≤ 8 := by rw [← hm]; rw [← hq] at hl8; unfold rsI at hl8; rw [List.length_map] at hl8; exact hl8
  have hn8 : n ≤ 8 := by omega
  have HMN := hide hm
  have HNN := hide hn
  have HQ := hide hq
  have HIZ := hide hiz
  have HPZ := hide hpz
  have HA : Hid (∀ k, (Hog.mk (headM pre pol ++ (items.take k).flatMap Hog.itemL)).size ≤ 4018) := fun k => by
    rw [Hog.mk_size]; exact Nat.le_trans (part_a (q := ⟨pre, pol, items, prof⟩) k) hsm
  have HBP : Hid (∀ (k : Nat) (i : RI) (_ : items[k]? = some i) (j : Nat), (Hog.mk (headM pre pol ++ (items.take k).flatMap Hog.itemL ++ Hog.linesW (Hog.wordM 2) [i.1] ++ Hog.linesW (Hog.wordM 3) (i.2.take j))).size ≤ 4018) := fun k i hi j => by
    rw [Hog.mk_size]; exact Nat.le_trans (part_b (q := ⟨pre, pol, items, prof⟩) hi j) hsm
  have HCP : Hid (∀ j, (Hog.mk (headM pre pol ++ items.flatMap Hog.itemL ++ Hog.linesW (Hog.wordM 4) (prof.take j))).size ≤ 4018) := fun j => by
    rw [Hog.mk_size]; exact Nat.le_trans (part_c (q := ⟨pre, pol, items, prof⟩) j) hsm
  have HBX : Hid (BoxP W w.heap.size 25 pre (.slice ia m ic) (.slice pa n pc) pol) := by rw [hW]; exact BoxP.made _ _ _ _ _ _
  obtain ⟨⟨c0, c1, c2, c3⟩, _, hlt⟩ := HBX.out.facts
  have HW : Hid (w.alloc (.cells #[.string pre, .slice ia m ic, .slice pa n pc, .int .i64 pol] 25) = W) := hW.symm
  have HLP := hide (Hog.lay_parts ⟨pre, pol, items, prof⟩)
  clear hf hi hp hv hm hn hW hiz hpz hsm hdx hq
  subst hdn
  go_enter Tryz.func10, Tryz.ntmps10
  go_wp2_with fail
  rw [HW.out]
  refine (show Calls _ _ _ _ _ from HM.out).mono ?_
  rintro e w1 ⟨rfl, hb1⟩
  have HB1 := hide (below_two HB0.out hb1)
  have HBX1 := hide (HBX.out.below hb1)
  have HI1 := hide (Its.below HI.out hb1)
  have HP1 := hide (Txt.below HP.out hb1)
  clear hb1 HBX HI HP HM HB0 c0 c1 c2 c3 hlt HW
  obtain ⟨⟨c0, c1, c2, c3⟩, _, hlt⟩ := HBX1.out.facts
  go_wp2
  go_quiet (fail)
  have HBd := hide (below_drewN (Below.refl w1.heap.size w1) nq)
  obtain ⟨w3, hw3⟩ : ∃ w3, w1.drewN nq = w3 := ⟨_, rfl⟩
  have HW3 := hide hw3
  rw [hw3] at HBd
  have HB3 := hide (below_two HB1.out HBd.out)
  have HBX3 := hide (HBX1.out.below HBd.out)
  have HI3 := hide (Its.below HI1.out HBd.out)
  have HP3 := hide (Txt.below HP1.out HBd.out)
  obtain ⟨J0, hJ0⟩ : ∃ J, (⟨#[112, 114, 101, 102, 105, 120, 32]⟩ : ByteArray) ++ pre ++ ⟨#[10, 112, 111, 108, 105, 99, 121, 32]⟩ ++ (⟨#[48, 49]⟩ : ByteArray).extract dn (dn + 1) ++ ⟨#[10]⟩ = J := ⟨_, rfl⟩
  have hz0 : J0.size ≤ 4018 := by
    have h := HA.out 0
    rw [← hJ0, HHEAD.out]
    simpa using h
  have HJ0 : Hid (J0 = Hog.mk (headM pre dn ++ (items.take 0).flatMap Hog.itemL)) := by
    show _ = _
    rw [← hJ0, HHEAD.out]
    simp
  clear hw3 c0 c1 c2 c3 hlt HBX1 HI1 HP1 HB1 HBd
  obtain ⟨⟨c0, c1, c2, c3⟩, _, hlt⟩ := HBX3.out.facts
  go_wp2
  have hwe := HW3.out
  rw [hwe, hJ0]
  clear hwe hJ0
  go_loopw [4, 5] (fun s i wr => ∃ (k : Nat) (J : ByteArray), k ≤ m ∧ i = .int .i64 k ∧ s = .string J ∧ J.size ≤ 4018 ∧ Hid (J = Hog.mk (headM pre dn ++ (items.take k).flatMap Hog.itemL)) ∧ wr = w3) (fun _ i _ => m - (intOf i).toNat)
  case atStart => exact ⟨0, J0, Nat.zero_le _, rfl, rfl, hz0, HJ0, rfl⟩
  case round =>
    obtain ⟨k, J, hk, rfl, rfl, hjs, HJ, rfl⟩ := hrel
    by_cases hkm : k < m
    · have hki : (k : Int) < (m : Int) := by omega
      obtain ⟨i, hi⟩ : ∃ i, is[k]? = some i := ⟨is[k]'(by have := HMN.out; omega), List.getElem?_eq_some_iff.2 ⟨_, rfl⟩⟩
      obtain ⟨b, o, ra, rn, rc, rfl, hb, d0, d1, ht⟩ := HI3.out.at' hi
      have hri : items[k]? = some (i.1, i.2.1) := by rw [← HQ.out]; unfold rsI; rw [List.getElem?_map, hi]; rfl
      obtain ⟨z1, z2, z3⟩ := HIZ.out _ (List.mem_of_getElem? hri)
      simp only at z1 z2 z3
      have hrn : rn = i.2.1.length := by
        obtain ⟨_, _, e⟩ := ht.form
        obtain ⟨_, e, _⟩ : _ ∧ rn = i.2.1.length ∧ _ := by simpa using e
        exact e
      have hrn8 : rn ≤ 8 := by omega
      have HRN := hide hrn
      have HRI := hide hri
      have HT := hide ht
      have HZ3 := hide z3
      obtain ⟨J1, hJ1⟩ : ∃ t, J ++ (⟨#[105, 116, 101, 109, 32]⟩ : ByteArray) ++ i.1 ++ ⟨#[10]⟩ = t := ⟨_, rfl⟩
      have HJ1 : Hid (J1 = Hog.mk (headM pre dn ++ (items.take k).flatMap Hog.itemL ++ Hog.linesW (Hog.wordM 2) [i.1] ++ Hog.linesW (Hog.wordM 3) (i.2.1.take 0))) := by
        show _ = _
        rw [← hJ1, show (⟨#[105, 116, 101, 109, 32]⟩ : ByteArray) = Hog.mk (Hog.wordM 2) from rfl, word_line J _ _ _ HJ.out]
        simp [Hog.linesW]
      have hj1 : J1.size ≤ 4018 := by rw [HJ1.out]; exact HBP.out k _ hri 0
      clear hrn hri ht hi z3 z2
      go_wp2
      try rw [hJ1]
      clear hJ1
      go_loopw [4, 6] (fun s i' w5 => ∃ (j : Nat) (J2 : ByteArray), j ≤ rn ∧ i' = .int .i64 j ∧ s = .string J2 ∧ J2.size ≤ 4018 ∧ Hid (J2 = Hog.mk (headM pre dn ++ (items.take k).flatMap Hog.itemL ++ Hog.linesW (Hog.wordM 2) [i.1] ++ Hog.linesW (Hog.wordM 3) (i.2.1.take j))) ∧ w5 = wr) (fun _ i' _ => rn - (intOf i').toNat)
      case atStart => exact ⟨0, J1, Nat.zero_le _, rfl, rfl, hj1, HJ1, rfl⟩
      case round =>
        obtain ⟨j, J2, hj, rfl, rfl, hj2, HJ2, rfl⟩ := hrel
        by_cases hjn : j < rn
        · have hji : (j : Int) < (rn : Int) := by omega
          obtain ⟨y, hy⟩ : ∃ y, i.2.1[j]? = some y := ⟨i.2.1[j]'(by have := HRN.out; omega), List.getElem?_eq_some_iff.2 ⟨_, rfl⟩⟩
          obtain ⟨b2, o2, rfl, hb2, e0⟩ := HT.out.at' hy
          have hys : y.size ≤ 40 := HZ3.out y (List.mem_of_getElem? hy)
          obtain ⟨J3, hJ3⟩ : ∃ t, J2 ++ (⟨#[114, 101, 102, 32]⟩ : ByteArray) ++ y ++ ⟨#[10]⟩ = t := ⟨_, rfl⟩
          have HJ3 : Hid (J3 = Hog.mk (headM pre dn ++ (items.take k).flatMap Hog.itemL ++ Hog.linesW (Hog.wordM 2) [i.1] ++ Hog.linesW (Hog.wordM 3) (i.2.1.take (j + 1)))) := by
            show _ = _
            rw [← hJ3, show (⟨#[114, 101, 102, 32]⟩ : ByteArray) = Hog.mk (Hog.wordM 3) from rfl, word_line J2 _ _ _ HJ2.out, lines_step hy]
            simp only [List.append_assoc]
          have hj3 : J3.size ≤ 4018 := by rw [HJ3.out]; exact HBP.out k _ HRI.out (j + 1)
          clear hy
          go_wp2
          try rw [hJ3]
          go_roundw
          case rel => exact ⟨j + 1, J3, by omega, by go_num, rfl, hj3, HJ3, by first | rfl | trivial⟩
          case measure => simp [intOf]; omega
        · obtain rfl : j = rn := by omega
          have hjd : (j : Int) ≤ (j : Int) := Int.le_refl _
          have HJ4 : Hid (J2 = Hog.mk (headM pre dn ++ (items.take (k + 1)).flatMap Hog.itemL)) := by
            show _ = _
            rw [HJ2.out, items_step HRI.out, List.take_of_length_le (l := i.2.1) (by rw [← HRN.out]; exact Nat.le_refl _)]
            simp only [List.append_assoc]
          go_wp2
          go_roundw
          case rel => exact ⟨k + 1, J2, by omega, by go_num, rfl, hj2, HJ4, by first | rfl | trivial⟩
          case measure => simp [intOf]; omega
    · obtain rfl : k = m := by omega
      have hkd : (k : Int) ≤ (k : Int) := Int.le_refl _
      have HJE : Hid (J = Hog.mk (headM pre dn ++ items.flatMap Hog.itemL ++ Hog.linesW (Hog.wordM 4) (prof.take 0))) := by
        show _ = _
        have h := HJ.out
        rw [List.take_of_length_le (by rw [← HQ.out]; unfold rsI; rw [List.length_map, HMN.out]; exact Nat.le_refl _)] at h
        rw [h]
        simp [Hog.linesW]
      clear HJ
      go_wp2
      go_loopw [4, 7] (fun s i' w5 => ∃ (j : Nat) (J2 : ByteArray), j ≤ n ∧ i' = .int .i64 j ∧ s = .string J2 ∧ J2.size ≤ 4018 ∧ Hid (J2 = Hog.mk (headM pre dn ++ items.flatMap Hog.itemL ++ Hog.linesW (Hog.wordM 4) (prof.take j))) ∧ w5 = wr) (fun _ i' _ => n - (intOf i').toNat)
      case atStart => exact ⟨0, J, Nat.zero_le _, rfl, rfl, hjs, HJE, rfl⟩
      case round =>
        obtain ⟨j, J2, hj, rfl, rfl, hj2, HJ2, rfl⟩ := hrel
        by_cases hjn : j < n
        · have hji : (j : Int) < (n : Int) := by omega
          obtain ⟨y, hy⟩ : ∃ y, prof[j]? = some y := ⟨prof[j]'(by have := HNN.out; omega), List.getElem?_eq_some_iff.2 ⟨_, rfl⟩⟩
          obtain ⟨b2, o2, rfl, hb2, e0⟩ := HP3.out.at' hy
          have hys : y.size ≤ 40 := HPZ.out y (List.mem_of_getElem? hy)
          obtain ⟨J3, hJ3⟩ : ∃ t, J2 ++ (⟨#[112, 114, 111, 102, 105, 108, 101, 32]⟩ : ByteArray) ++ y ++ ⟨#[10]⟩ = t := ⟨_, rfl⟩
          have HJ3 : Hid (J3 = Hog.mk (headM pre dn ++ items.flatMap Hog.itemL ++ Hog.linesW (Hog.wordM 4) (prof.take (j + 1)))) := by
            show _ = _
            rw [← hJ3, show (⟨#[112, 114, 111, 102, 105, 108, 101, 32]⟩ : ByteArray) = Hog.mk (Hog.wordM 4) from rfl, word_line J2 _ _ _ HJ2.out, lines_step hy]
            simp only [List.append_assoc]
          have hj3 : J3.size ≤ 4018 := by rw [HJ3.out]; exact HCP.out (j + 1)
          clear hy
          go_wp2
          try rw [hJ3]
          go_roundw
          case rel => exact ⟨j + 1, J3, by omega, by go_num, rfl, hj3, HJ3, by first | rfl | trivial⟩
          case measure => simp [intOf]; omega
        · obtain rfl : j = n := by omega
          have hjd : (j : Int) ≤ (j : Int) := Int.le_refl _
          have HJF : Hid (J2 = Hog.mk (Hog.layM ⟨pre, (dn : Int), items, prof⟩)) := by
            show _ = _
            rw [HLP.out, HJ2.out, List.take_of_length_le (by rw [HNN.out]; exact Nat.le_refl _)]
            exact rfl
          go_wp2
          go_ret2
          exact ⟨by rw [HJF.out]; rfl, HB3.out⟩
theorem rlayNo (q : Hog.RegP) (is : List It) (u v : Value) (w : World) (hf : FairP q) (hi : Its w u is) (hq : rsI is = q.items) (hp : Txt w v q.prof) (hv : mayR q = false) :
    Calls Tryz.prog 10 #[.agg #[.string q.pre, u, v, .int .i64 q.pol]] w fun e w' => e = .returned (.tuple #[.string ⟨#[]⟩, .int .i64 2]) ∧ Below w.heap.size w w' := by
  obtain ⟨W, hW⟩ : ∃ W, W = w.alloc (pcells q.pre u v q.pol) := ⟨_, rfl⟩
  have HB0 : Hid (Below w.heap.size w W) := by rw [hW]; exact below_box _ _
  have HM := hide (rmayP_ok q is u v false W hf (hi.below HB0.out) hq (hp.below HB0.out) hv)
  obtain ⟨ia, ic, rfl⟩ := hi.form
  obtain ⟨pa, pc, rfl⟩ := hp.form
  have HBX : Hid (BoxP W w.heap.size 25 q.pre (.slice ia is.length ic) (.slice pa q.prof.length pc) q.pol) := by rw [hW]; exact BoxP.made _ _ _ _ _ _
  obtain ⟨m, hm⟩ : ∃ m, is.length = m := ⟨_, rfl⟩
  obtain ⟨n, hn⟩ : ∃ n, q.prof.length = n := ⟨_, rfl⟩
  rw [hm] at HM hW HBX ⊢
  rw [hn] at HM hW HBX ⊢
  obtain ⟨⟨c0, c1, c2, c3⟩, _, hlt⟩ := HBX.out.facts
  have HW : Hid (w.alloc (.cells #[.string q.pre, .slice ia m ic, .slice pa n pc, .int .i64 q.pol] 25) = W) := hW.symm
  clear hf hi hp hv hm hn hW hq
  go_enter Tryz.func10, Tryz.ntmps10
  go_wp2_with fail
  rw [HW.out]
  refine (show Calls _ _ _ _ _ from HM.out).mono ?_
  rintro e w1 ⟨rfl, hb1⟩
  have HB1 := hide (below_two HB0.out hb1)
  clear hb1
  go_wp2
  go_ret2
  exact ⟨rfl, HB1.out⟩
theorem rlay_ok (q : Hog.RegP) (is : List It) (u v : Value) (t : ByteArray) (z : Int) (w : World) (hf : FairP q) (hi : Its w u is) (hq : rsI is = q.items) (hp : Txt w v q.prof) (ht : layV q = t) (hz : layE q = z) :
    Calls Tryz.prog 10 #[.agg #[.string q.pre, u, v, .int .i64 q.pol]] w fun e w' => e = .returned (.tuple #[.string t, .int .i64 z]) ∧ Below w.heap.size w w' := by
  subst ht hz
  unfold layV layE
  cases h : mayR q with
  | true => exact rlayYes q.pre q.pol q.items q.prof is u v w hf hi hq hp h
  | false => exact rlayNo q is u v w hf hi hq hp h
end Go.Proofs.YtmlkknbndglgaaaGreatDoor
