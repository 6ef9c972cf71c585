/- The walks of package tar's each, over a writer and over a counter. -/
import Derived.Test.YtecjkkipglldlaaGreatDoorTE
namespace Go.Proofs.YtecjkkipglldlaaGreatDoor
open Go.RowKit

theorem entE_name (x : Nd) (s : ByteArray) (h : (if x.1.data.toList = [] then ⟨#[46]⟩ else x.1) = s) : s.data.toList = (Hog.entE x).name := by
  rw [← h]
  unfold Hog.entE
  simp only
  split <;> rfl
theorem entE_link (x : Nd) (s : ByteArray) (h : (if x.2.1 = 4 then x.2.2 else ⟨#[]⟩) = s) : s.data.toList = (Hog.entE x).link := by
  rw [← h]
  unfold Hog.entE
  simp only
  split <;> rfl
theorem entE_data (x : Nd) (s : ByteArray) (h : (if x.2.1 = 4 then ⟨#[]⟩ else x.2.2) = s) : s.data.toList = (Hog.entE x).data := by
  rw [← h]
  unfold Hog.entE
  simp only
  split <;> rfl
theorem some_text {z : List UInt8} (h : z ≠ []) : (Hog.mk z).toList.isEmpty = false := by rw [Hog.mk_toList]; cases z with | nil => exact absurd rfl h | cons _ _ => rfl
theorem none_text : (Hog.mk []).toList.isEmpty = true := by rw [Hog.mk_toList]; rfl

set_option maxRecDepth 100000 in
set_option maxHeartbeats 4000000 in
theorem eachW_ok (bt ot ct n g base q0 : Nat) (t : List Nd) (b0 : Option Addr) (c0' : Nat) (z : List UInt8) (w0 w : World) (hp : Pow w0) (hok : Ok w0 w) (hw : WrAt w g base (.slice b0 0 c0') []) (h0 : w0.heap.size ≤ base) (hbg : base ≤ g) (hbw : base ≤ w.heap.size)
    (hr : Run w bt ot t) (hbt : bt < base) (hn : t.length = n) (hn4 : n ≤ 400) (hct : n ≤ ct) (hg : ∀ x ∈ t, Hog.NodeG x) (hz : Hog.treeT t = z) (hq0 : z.length = q0) :
    Calls Tryz.prog 26 #[.slice (some ⟨bt, ot, none⟩) n ct, .func (.func 27) #[.pointer (some ⟨g, 0, none⟩)] #[]] w fun e w' => e = .returned (.tuple #[]) ∧ ∃ b c, WrAt w' g base (.slice b q0 c) z ∧ Below base w w' ∧ Ok w0 w' := by
  have HP := hide hp
  have HOK := hide hok
  have HW := hide hw
  have HR := hide hr
  have HN := hide hn
  have HG := hide hg
  have HZ := hide hz
  have HQ0 := hide hq0
  clear hp hok hw hr hn hg hz hq0
  go_enter Tryz.func26, Tryz.ntmps26
  go_wp2
  go_loopw [10] (fun i wr => ∃ (k q : Nat) (b : Option Addr) (c : Nat), k ≤ n ∧ i = .int .i64 k ∧ Hid (q = (Hog.treeT (t.take k)).length) ∧ Hid (WrAt wr g base (.slice b q c) (Hog.treeT (t.take k))) ∧ Below base w wr) (fun i _ => n - (intOf i).toNat)
  case atStart => exact ⟨0, 0, b0, c0', by omega, rfl, by simp [Hid, Hog.treeT], by simpa [Hid, Hog.treeT] using HW.out, Below.refl _ _⟩
  case round =>
    obtain ⟨k, q, b, c, hk, rfl, HQ, HO, hbl⟩ := hrel
    by_cases hlt : k < n
    · obtain ⟨x, hx⟩ : ∃ x, t[k]? = some x := ⟨t[k]'(by have := HN.out; omega), List.getElem?_eq_some_iff.2 ⟨_, rfl⟩⟩
      obtain ⟨g1, g2, g3⟩ := (HR.out.2 k x hx).below hbl hbt
      have hki : (k : Int) < (n : Int) := by omega
      have HST := hide (Hog.treeT_step hx)
      have HXG := hide (HG.out x (List.mem_of_getElem? hx))
      have HXF := hide (Hog.entE_fits HXG.out)
      have hq1 : q ≤ 1228800 := by rw [HQ.out]; exact Hog.treeT_le HG.out (by rw [HN.out]; exact hn4) k
      obtain ⟨s, hs⟩ : ∃ s, (if x.1.data.toList = [] then (⟨#[46]⟩ : ByteArray) else x.1) = s := ⟨_, rfl⟩
      obtain ⟨l, hl⟩ : ∃ s, (if x.2.1 = 4 then x.2.2 else (⟨#[]⟩ : ByteArray)) = s := ⟨_, rfl⟩
      obtain ⟨d, hd⟩ : ∃ s, (if x.2.1 = 4 then (⟨#[]⟩ : ByteArray) else x.2.2) = s := ⟨_, rfl⟩
      have HS := hide hs
      have HL := hide hl
      have HD := hide hd
      have HSN := hide (entE_name x s hs)
      have HLN := hide (entE_link x l hl)
      have HDN := hide (entE_data x d hd)
      obtain ⟨z1, hz1⟩ : ∃ z, Hog.recsE (Hog.entE x) = z := ⟨_, rfl⟩
      have HZ1 := hide hz1
      have HZL : Hid (z1.length ≤ 832) := by rw [← hz1]; exact hide (Hog.recsE_len HXF.out)
      have hbr : base ≤ wr.heap.size := Nat.le_trans hbw hbl.size
      have HOKR := hide (HOK.out.step (hbl.mono h0))
      have HBL := hide hbl
      clear hx hs hl hd hz1 hbl
      go_wp2_with fail
      refine (entryOf_ok x s l d _ HS.out HL.out HD.out).mono ?_
      rintro e w2 ⟨rfl, hb2⟩
      have HB2 := hide ((below_box wr _).trans (hb2.mono (by simp)))
      clear hb2
      go_wp2_with fail
      obtain ⟨W, hW⟩ : ∃ W, W = w2.alloc (.cells #[.string s, .int .i64 x.2.1, .string l, .string d] 78) := ⟨_, rfl⟩
      have hbW : Below wr.heap.size wr W := by rw [hW]; exact below_two HB2.out (below_box _ _)
      have e0 : W.cell? ⟨w2.heap.size, 0, none⟩ = some (.string s) := by rw [hW]; simp
      have e1 : W.cell? ⟨w2.heap.size, 1, none⟩ = some (.int .i64 x.2.1) := by rw [hW]; simp
      have e2 : W.cell? ⟨w2.heap.size, 2, none⟩ = some (.string l) := by rw [hW]; simp
      have e3 : W.cell? ⟨w2.heap.size, 3, none⟩ = some (.string d) := by rw [hW]; simp
      have h2W : w2.heap.size < W.heap.size := by rw [hW]; simp
      have HWW : Hid (w2.alloc (.cells #[.string s, .int .i64 x.2.1, .string l, .string d] 78) = W) := hide hW.symm
      have h2g : w2.heap.size ≠ g := by have := HO.out.lt; have := HB2.out.size; omega
      have HVO : Hid ((Value.slice b q c).ownBlock ≠ some w2.heap.size) := hide (fun e => by have := (HO.out.own.lt _ e).2; have := HB2.out.size; omega)
      rw [HWW.out]
      clear hW
      refine (records_ok s l d x.2.1 (Hog.entE x).name (Hog.entE x).link z1 w0 W HP.out (HOKR.out.next hbW) HSN.out HLN.out (by have := HXF.out.name; omega) HXF.out.link HZ1.out).mono ?_
      rintro e w3 ⟨rfl, ok3, hb3⟩
      have HB3 := hide (below_two hbW hb3)
      have i0 := (hb3.cell (p := ⟨w2.heap.size, 0, none⟩) h2W).trans e0
      have i1 := (hb3.cell (p := ⟨w2.heap.size, 1, none⟩) h2W).trans e1
      have i2 := (hb3.cell (p := ⟨w2.heap.size, 2, none⟩) h2W).trans e2
      have i3 := (hb3.cell (p := ⟨w2.heap.size, 3, none⟩) h2W).trans e3
      have HW3 := hide (HO.out.below HB3.out)
      have HOK3 := hide ok3
      have hb3w : base ≤ w3.heap.size := Nat.le_trans hbr HB3.out.size
      have HQL := hide HQ.out.symm
      clear e0 e1 e2 e3 hb3 hbW ok3 HB2 HWW
      obtain ⟨zz, hzz⟩ : ∃ zz, Hog.treeT (t.take (k + 1)) = zz := ⟨_, rfl⟩
      obtain ⟨qq, hqq⟩ : ∃ qq, zz.length = qq := ⟨_, rfl⟩
      have HZZ := hide hzz
      have HQQ := hide hqq
      clear hzz hqq
      by_cases h1 : z1 = []
      · have HE1 : Hid (Hog.treeT (t.take k) ++ Hog.entL (Hog.entE x) = zz) := by rw [← HZZ.out, HST.out, Hog.nodeT_one (by rw [HZ1.out]; exact h1)]; exact hide rfl
        have ht1 := none_text
        rw [h1]
        clear h1
        go_wp2_with fail
        refine (layW_ok g base q qq _ (Hog.treeT (t.take k)) zz s l d x.2.1 (Hog.entE x) w0 w3 HOK3.out HW3.out h0 hbg hb3w HSN.out rfl HLN.out HDN.out HXF.out HQL.out (by omega) HE1.out HQQ.out).mono ?_
        rintro e w4 ⟨rfl, b4, c4, hw4, hr4, ok4⟩
        have HW4 := hide hw4
        have HBL4 := hide ((HBL.out.trans (HB3.out.mono hbr)).trans (hr4.below hbg HW3.out.own hb3w))
        clear hw4 hr4 ok4 i0 i1 i2 i3 ht1
        go_wp2
        go_roundw
        case rel => exact ⟨k + 1, qq, b4, c4, by omega, by go_num, by rw [HZZ.out]; exact hide HQQ.out.symm, by rw [HZZ.out]; exact HW4, HBL4.out⟩
        case measure => simp [intOf]; omega
      · obtain ⟨zp, hzp⟩ : ∃ zp, Hog.treeT (t.take k) ++ Hog.entL (Hog.paxE z1) = zp := ⟨_, rfl⟩
        obtain ⟨qp, hqp⟩ : ∃ qp, zp.length = qp := ⟨_, rfl⟩
        have HPF := hide (Hog.paxE_fits HZL.out)
        have hqp2 : qp ≤ 2000000 := by
          rw [← hqp, ← hzp, List.length_append, ← HQ.out]
          have := Hog.entL_le HPF.out
          omega
        have HZP := hide hzp
        have HQP := hide hqp
        have HE1 : Hid (zp ++ Hog.entL (Hog.entE x) = zz) := by rw [← HZZ.out, HST.out, Hog.nodeT_two (by rw [HZ1.out]; exact h1), HZ1.out, ← HZP.out, List.append_assoc]; exact hide rfl
        have ht1 := some_text h1
        clear h1 hzp hqp
        go_wp2_with fail
        refine (layW_ok g base q qp _ (Hog.treeT (t.take k)) zp ⟨#[112, 97, 120]⟩ ⟨#[]⟩ (Hog.mk z1) 5 (Hog.paxE z1) w0 w3 HOK3.out HW3.out h0 hbg hb3w rfl rfl rfl (Hog.mk_data z1) HPF.out HQL.out (by omega) HZP.out HQP.out).mono ?_
        rintro e w4 ⟨rfl, b4, c4, hw4, hr4, ok4⟩
        have HW4 := hide hw4
        have HBL4 := hide ((HBL.out.trans (HB3.out.mono hbr)).trans (hr4.below hbg HW3.out.own hb3w))
        have HOK4 := hide ok4
        have hb4w : base ≤ w4.heap.size := Nat.le_trans hb3w hr4.size
        have j0 := hr4.cell i0 h2g HVO.out
        have j1 := hr4.cell i1 h2g HVO.out
        have j2 := hr4.cell i2 h2g HVO.out
        have j3 := hr4.cell i3 h2g HVO.out
        clear hw4 hr4 ok4 i0 i1 i2 i3 ht1
        go_wp2_with fail
        refine (layW_ok g base qp qq _ zp zz s l d x.2.1 (Hog.entE x) w0 w4 HOK4.out HW4.out h0 hbg hb4w HSN.out rfl HLN.out HDN.out HXF.out HQP.out (by omega) HE1.out HQQ.out).mono ?_
        rintro e w5 ⟨rfl, b5, c5, hw5, hr5, ok5⟩
        have HW5 := hide hw5
        have HBL5 := hide (HBL4.out.trans (hr5.below hbg HW4.out.own hb4w))
        clear hw5 hr5 ok5 j0 j1 j2 j3
        go_wp2
        go_roundw
        case rel => exact ⟨k + 1, qq, b5, c5, by omega, by go_num, by rw [HZZ.out]; exact hide HQQ.out.symm, by rw [HZZ.out]; exact HW5, HBL5.out⟩
        case measure => simp [intOf]; omega
    · obtain rfl : k = n := by omega
      have he : Hog.treeT (t.take k) = z := by rw [← HN.out, List.take_length]; exact HZ.out
      have hq : q = q0 := by rw [HQ.out, he]; exact HQ0.out
      subst hq
      rw [he] at HO
      clear he
      go_wp2
      go_end0
      exact ⟨rfl, b, c, HO.out, hbl, HOK.out.step (hbl.mono h0)⟩
end Go.Proofs.YtecjkkipglldlaaGreatDoor
