/- The document's own answer, chapter 13: Lay. -/
import Derived.Test.YtecjkkipglldlaaGreatDoorUB
import Derived.Test.YtecjkkipglldlaaGreatDoorHH
import Derived.Test.YtecjkkipglldlaaGreatDoorT3
import Derived.Test.YtecjkkipglldlaaGreatDoorJ21
namespace Go.Proofs.YtecjkkipglldlaaGreatDoor
open Go.RowKit

theorem treeT_mod {t : List Nd} (h : ∀ n ∈ t, Hog.NodeG n) : (Hog.treeT t).length % 512 = 0 := by
  have h1 := Hog.tarL_mod h
  unfold Hog.tarL at h1
  rw [List.length_append, Hog.zeros_len] at h1
  omega
theorem fill_mod {q m : Nat} (h : q % 512 = 0) : Hog.fillN (q + 512 + m) = Hog.fillN m := by unfold Hog.fillN; omega

set_option maxHeartbeats 800000 in
theorem rtlay_bad (v : Value) (t : List Nd) (w0 w : World) (h : Ok w0 w) (hn : Nods w v t) (hs : ShortT t) (hl : t.length ≤ 400) (hv : mayN t = false) :
    Calls Tryz.prog 25 #[v] w fun e w' => e = .returned (.tuple #[.slice none 0 0, .int .i64 7]) ∧ Ok w0 w' ∧ Below w.heap.size w w' := by
  have HN := hide hn
  have HS := hide hs
  have HV := hide hv
  clear hn hs hv
  go_enter Tryz.func25, Tryz.ntmps25
  go_wp2_with fail
  refine (rmayT_ok v t false w0 w h HS.out.2 HN.out hl HV.out).mono ?_
  rintro e w1 ⟨rfl, ok1, hb1⟩
  go_wp2
  go_ret2
  exact ⟨rfl, ok1, hb1⟩

set_option maxRecDepth 100000 in
set_option maxHeartbeats 16000000 in
theorem rtlay_good (v : Value) (t : List Nd) (z : List UInt8) (m : Nat) (w0 w : World) (h : Ok w0 w) (hn : Nods w v t) (hs : ShortT t) (hv : mayN t = true) (hz : Hog.tarL t = z) (hm : z.length = m) :
    Calls Tryz.prog 25 #[v] w fun e w' => ∃ b c, e = .returned (.tuple #[.slice b m c, .int .i64 0]) ∧ OwnB w.heap.size w' (.slice b m c) z ∧ Ok w0 w' ∧ Below w.heap.size w w' := by
  rcases id hn with ⟨e, _⟩ | ⟨bt, ot, ct, rfl, hct, hr⟩
  · exact absurd e (tree_ne hv)
  obtain ⟨n, hnt⟩ : ∃ n, t.length = n := ⟨_, rfl⟩
  obtain ⟨y, hy⟩ : ∃ y, Hog.treeT t = y := ⟨_, rfl⟩
  obtain ⟨q0, hq0⟩ : ∃ q, y.length = q := ⟨_, rfl⟩
  have HYZ : Hid (y ++ Hog.zeros 1024 = z) := by rw [← hz, ← hy]; exact hide rfl
  have hqm : q0 + 1024 = m := by rw [← hm, ← HYZ.out, List.length_append, Hog.zeros_len, hq0]
  have hml : m ≤ 1300000 := by rw [← hm, ← hz]; exact tarL_le hv
  have hn4 : n ≤ 400 := by rw [← hnt]; exact Hog.tree_len hv
  have HNG := hide (Hog.tree_node hv)
  have HND := hide hn
  have HS := hide hs
  have HV := hide hv
  have HR := hide hr
  have HNT := hide hnt
  have HY := hide hy
  have HQ0 := hide hq0
  have HQM := hide hqm
  have HOK := hide h
  have hbt := hr.1
  rw [hnt] at hct HND ⊢
  clear hn hs hv hr hnt hz hm hy hq0 hqm h
  go_enter Tryz.func25, Tryz.ntmps25
  go_wp2_with fail
  refine (rmayT_ok _ t true w0 w HOK.out HS.out.2 (by have h := HND.out; exact h) (by rw [HNT.out]; exact hn4) HV.out).mono ?_
  rintro e w1 ⟨rfl, ok1, hb1⟩
  have HB1 := hide hb1
  clear hb1
  go_wp2
  go_loopw [4, 5] (fun s i wr => ∃ (k q : Nat) (b : Option Addr) (c : Nat), k ≤ n ∧ i = .int .i64 k ∧ s = .slice b q c ∧ Hid (q = (Hog.treeT (t.take k)).length) ∧ Hid (OwnB w.heap.size wr (.slice b q c) (Hog.treeT (t.take k))) ∧ Below w.heap.size w wr) (fun _ i _ => n - (intOf i).toNat)
  case atStart => exact ⟨0, 0, none, 0, by omega, rfl, rfl, by simp [Hid, Hog.treeT], by simpa [Hid, Hog.treeT] using OwnB.nil w.heap.size w1, HB1.out⟩
  case round =>
    obtain ⟨k, q, b, c, hk, rfl, rfl, HQ, HO, hbl⟩ := hrel
    by_cases hlt : k < n
    · obtain ⟨x, hx⟩ : ∃ x, t[k]? = some x := ⟨t[k]'(by have := HNT.out; omega), List.getElem?_eq_some_iff.2 ⟨_, rfl⟩⟩
      obtain ⟨g1, g2, g3⟩ := (HR.out.2 k x hx).below hbl hbt
      have hki : (k : Int) < (n : Int) := by omega
      have HJW := hide (HR.out.2 k x hx).kind
      have HST := hide (Hog.treeT_step hx)
      have HXG := hide (HNG.out x (List.mem_of_getElem? hx))
      have HXF := hide (Hog.entE_fits HXG.out)
      have hq1 : q ≤ 1228800 := by rw [HQ.out]; exact Hog.treeT_le HNG.out (by rw [HNT.out]; exact hn4) k
      have HQ5 : Hid (q % 512 = 0) := by rw [HQ.out]; exact hide (treeT_mod (fun n hn => HNG.out n (List.mem_of_mem_take hn)))
      obtain ⟨lk, hlk⟩ : ∃ l, Hog.treeT (t.take k) = l := ⟨_, rfl⟩
      rw [hlk] at HQ HO
      have HLK := hide hlk
      have HQL := hide HQ.out.symm
      obtain ⟨s, hs⟩ : ∃ s, (if x.1.data.toList = [] then (⟨#[46]⟩ : ByteArray) else x.1) = s := ⟨_, rfl⟩
      obtain ⟨l, hl⟩ : ∃ s, (if x.2.1 = 4 then x.2.2 else (⟨#[]⟩ : ByteArray)) = s := ⟨_, rfl⟩
      obtain ⟨d, hd⟩ : ∃ s, (if x.2.1 = 4 then (⟨#[]⟩ : ByteArray) else x.2.2) = s := ⟨_, rfl⟩
      have HS' := hide hs
      have HL' := hide hl
      have HD' := hide hd
      have HSN := hide (entE_name x s hs)
      have HLN := hide (entE_link x l hl)
      have HDN := hide (entE_data x d hd)
      have hds : d.size = (Hog.entE x).data.length := by rw [← HDN.out, Hog.size_len]
      have hd1 : d.size ≤ 1000 := by rw [hds]; exact HXF.out.data
      obtain ⟨z1, hz1⟩ : ∃ z, Hog.recsE (Hog.entE x) = z := ⟨_, rfl⟩
      have HZ1 := hide hz1
      have hzl : (Hog.mk z1).size ≤ 832 := by rw [Hog.mk_size, ← hz1]; exact Hog.recsE_len HXF.out
      obtain ⟨x1, hx1⟩ : ∃ y, (Hog.entE x).name.take 100 = y := ⟨_, rfl⟩
      obtain ⟨x2, hx2⟩ : ∃ y, (Hog.entE x).link.take 100 = y := ⟨_, rfl⟩
      obtain ⟨hh, hhh⟩ : ∃ y, Hog.headE (Hog.entE x) = y := ⟨_, rfl⟩
      have HMAY : Hid (Hog.May x1 x.2.1 d.size x2) := by rw [hds, ← hx1, ← hx2]; exact hide HXF.out.may
      have HHE : Hid (Hog.headH x1 x.2.1 d.size x2 = hh) := by rw [hds, ← hx1, ← hx2, ← hhh]; exact hide rfl
      have HHL : Hid (hh.length = 512) := by rw [← hhh]; exact hide (Hog.headE_len HXF.out)
      obtain ⟨f, hff⟩ : ∃ y, Hog.fillN d.size = y := ⟨_, rfl⟩
      have hf5 : f < 512 := by rw [← hff]; exact Hog.fillN_lt _
      have HFF := hide hff
      have HEN : Hid (Hog.entL (Hog.entE x) = hh ++ (d.data.toList ++ Hog.zeros f)) := by rw [← hff, hds, ← hhh, HDN.out]; exact hide rfl
      have HX1 := hide hx1
      have HX2 := hide hx2
      have hbr : w.heap.size ≤ wr.heap.size := hbl.size
      have HBL := hide hbl
      clear hx hs hl hd hz1 hbl hlk hds hx1 hx2 hhh hff
      go_wp2_with fail
      refine (rparts_ok x s l d z1 wr HS'.out HL'.out HD'.out HXF.out HZ1.out).mono ?_
      rintro e w2 ⟨rfl, hb2⟩
      have j2 : w2.cell? ⟨bt, ot + k * 3 + 1, none⟩ = some (.int .i64 x.2.1) := (hb2.cell (p := ⟨bt, ot + k * 3 + 1, none⟩) (Nat.lt_of_lt_of_le hbt hbr)).trans g2
      have HB2 := hide (HBL.out.trans (hb2.mono hbr))
      have HO2 := hide (HO.out.below hb2)
      have hbr2 : w.heap.size ≤ w2.heap.size := HB2.out.size
      clear hb2 HO HBL g1 g2 g3
      obtain ⟨zz, hzz⟩ : ∃ zz, Hog.treeT (t.take (k + 1)) = zz := ⟨_, rfl⟩
      have HZZ := hide hzz
      clear hzz
      by_cases h1 : z1 = []
      · have HN1 : Hid (zz = lk ++ (hh ++ (d.data.toList ++ Hog.zeros f))) := by rw [← HZZ.out, HST.out, Hog.nodeT_one (by rw [HZ1.out]; exact h1), HLK.out, HEN.out]; exact hide rfl
        have ht1 := none_text
        rw [h1]
        clear h1
        have jk := j2
        have HBW := HB2
        have hbw := hbr2
        clear j2
        have hS0 : Below w2.heap.size w2 w2.drew := (Below.refl _ w2).drew
        have hltw : bt < w2.heap.size := Nat.lt_of_lt_of_le hbt hbw
        have HOKW := hide (HOK.out.next HBW.out)
        go_wp2_with fail
        refine wp_region_held (S := fun w' => Below w2.heap.size w2 w') (by kernel_rfl) ?_
        change wpAnyH _ _ _ _ _ _ _ _ (World.drew _)
        refine wpAnyH_take (i := 0) (v := (.string s)) rfl (by kernel_rfl) (by kernel_rfl) (by kernel_rfl) (fun _ _ _ h => h) (Or.inl ⟨by kernel_rfl, ?_⟩) hS0 ?_
        · intro w' hw'
          go_simp
        refine wpAnyH_take (i := 2) (v := (.slice (some ⟨bt, ot, none⟩) n ct)) rfl (by kernel_rfl) (by kernel_rfl) (by kernel_rfl) (fun _ _ _ h => h) (Or.inl ⟨by kernel_rfl, ?_⟩) hS0 ?_
        · intro w' hw'
          go_simp
        refine wpAnyH_take (i := 3) (v := (.int .i64 k)) rfl (by kernel_rfl) (by kernel_rfl) (by kernel_rfl) (fun _ _ _ h => h) (Or.inl ⟨by kernel_rfl, ?_⟩) hS0 ?_
        · intro w' hw'
          go_simp
        refine wpAnyH_take (i := 4) (v := (.pointer (some ⟨bt, ot + k * 3, none⟩))) rfl (by kernel_rfl) (by kernel_rfl) (by kernel_rfl) (fun _ _ _ h => h) (Or.inl ⟨by kernel_rfl, ?_⟩) hS0 ?_
        · intro w' hw'
          go_simp
        refine wpAnyH_take (i := 5) (v := (.pointer (some ⟨bt, ot + k * 3 + 1, none⟩))) rfl (by kernel_rfl) (by kernel_rfl) (by kernel_rfl) (fun _ _ _ h => h) (Or.inl ⟨by kernel_rfl, ?_⟩) hS0 ?_
        · intro w' hw'
          go_simp
        refine wpAnyH_take (i := 6) (v := (.int .i64 x.2.1)) rfl (by kernel_rfl) (by kernel_rfl) (by kernel_rfl) (fun _ _ _ h => h) (Or.inl ⟨by kernel_rfl, ?_⟩) hS0 ?_
        · intro w' hw'
          have y := (hw'.cell (p := ⟨bt, ot + k * 3 + 1, none⟩) hltw).trans jk
          go_simp
        refine wpAnyH_take (i := 7) (v := (.string d)) rfl (by kernel_rfl) (by kernel_rfl) (by kernel_rfl) (fun _ _ _ h => h) (Or.inl ⟨by kernel_rfl, ?_⟩) hS0 ?_
        · intro w' hw'
          go_simp
        refine wpAnyH_take (i := 8) (v := (.int .i64 d.size)) rfl (by kernel_rfl) (by kernel_rfl) (by kernel_rfl) (fun _ _ _ h => h) (Or.inl ⟨by kernel_rfl, ?_⟩) hS0 ?_
        · intro w' hw'
          go_simp
        refine wpAnyH_take (i := 9) (v := (.string l)) rfl (by kernel_rfl) (by kernel_rfl) (by kernel_rfl) (fun _ _ _ h => h) (Or.inl ⟨by kernel_rfl, ?_⟩) hS0 ?_
        · intro w' hw'
          go_simp
        refine wpAnyH_ready (rs := [1]) (by kernel_rfl) (by simp) (AllReadyH.cons rfl (fun K hK => ?_) AllReadyH.nil)
        go_simp
        refine (show Calls _ _ _ _ _ from rcutT_ok s (Hog.entE x).name x1 _ HSN.out HX1.out).mono ?_
        rintro e _ ⟨rfl, rfl⟩
        go_simp
        refine hK.out _ _ hS0 (fun _ => ?_)
        clear hK K
        refine wpAnyH_ready (rs := [10]) (by kernel_rfl) (by simp) (AllReadyH.cons rfl (fun K hK => ?_) AllReadyH.nil)
        go_simp
        refine (show Calls _ _ _ _ _ from rcutT_ok l (Hog.entE x).link x2 _ HLN.out HX2.out).mono ?_
        rintro e _ ⟨rfl, rfl⟩
        go_simp
        refine hK.out _ _ hS0 (fun _ => ?_)
        clear hK K
        refine wpAnyH_ready (rs := [11]) (by kernel_rfl) (by simp) (AllReadyH.cons rfl (fun K hK => ?_) AllReadyH.nil)
        go_simp
        refine (show Calls _ _ _ _ _ from rlay_good (Hog.mk x1) (Hog.mk x2) x1 x2 x.2.1 d.size w0 w2.drew (HOKW.out.next hS0) (Hog.mk_data x1) (Hog.mk_data x2) HMAY.out).mono ?_
        rintro e wa ⟨G, rfl, hG, hrow, oka, hba⟩
        have hS1 : Below w2.heap.size w2 wa := below_two hS0 hba
        go_simp
        refine hK.out _ _ hS1 (fun _ => ?_)
        clear hK K
        refine wpAnyH_take (i := 12) (v := (.tuple #[.slice (some ⟨G, 0, none⟩) 512 512, .bool true])) rfl (by kernel_rfl) (by kernel_rfl) (by kernel_rfl) (fun _ _ _ h => h) (Or.inl ⟨by kernel_rfl, ?_⟩) hS1 ?_
        · intro w' hw'
          go_simp
        refine wpAnyH_take (i := 13) (v := (.slice (some ⟨G, 0, none⟩) 512 512)) rfl (by kernel_rfl) (by kernel_rfl) (by kernel_rfl) (fun _ _ _ h => h) (Or.inl ⟨by kernel_rfl, ?_⟩) hS1 ?_
        · intro w' hw'
          go_simp
        refine wpAnyH_take (i := 15) (v := (.slice (some ⟨G, 0, none⟩) 512 512)) rfl (by kernel_rfl) (by kernel_rfl) (by kernel_rfl) (fun _ _ _ h => h) (Or.inl ⟨by kernel_rfl, ?_⟩) hS1 ?_
        · intro w' hw'
          go_simp
        refine wpAnyH_take (i := 14) (v := (.bool true)) rfl (by kernel_rfl) (by kernel_rfl) (by kernel_rfl) (fun _ _ _ h => h) (Or.inl ⟨by kernel_rfl, ?_⟩) hS1 ?_
        · intro w' hw'
          go_simp
        refine wpAnyH_take (i := 16) (v := (.bool true)) rfl (by kernel_rfl) (by kernel_rfl) (by kernel_rfl) (fun _ _ _ h => h) (Or.inl ⟨by kernel_rfl, ?_⟩) hS1 ?_
        · intro w' hw'
          go_simp
        refine wpAnyH_done (by kernel_rfl) ?_ _
        rw [HHE.out] at hrow
        have HRA := hide hrow
        have HOA := hide (HO2.out.below hS1)
        have HBA := hide (HBW.out.trans (hS1.mono hbw))
        have hba' : w.heap.size ≤ wa.heap.size := HBA.out.size
        clear hS0 hS1 hba hrow oka hG hltw jk
        obtain ⟨e1, he1⟩ : ∃ y, lk ++ hh = y := ⟨_, rfl⟩
        obtain ⟨e2, he2⟩ : ∃ y, e1 ++ (d).data.toList = y := ⟨_, rfl⟩
        have HE1 := hide he1
        have HE2 := hide he2
        have HE1L : Hid (e1.length = q + 512) := by rw [← he1, List.length_append, HHL.out, HQL.out]; exact hide rfl
        have HE2L : Hid (e2.length = q + 512 + d.size) := by rw [← he2, List.length_append, HE1L.out, ← Hog.size_len]; exact hide rfl
        clear he1 he2
        go_wp2_with (at_builtin; refine wpList_append_bytes rfl _ _ rfl w.heap.size _ lk rfl HOA.out _ 512 512 hh rfl (HRA.out.arg HHL.out (Nat.le_refl _)) q HQL.out e1 HE1.out ?b1 hba' ?_)
        case b1 => omega
        intro b3 c3 w3 ho3 hl3
        have HO3 := hide ho3
        have HL3 := hide hl3
        have hb3 : w.heap.size ≤ w3.heap.size := Nat.le_trans hba' hl3.size
        clear ho3 hl3
        go_wp2_with (at_builtin; refine wpList_append_str rfl _ _ rfl w.heap.size _ e1 rfl HO3.out (d) rfl (q + 512) (d.size) HE1L.out rfl e2 HE2.out ?b2 hb3 ?_)
        case b2 => omega
        intro b4 c4 w4 ho4 hl4
        have HO4 := hide ho4
        have HL4 := hide (HL3.out.trans hl4)
        have hb4 : w.heap.size ≤ w4.heap.size := Nat.le_trans hb3 hl4.size
        clear ho4 hl4
        go_wp2_with fail
        refine (rpad_ok w.heap.size (q + 512 + d.size) f _ e2 w4 HO4.out HE2L.out (by omega) hb4 (by rw [fill_mod HQ5.out]; exact HFF.out)).mono ?_
        rintro e w5 ⟨b5, c5, rfl, ho5, hl5⟩
        have HO5 := hide ho5
        have HB5 := hide (HBA.out.trans ((HL4.out.trans hl5).below HOA.out hba'))
        clear ho5 hl5 HO3 HL3 HO4 HL4 hb3 hb4
        go_wp2
        go_roundw
        case rel =>
          have hE : e2 ++ Hog.zeros f = zz := by rw [HN1.out, ← HE2.out, ← HE1.out]; simp only [List.append_assoc]
          rw [hE] at HO5
          refine ⟨k + 1, q + 512 + d.size + f, b5, c5, by omega, by go_num, rfl, ?_, ?_, HB5.out⟩
          · rw [HZZ.out, ← hE, List.length_append, HE2L.out, Hog.zeros_len]; exact hide rfl
          · rw [HZZ.out]; exact HO5
        case measure => simp [intOf]; omega
      · obtain ⟨hp, hhp⟩ : ∃ y, Hog.headE (Hog.paxE z1) = y := ⟨_, rfl⟩
        obtain ⟨fp, hfp⟩ : ∃ y, Hog.fillN (Hog.mk z1).size = y := ⟨_, rfl⟩
        have HPF := hide (Hog.paxE_fits (m := z1) (by rw [Hog.mk_size] at hzl; exact hzl))
        have HPL : Hid (hp.length = 512) := by rw [← hhp]; exact hide (Hog.headE_len HPF.out)
        have HPM : Hid (Hog.May Hog.paxN 5 ((Hog.mk z1).size : Int) []) := by rw [Hog.mk_size]; exact hide HPF.out.may
        have HPE : Hid (Hog.headH Hog.paxN 5 ((Hog.mk z1).size : Int) [] = hp) := by rw [Hog.mk_size, ← hhp]; exact hide rfl
        have hfp5 : fp < 512 := by rw [← hfp]; exact Hog.fillN_lt _
        have HFP := hide hfp
        have HPN : Hid (Hog.entL (Hog.paxE z1) = hp ++ (z1 ++ Hog.zeros fp)) := by rw [← hfp, Hog.mk_size, ← hhp]; exact hide rfl
        have HN1 : Hid (zz = lk ++ ((hp ++ (z1 ++ Hog.zeros fp)) ++ (hh ++ (d.data.toList ++ Hog.zeros f)))) := by rw [← HZZ.out, HST.out, Hog.nodeT_two (by rw [HZ1.out]; exact h1), HLK.out, HEN.out, HZ1.out, HPN.out]; exact hide rfl
        have HMD : Hid ((Hog.mk z1).data.toList = z1) := hide (Hog.mk_data z1)
        have ht1 := some_text h1
        obtain ⟨sz1, hsz1⟩ : ∃ y, Hog.mk z1 = y := ⟨_, rfl⟩
        rw [hsz1] at hzl HPM HPE HFP HMD ht1
        rw [hsz1]
        clear h1 hhp hfp hsz1
        go_wp2_with fail
        refine (rlay_good ⟨#[112, 97, 120]⟩ ⟨#[]⟩ Hog.paxN [] 5 sz1.size w0 w2 (HOK.out.next HB2.out) rfl rfl HPM.out).mono ?_
        rintro e wp ⟨Gp, rfl, hGp, hrowp, okp, hbp⟩
        rw [HPE.out] at hrowp
        have HRP := hide hrowp
        have HOP := hide (HO2.out.below hbp)
        have HBP := hide (HB2.out.trans (hbp.mono hbr2))
        have hbp' : w.heap.size ≤ wp.heap.size := HBP.out.size
        clear hrowp okp hbp hGp j2 HO2
        obtain ⟨e1, he1⟩ : ∃ y, lk ++ hp = y := ⟨_, rfl⟩
        obtain ⟨e2, he2⟩ : ∃ y, e1 ++ (sz1).data.toList = y := ⟨_, rfl⟩
        have HE1 := hide he1
        have HE2 := hide he2
        have HE1L : Hid (e1.length = q + 512) := by rw [← he1, List.length_append, HPL.out, HQL.out]; exact hide rfl
        have HE2L : Hid (e2.length = q + 512 + sz1.size) := by rw [← he2, List.length_append, HE1L.out, ← Hog.size_len]; exact hide rfl
        clear he1 he2
        go_wp2_with (at_builtin; refine wpList_append_bytes rfl _ _ rfl w.heap.size _ lk rfl HOP.out _ 512 512 hp rfl (HRP.out.arg HPL.out (Nat.le_refl _)) q HQL.out e1 HE1.out ?b1 hbp' ?_)
        case b1 => omega
        intro b3 c3 w3 ho3 hl3
        have HO3 := hide ho3
        have HL3 := hide hl3
        have hb3 : w.heap.size ≤ w3.heap.size := Nat.le_trans hbp' hl3.size
        clear ho3 hl3
        go_wp2_with (at_builtin; refine wpList_append_str rfl _ _ rfl w.heap.size _ e1 rfl HO3.out (sz1) rfl (q + 512) (sz1.size) HE1L.out rfl e2 HE2.out ?b2 hb3 ?_)
        case b2 => omega
        intro b4 c4 w4 ho4 hl4
        have HO4 := hide ho4
        have HL4 := hide (HL3.out.trans hl4)
        have hb4 : w.heap.size ≤ w4.heap.size := Nat.le_trans hb3 hl4.size
        clear ho4 hl4
        go_wp2_with fail
        refine (rpad_ok w.heap.size (q + 512 + sz1.size) fp _ e2 w4 HO4.out HE2L.out (by omega) hb4 (by rw [fill_mod HQ5.out]; exact HFP.out)).mono ?_
        rintro e w5 ⟨b5, c5, rfl, ho5, hl5⟩
        have HO5 := hide ho5
        have HB5 := hide (HBP.out.trans ((HL4.out.trans hl5).below HOP.out hbp'))
        clear ho5 hl5 HO3 HL3 HO4 HL4 hb3 hb4
        obtain ⟨lp, hlp⟩ : ∃ y, e2 ++ Hog.zeros fp = y := ⟨_, rfl⟩
        obtain ⟨qp, hqp⟩ : ∃ y, q + 512 + sz1.size + fp = y := ⟨_, rfl⟩
        have HLP : Hid (lp = lk ++ (hp ++ (z1 ++ Hog.zeros fp))) := by rw [← hlp, ← HE2.out, ← HE1.out, HMD.out]; exact hide (by simp only [List.append_assoc])
        have HQL : Hid (lp.length = qp) := by rw [← hlp, List.length_append, HE2L.out, Hog.zeros_len, hqp]; exact hide rfl
        have HQ5 : Hid (qp % 512 = 0) := by rw [← hqp, ← HFP.out]; have := HQ5.out; unfold Hog.fillN; exact hide (by omega)
        have hqp2 : qp ≤ 1300000 := by omega
        have HN1 : Hid (zz = lp ++ (hh ++ (d.data.toList ++ Hog.zeros f))) := by rw [HN1.out, HLP.out]; exact hide (by simp only [List.append_assoc])
        rw [hlp] at HO5
        rw [hqp] at HO5
        rw [hqp]
        have jk : w5.cell? ⟨bt, ot + k * 3 + 1, none⟩ = some (.int .i64 x.2.1) := (HB5.out.cell (p := ⟨bt, ot + k * 3 + 1, none⟩) hbt).trans HJW.out
        have HBW := HB5
        have hbw : w.heap.size ≤ w5.heap.size := HB5.out.size
        have HOX := HO5
        clear hlp hqp HO5 HB5 HE1 HE2 HE1L HE2L HOP HRP HBP hbp' ht1
        have hS0 : Below w5.heap.size w5 w5.drew := (Below.refl _ w5).drew
        have hltw : bt < w5.heap.size := Nat.lt_of_lt_of_le hbt hbw
        have HOKW := hide (HOK.out.next HBW.out)
        go_wp2_with fail
        refine wp_region_held (S := fun w' => Below w5.heap.size w5 w') (by kernel_rfl) ?_
        change wpAnyH _ _ _ _ _ _ _ _ (World.drew _)
        refine wpAnyH_take (i := 0) (v := (.string s)) rfl (by kernel_rfl) (by kernel_rfl) (by kernel_rfl) (fun _ _ _ h => h) (Or.inl ⟨by kernel_rfl, ?_⟩) hS0 ?_
        · intro w' hw'
          go_simp
        refine wpAnyH_take (i := 2) (v := (.slice (some ⟨bt, ot, none⟩) n ct)) rfl (by kernel_rfl) (by kernel_rfl) (by kernel_rfl) (fun _ _ _ h => h) (Or.inl ⟨by kernel_rfl, ?_⟩) hS0 ?_
        · intro w' hw'
          go_simp
        refine wpAnyH_take (i := 3) (v := (.int .i64 k)) rfl (by kernel_rfl) (by kernel_rfl) (by kernel_rfl) (fun _ _ _ h => h) (Or.inl ⟨by kernel_rfl, ?_⟩) hS0 ?_
        · intro w' hw'
          go_simp
        refine wpAnyH_take (i := 4) (v := (.pointer (some ⟨bt, ot + k * 3, none⟩))) rfl (by kernel_rfl) (by kernel_rfl) (by kernel_rfl) (fun _ _ _ h => h) (Or.inl ⟨by kernel_rfl, ?_⟩) hS0 ?_
        · intro w' hw'
          go_simp
        refine wpAnyH_take (i := 5) (v := (.pointer (some ⟨bt, ot + k * 3 + 1, none⟩))) rfl (by kernel_rfl) (by kernel_rfl) (by kernel_rfl) (fun _ _ _ h => h) (Or.inl ⟨by kernel_rfl, ?_⟩) hS0 ?_
        · intro w' hw'
          go_simp
        refine wpAnyH_take (i := 6) (v := (.int .i64 x.2.1)) rfl (by kernel_rfl) (by kernel_rfl) (by kernel_rfl) (fun _ _ _ h => h) (Or.inl ⟨by kernel_rfl, ?_⟩) hS0 ?_
        · intro w' hw'
          have y := (hw'.cell (p := ⟨bt, ot + k * 3 + 1, none⟩) hltw).trans jk
          go_simp
        refine wpAnyH_take (i := 7) (v := (.string d)) rfl (by kernel_rfl) (by kernel_rfl) (by kernel_rfl) (fun _ _ _ h => h) (Or.inl ⟨by kernel_rfl, ?_⟩) hS0 ?_
        · intro w' hw'
          go_simp
        refine wpAnyH_take (i := 8) (v := (.int .i64 d.size)) rfl (by kernel_rfl) (by kernel_rfl) (by kernel_rfl) (fun _ _ _ h => h) (Or.inl ⟨by kernel_rfl, ?_⟩) hS0 ?_
        · intro w' hw'
          go_simp
        refine wpAnyH_take (i := 9) (v := (.string l)) rfl (by kernel_rfl) (by kernel_rfl) (by kernel_rfl) (fun _ _ _ h => h) (Or.inl ⟨by kernel_rfl, ?_⟩) hS0 ?_
        · intro w' hw'
          go_simp
        refine wpAnyH_ready (rs := [1]) (by kernel_rfl) (by simp) (AllReadyH.cons rfl (fun K hK => ?_) AllReadyH.nil)
        go_simp
        refine (show Calls _ _ _ _ _ from rcutT_ok s (Hog.entE x).name x1 _ HSN.out HX1.out).mono ?_
        rintro e _ ⟨rfl, rfl⟩
        go_simp
        refine hK.out _ _ hS0 (fun _ => ?_)
        clear hK K
        refine wpAnyH_ready (rs := [10]) (by kernel_rfl) (by simp) (AllReadyH.cons rfl (fun K hK => ?_) AllReadyH.nil)
        go_simp
        refine (show Calls _ _ _ _ _ from rcutT_ok l (Hog.entE x).link x2 _ HLN.out HX2.out).mono ?_
        rintro e _ ⟨rfl, rfl⟩
        go_simp
        refine hK.out _ _ hS0 (fun _ => ?_)
        clear hK K
        refine wpAnyH_ready (rs := [11]) (by kernel_rfl) (by simp) (AllReadyH.cons rfl (fun K hK => ?_) AllReadyH.nil)
        go_simp
        refine (show Calls _ _ _ _ _ from rlay_good (Hog.mk x1) (Hog.mk x2) x1 x2 x.2.1 d.size w0 w5.drew (HOKW.out.next hS0) (Hog.mk_data x1) (Hog.mk_data x2) HMAY.out).mono ?_
        rintro e wa ⟨G, rfl, hG, hrow, oka, hba⟩
        have hS1 : Below w5.heap.size w5 wa := below_two hS0 hba
        go_simp
        refine hK.out _ _ hS1 (fun _ => ?_)
        clear hK K
        refine wpAnyH_take (i := 12) (v := (.tuple #[.slice (some ⟨G, 0, none⟩) 512 512, .bool true])) rfl (by kernel_rfl) (by kernel_rfl) (by kernel_rfl) (fun _ _ _ h => h) (Or.inl ⟨by kernel_rfl, ?_⟩) hS1 ?_
        · intro w' hw'
          go_simp
        refine wpAnyH_take (i := 13) (v := (.slice (some ⟨G, 0, none⟩) 512 512)) rfl (by kernel_rfl) (by kernel_rfl) (by kernel_rfl) (fun _ _ _ h => h) (Or.inl ⟨by kernel_rfl, ?_⟩) hS1 ?_
        · intro w' hw'
          go_simp
        refine wpAnyH_take (i := 15) (v := (.slice (some ⟨G, 0, none⟩) 512 512)) rfl (by kernel_rfl) (by kernel_rfl) (by kernel_rfl) (fun _ _ _ h => h) (Or.inl ⟨by kernel_rfl, ?_⟩) hS1 ?_
        · intro w' hw'
          go_simp
        refine wpAnyH_take (i := 14) (v := (.bool true)) rfl (by kernel_rfl) (by kernel_rfl) (by kernel_rfl) (fun _ _ _ h => h) (Or.inl ⟨by kernel_rfl, ?_⟩) hS1 ?_
        · intro w' hw'
          go_simp
        refine wpAnyH_take (i := 16) (v := (.bool true)) rfl (by kernel_rfl) (by kernel_rfl) (by kernel_rfl) (fun _ _ _ h => h) (Or.inl ⟨by kernel_rfl, ?_⟩) hS1 ?_
        · intro w' hw'
          go_simp
        refine wpAnyH_done (by kernel_rfl) ?_ _
        rw [HHE.out] at hrow
        have HRA := hide hrow
        have HOA := hide (HOX.out.below hS1)
        have HBA := hide (HBW.out.trans (hS1.mono hbw))
        have hba' : w.heap.size ≤ wa.heap.size := HBA.out.size
        clear hS0 hS1 hba hrow oka hG hltw jk
        obtain ⟨e1, he1⟩ : ∃ y, lp ++ hh = y := ⟨_, rfl⟩
        obtain ⟨e2, he2⟩ : ∃ y, e1 ++ (d).data.toList = y := ⟨_, rfl⟩
        have HE1 := hide he1
        have HE2 := hide he2
        have HE1L : Hid (e1.length = qp + 512) := by rw [← he1, List.length_append, HHL.out, HQL.out]; exact hide rfl
        have HE2L : Hid (e2.length = qp + 512 + d.size) := by rw [← he2, List.length_append, HE1L.out, ← Hog.size_len]; exact hide rfl
        clear he1 he2
        go_wp2_with (at_builtin; refine wpList_append_bytes rfl _ _ rfl w.heap.size _ lp rfl HOA.out _ 512 512 hh rfl (HRA.out.arg HHL.out (Nat.le_refl _)) qp HQL.out e1 HE1.out ?b1 hba' ?_)
        case b1 => omega
        intro b3 c3 w3 ho3 hl3
        have HO3 := hide ho3
        have HL3 := hide hl3
        have hb3 : w.heap.size ≤ w3.heap.size := Nat.le_trans hba' hl3.size
        clear ho3 hl3
        go_wp2_with (at_builtin; refine wpList_append_str rfl _ _ rfl w.heap.size _ e1 rfl HO3.out (d) rfl (qp + 512) (d.size) HE1L.out rfl e2 HE2.out ?b2 hb3 ?_)
        case b2 => omega
        intro b4 c4 w4 ho4 hl4
        have HO4 := hide ho4
        have HL4 := hide (HL3.out.trans hl4)
        have hb4 : w.heap.size ≤ w4.heap.size := Nat.le_trans hb3 hl4.size
        clear ho4 hl4
        go_wp2_with fail
        refine (rpad_ok w.heap.size (qp + 512 + d.size) f _ e2 w4 HO4.out HE2L.out (by omega) hb4 (by rw [fill_mod HQ5.out]; exact HFF.out)).mono ?_
        rintro e w6 ⟨b5, c5, rfl, ho5, hl5⟩
        have HO5 := hide ho5
        have HB5 := hide (HBA.out.trans ((HL4.out.trans hl5).below HOA.out hba'))
        clear ho5 hl5 HO3 HL3 HO4 HL4 hb3 hb4
        go_wp2
        go_roundw
        case rel =>
          have hE : e2 ++ Hog.zeros f = zz := by rw [HN1.out, ← HE2.out, ← HE1.out]; simp only [List.append_assoc]
          rw [hE] at HO5
          refine ⟨k + 1, qp + 512 + d.size + f, b5, c5, by omega, by go_num, rfl, ?_, ?_, HB5.out⟩
          · rw [HZZ.out, ← hE, List.length_append, HE2L.out, Hog.zeros_len]; exact hide rfl
          · rw [HZZ.out]; exact HO5
        case measure => simp [intOf]; omega
    · obtain rfl : k = n := by omega
      have he : Hog.treeT (t.take k) = y := by rw [← HNT.out, List.take_length]; exact HY.out
      have hq : q = q0 := by rw [HQ.out, he]; exact HQ0.out
      subst hq
      rw [he] at HO
      have hbr : w.heap.size ≤ wr.heap.size := hbl.size
      have HBL := hide hbl
      have hq9 : q ≤ 1300000 := by have := HQM.out; omega
      clear he hbl
      go_wp2_with (at_builtin; refine wpList_append_zeros rfl _ _ rfl w.heap.size _ y rfl HO.out 1024 rfl q HQ0.out z HYZ.out ?b1 hbr ?_)
      case b1 => omega
      intro b3 c3 w3 ho3 hl3
      have HO3 := hide ho3
      have HB3 := hide (HBL.out.trans (hl3.below HO.out hbr))
      rw [HQM.out] at HO3 ⊢
      clear ho3 hl3
      go_wp2
      go_ret2
      exact ⟨b3, c3, rfl, HO3.out, HOK.out.next HB3.out, HB3.out⟩
end Go.Proofs.YtecjkkipglldlaaGreatDoor
