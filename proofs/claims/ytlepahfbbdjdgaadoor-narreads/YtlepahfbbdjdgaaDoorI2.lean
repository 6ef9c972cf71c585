/- The walk of the document's own answer, chapter 5: Lay. -/
import Derived.Test.YtlepahfbbdjdgaaDoorI1
import Derived.Test.YtlepahfbbdjdgaaDoorT3
import Derived.Deep.RegionHeld
namespace Go.Proofs.YtlepahfbbdjdgaaDoor
open Go.RowKit

set_option maxHeartbeats 800000 in
theorem rlay_bad (v : Value) (t : List Nd) (w0 w : World) (h : Ok w0 w) (hn : Nods w v t) (hs : ShortN t) (h4 : t.length ≤ 400) (hv : mayN t = false) :
    Calls Tryd.prog 14 #[v] w fun e w' => e = .returned (.tuple #[.slice none 0 0, .int .i64 7]) ∧ Ok w0 w' ∧ Below w.heap.size w w' := by
  have HN := hide hn
  have HS := hide hs
  have HV := hide hv
  clear hn hs hv
  go_enter Tryd.func14, Tryd.ntmps14
  go_wp2_with fail
  refine (rmayT_ok v t false w0 w h (fun n hn => by have := HS.out.2 n hn; omega) HN.out h4 HV.out).mono ?_
  rintro e w1 ⟨rfl, ok1, hb1⟩
  go_wp2
  go_ret2
  exact ⟨rfl, ok1, hb1⟩

set_option maxRecDepth 100000 in
set_option maxHeartbeats 4000000 in
theorem rlay_good (v : Value) (t : List Nd) (zs : List UInt8) (m : Nat) (w0 w : World) (h : Ok w0 w) (hn : Nods w v t) (hs : ShortN t) (h4 : t.length ≤ 400) (hv : mayN t = true) (hz : layL t = zs) (hm : zs.length = m) :
    Calls Tryd.prog 14 #[v] w fun e w' => ∃ b c, e = .returned (.tuple #[.slice b m c, .int .i64 0]) ∧ OwnB w.heap.size w' (.slice b m c) zs ∧ Ok w0 w' ∧ Below w.heap.size w w' := by
  have hne : t ≠ [] := may_ne hv
  rcases id hn with ⟨e, _⟩ | ⟨bt, ot, ct, rfl, hct, hr⟩
  · exact absurd e hne
  obtain ⟨n, hnt⟩ : ∃ n, n = t.length := ⟨_, rfl⟩
  have HN := hide hn
  have HS := hide hs
  have HV := hide hv
  have HZ := hide hz
  have HM := hide hm
  have HR := hide hr
  have HNT := hide hnt
  have H4 := hide h4
  have hn0 : n ≤ 400 := by rw [hnt]; exact h4
  rw [← hnt] at hct ⊢
  clear hn hs hv hz hm hr hnt hne h4
  obtain ⟨l1, hl1⟩ : ∃ x, x = textL markL := ⟨_, rfl⟩
  have HL1 : Hid (l1.length = 16) := by rw [hl1, textL_len]; exact hide rfl
  obtain ⟨l2, hl2⟩ : ∃ x, x = headL n := ⟨_, rfl⟩
  have HL2 : Hid (l1 ++ numL n = l2) := by rw [hl1, hl2]; exact hide rfl
  have HE2 : Hid (l2.length = 24) := by rw [hl2]; exact hide (headL_len n)
  have HT1 : Hid ([] ++ textL (ByteArray.mk #[110, 97, 114, 45, 49]).data.toList = l1) := by rw [hl1]; exact hide rfl
  have HH := hide hl2
  clear hl1 hl2
  have hbt : bt < w.heap.size := HR.out.1
  go_enter Tryd.func14, Tryd.ntmps14
  go_wp2_with fail
  refine (rmayT_ok _ t true w0 w h (fun n hn => by have := HS.out.2 n hn; omega) (by have h := HN.out; rw [← HNT.out] at h; exact h) H4.out HV.out).mono ?_
  rintro e w1 ⟨rfl, ok1, hb1⟩
  go_wp2_with fail
  refine (rtext_ok none 0 0 [] _ l1 16 w1 (ArgB.nil w1) (by omega) (by decide) HT1.out HL1.out).mono ?_
  rintro e w2 ⟨b2, c2, rfl, ho2, hb2⟩
  have HO2 := hide ho2
  have hbl2 := below_two hb1 hb2
  clear ho2 hb1 hb2
  go_wp2_with fail
  refine (rnum_ok _ 16 _ l1 n l2 w2 HO2.out.argAt.2 (by omega) HL2.out).mono ?_
  rintro e w3 ⟨b3, c3, rfl, ho3, hb3⟩
  have HO3 := hide (ho3.base hbl2.size)
  have hbl3 := below_two hbl2 hb3
  clear ho3 hb3 hbl2
  go_wp2
  go_loopw [4, 5] (fun s i wr => ∃ (k q : Nat) (b : Option Addr) (c : Nat), k ≤ n ∧ i = .int .i64 k ∧ s = .slice b q c ∧ Hid (q = (l2 ++ nodesL (t.take k)).length) ∧ Hid (OwnB w.heap.size wr (.slice b q c) (l2 ++ nodesL (t.take k))) ∧ Below w.heap.size w wr) (fun _ i _ => n - (intOf i).toNat)
  case atStart => exact ⟨0, 24, b3, c3, by omega, rfl, rfl, by simp [Hid, nodesL, HE2.out], by simpa [Hid, nodesL] using HO3.out, hbl3⟩
  case round =>
    obtain ⟨k, q, b, c, hk, rfl, rfl, HQ, HO, hbl⟩ := hrel
    by_cases hlt : k < n
    · obtain ⟨x, hx⟩ : ∃ x, t[k]? = some x := ⟨t[k]'(by have := HNT.out; omega), List.getElem?_eq_some_iff.2 ⟨_, rfl⟩⟩
      obtain ⟨g1, g2, g3⟩ := (HR.out.2 k x hx).below hbl hbt
      have hki : (k : Int) < (n : Int) := by omega
      have HX := hide hx
      have HST := hide (nodesL_step hx)
      have HXS := hide (HS.out.2 x (List.mem_of_getElem? hx))
      clear hx
      obtain ⟨p0, h0⟩ : ∃ p, p = l2 ++ nodesL (t.take k) := ⟨_, rfl⟩
      obtain ⟨p1, h1⟩ : ∃ p, [] ++ textL x.1.data.toList = p := ⟨_, rfl⟩
      obtain ⟨p2, h2⟩ : ∃ p, p1 ++ numL x.2.1 = p := ⟨_, rfl⟩
      obtain ⟨p3, h3⟩ : ∃ p, p2 ++ textL x.2.2.data.toList = p := ⟨_, rfl⟩
      obtain ⟨p4, h4⟩ : ∃ p, p0 ++ p3 = p := ⟨_, rfl⟩
      obtain ⟨q1, hq1⟩ : ∃ q, p1.length = q := ⟨_, rfl⟩
      obtain ⟨q3, hq3⟩ : ∃ q, p3.length = q := ⟨_, rfl⟩
      have hnode : nodeL x = p3 := by rw [← h3, ← h2, ← h1]; rfl
      have hq0 : q ≤ 200100024 := by rw [HQ.out, List.length_append, HE2.out]; have := HS.out.take k; omega
      have hq1' : q1 ≤ 200000 := by rw [← hq1, ← h1, List.nil_append, textL_len, ← Hog.size_len]; have := HXS.out.1; omega
      have hq3' : q3 ≤ 300000 := by rw [← hq3, ← hnode, nodeL_len]; have := HXS.out; omega
      have HP4 : Hid (p4 = l2 ++ nodesL (t.take (k + 1))) := by rw [← h4, h0, HST.out, hnode]; simp [Hid]
      have HL4 : Hid (p4.length = q + q3) := by rw [← h4, List.length_append, hq3, h0, ← HQ.out]; exact hide rfl
      rw [← h0] at HO HQ
      have H1 := hide h1
      have H2 := hide h2
      have H3 := hide h3
      have H4' := hide h4
      have HQ1 := hide hq1
      have HQ3 := hide hq3
      have HL2' : Hid (p2.length = q1 + 8) := by rw [← h2, List.length_append, numL_len, hq1]; exact hide rfl
      clear h0 h1 h2 h3 h4 hq1 hq3 hnode
      have hbw : w.heap.size ≤ wr.heap.size := hbl.size
      have hbr : bt < wr.heap.size := by omega
      have hS0 : Below wr.heap.size wr wr.drew := (Below.refl _ wr).drew
      go_wp2
      refine wp_region_held (S := fun w' => Below wr.heap.size wr w') (by kernel_rfl) ?_
      change wpAnyH _ _ _ _ _ _ _ _ (World.drew _)
      refine wpAnyH_take (i := 0) (v := (.slice (some ⟨bt, ot, none⟩) n ct)) rfl (by kernel_rfl) (by kernel_rfl) (by kernel_rfl) (fun _ _ _ h => h) (Or.inl ⟨by rfl, ?_⟩) hS0 ?_
      · intro w' hw'
        go_simp
      refine wpAnyH_take (i := 1) (v := (.int .i64 k)) rfl (by kernel_rfl) (by kernel_rfl) (by kernel_rfl) (fun _ _ _ h => h) (Or.inl ⟨by rfl, ?_⟩) hS0 ?_
      · intro w' hw'
        go_simp
      refine wpAnyH_take (i := 2) (v := (.pointer (some ⟨bt, ot + k * 3, none⟩))) rfl (by kernel_rfl) (by kernel_rfl) (by kernel_rfl) (fun _ _ _ h => h) (Or.inl ⟨by rfl, ?_⟩) hS0 ?_
      · intro w' hw'
        go_simp
      refine wpAnyH_take (i := 3) (v := (.pointer (some ⟨bt, ot + k * 3, none⟩))) rfl (by kernel_rfl) (by kernel_rfl) (by kernel_rfl) (fun _ _ _ h => h) (Or.inl ⟨by rfl, ?_⟩) hS0 ?_
      · intro w' hw'
        go_simp
      refine wpAnyH_take (i := 4) (v := (.string x.1)) rfl (by kernel_rfl) (by kernel_rfl) (by kernel_rfl) (fun _ _ _ h => h) (Or.inl ⟨by rfl, ?_⟩) hS0 ?_
      · intro w' hw'
        have c1 := hw'.cell (p := ⟨bt, ot + k * 3, none⟩) hbr
        rw [g1] at c1
        go_simp
      refine wpAnyH_take (i := 6) (v := (.slice (some ⟨bt, ot, none⟩) n ct)) rfl (by kernel_rfl) (by kernel_rfl) (by kernel_rfl) (fun _ _ _ h => h) (Or.inl ⟨by rfl, ?_⟩) hS0 ?_
      · intro w' hw'
        go_simp
      refine wpAnyH_take (i := 7) (v := (.int .i64 k)) rfl (by kernel_rfl) (by kernel_rfl) (by kernel_rfl) (fun _ _ _ h => h) (Or.inl ⟨by rfl, ?_⟩) hS0 ?_
      · intro w' hw'
        go_simp
      refine wpAnyH_take (i := 8) (v := (.pointer (some ⟨bt, ot + k * 3, none⟩))) rfl (by kernel_rfl) (by kernel_rfl) (by kernel_rfl) (fun _ _ _ h => h) (Or.inl ⟨by rfl, ?_⟩) hS0 ?_
      · intro w' hw'
        go_simp
      refine wpAnyH_take (i := 9) (v := (.pointer (some ⟨bt, ot + k * 3 + 1, none⟩))) rfl (by kernel_rfl) (by kernel_rfl) (by kernel_rfl) (fun _ _ _ h => h) (Or.inl ⟨by rfl, ?_⟩) hS0 ?_
      · intro w' hw'
        go_simp
      refine wpAnyH_take (i := 10) (v := (.int .i64 x.2.1)) rfl (by kernel_rfl) (by kernel_rfl) (by kernel_rfl) (fun _ _ _ h => h) (Or.inl ⟨by rfl, ?_⟩) hS0 ?_
      · intro w' hw'
        have c1 := hw'.cell (p := ⟨bt, ot + k * 3 + 1, none⟩) hbr
        rw [g2] at c1
        go_simp
      refine wpAnyH_take (i := 12) (v := (.slice (some ⟨bt, ot, none⟩) n ct)) rfl (by kernel_rfl) (by kernel_rfl) (by kernel_rfl) (fun _ _ _ h => h) (Or.inl ⟨by rfl, ?_⟩) hS0 ?_
      · intro w' hw'
        go_simp
      refine wpAnyH_take (i := 13) (v := (.int .i64 k)) rfl (by kernel_rfl) (by kernel_rfl) (by kernel_rfl) (fun _ _ _ h => h) (Or.inl ⟨by rfl, ?_⟩) hS0 ?_
      · intro w' hw'
        go_simp
      refine wpAnyH_take (i := 14) (v := (.pointer (some ⟨bt, ot + k * 3, none⟩))) rfl (by kernel_rfl) (by kernel_rfl) (by kernel_rfl) (fun _ _ _ h => h) (Or.inl ⟨by rfl, ?_⟩) hS0 ?_
      · intro w' hw'
        go_simp
      refine wpAnyH_take (i := 15) (v := (.pointer (some ⟨bt, ot + k * 3 + 2, none⟩))) rfl (by kernel_rfl) (by kernel_rfl) (by kernel_rfl) (fun _ _ _ h => h) (Or.inl ⟨by rfl, ?_⟩) hS0 ?_
      · intro w' hw'
        go_simp
      refine wpAnyH_take (i := 16) (v := (.string x.2.2)) rfl (by kernel_rfl) (by kernel_rfl) (by kernel_rfl) (fun _ _ _ h => h) (Or.inl ⟨by rfl, ?_⟩) hS0 ?_
      · intro w' hw'
        have c1 := hw'.cell (p := ⟨bt, ot + k * 3 + 2, none⟩) hbr
        rw [g3] at c1
        go_simp
      refine wpAnyH_ready (rs := [5]) (by kernel_rfl) (by simp) (AllReadyH.cons rfl (fun K hK => ?_) AllReadyH.nil)
      go_simp
      refine (rtext_ok none 0 0 [] x.1 p1 q1 wr.drew (ArgB.nil _) (by omega) (by have := HXS.out.1; omega) H1.out HQ1.out).mono ?_
      rintro e w4 ⟨b4, c4, rfl, ho4, hb4⟩
      have HO4 := hide ho4
      have hS4 : Below wr.heap.size wr w4 := hS0.trans hb4
      clear ho4 hb4
      refine hK.out _ _ hS4 (fun _ => ?_)
      clear hK K
      refine wpAnyH_ready (rs := [11]) (by kernel_rfl) (by simp) (AllReadyH.cons rfl (fun K hK => ?_) AllReadyH.nil)
      go_simp
      refine (rnum_ok b4 q1 c4 p1 x.2.1 p2 w4 HO4.out.argAt.2 (by omega) H2.out).mono ?_
      rintro e w5 ⟨b5, c5, rfl, ho5, hb5⟩
      have HO5 := hide ho5
      have hS5 : Below wr.heap.size wr w5 := below_two hS4 hb5
      clear ho5 hb5
      refine hK.out _ _ hS5 (fun _ => ?_)
      clear hK K
      refine wpAnyH_ready (rs := [17]) (by kernel_rfl) (by simp) (AllReadyH.cons rfl (fun K hK => ?_) AllReadyH.nil)
      go_simp
      refine (rtext_ok b5 (q1 + 8) c5 p2 x.2.2 p3 q3 w5 HO5.out.argAt.2 (by omega) (by have := HXS.out.2; omega) H3.out HQ3.out).mono ?_
      rintro e w6 ⟨b6, c6, rfl, ho6, hb6⟩
      have HO6 := hide ho6
      have hS6 : Below wr.heap.size wr w6 := below_two hS5 hb6
      clear ho6 hb6
      refine hK.out _ _ hS6 (fun _ => ?_)
      clear hK K
      refine wpAnyH_ready (rs := [18]) (by kernel_rfl) (by simp) (AllReadyH.cons rfl (fun K hK => ?_) AllReadyH.nil)
      go_simp
      refine hK.out _ _ hS6 (fun _ => ?_)
      clear hK K
      refine wpAnyH_done (by kernel_rfl) ?_ _
      have HS6 := hide hS6
      have HOB := hide (HO.out.below hS6)
      have hs6 : w.heap.size ≤ w6.heap.size := by have := hS6.size; omega
      clear hS0 hS4 hS5 hS6
      go_wp2_with (at_builtin; refine wpList_append_bytes rfl _ _ rfl w.heap.size _ p0 rfl HOB.out _ _ _ p3 rfl HO6.out.argAt.2 q HQ.out.symm p4 H4'.out ?c1 hs6 ?_)
      case c1 => omega
      intro b7 c7 w7 ho7 hl7
      have HO7 := hide ho7
      have HB7 := hide ((hbl.trans (HS6.out.mono hbw)).trans (hl7.below HOB.out hs6))
      have HL4' := hide HL4.out.symm
      clear ho7 hl7
      rw [HP4.out] at HO7 HL4'
      go_wp2
      go_roundw
      case rel => exact ⟨k + 1, q + q3, b7, c7, by omega, by go_num, rfl, HL4', HO7, HB7.out⟩
      case measure => simp [intOf]; omega
    · obtain rfl : k = n := by omega
      have e : l2 ++ nodesL (t.take k) = zs := by rw [HNT.out, List.take_length, ← HZ.out, HH.out, HNT.out]; rfl
      have hq : q = m := by rw [HQ.out, e]; exact HM.out
      subst hq
      rw [e] at HO
      clear e
      go_wp2
      go_ret2
      exact ⟨b, c, rfl, HO.out, h.next hbl, hbl⟩
end Go.Proofs.YtlepahfbbdjdgaaDoor
