/- The walks of package nar: Num, Text, Lay. -/
import Derived.Test.YtlepahfbbdjdgaaDoorB2
import Derived.Test.YtlepahfbbdjdgaaDoorJ6
namespace Go.Proofs.YtlepahfbbdjdgaaDoor
open Go.RowKit

theorem OwnB.empty (base : Nat) (w : World) (hb : base ≤ w.heap.size) : OwnB base (w.alloc (.cells #[] 5)) (.slice (some ⟨w.heap.size, 0, none⟩) 0 0) [] :=
  ⟨rfl, .inr ⟨w.heap.size, 0, #[], rfl, hb, heap_alloc_new w _, Nat.le_refl _, by unfold maxLen; omega, rfl, rfl⟩⟩
set_option maxRecDepth 100000 in
set_option maxHeartbeats 800000 in
theorem cloneB_ok (ao : Option Addr) (n c : Nat) (l : List UInt8) (w : World) (h : ArgB w ao n c l) (hn : n < 900000) :
    Calls Tryd.prog 27 #[.slice ao n c] w fun e w' => ∃ b d, e = .returned (.slice b n d) ∧ OwnB w.heap.size w' (.slice b n d) l ∧ Below w.heap.size w w' := by
  cases ao with
  | none =>
    obtain ⟨rfl, rfl⟩ := h.none rfl
    have hy : l = [] := List.eq_nil_of_length_eq_zero h.len
    subst hy
    have hq := fun w => eql_slice_none _ _ 0 0 w Tryd.underlying22
    go_enter Tryd.func27, Tryd.ntmps27
    go_wp2
    go_ret
    exact ⟨_, _, rfl, OwnB.nil _ _, Below.refl _ _⟩
  | some ad =>
    have HA := hide h
    clear h
    have hq := fun w => eql_slice_some _ _ ad n c w Tryd.underlying22
    go_enter Tryd.func27, Tryd.ntmps27
    have HA1 := hide (HA.out.below (boxB w (.cells #[] 5)))
    go_wp2_with (at_builtin; refine wpList_append_bytes rfl _ _ rfl w.heap.size _ [] rfl (OwnB.empty _ _ (Nat.le_refl _)) _ _ _ l rfl HA1.out 0 rfl l rfl ?c1 (by simp) ?_)
    case c1 => omega
    intro b1 c1 w1 ho hb
    have HO := hide ho
    have HB := hide ((boxB w (.cells #[] 5)).trans (hb.below (OwnB.empty _ _ (Nat.le_refl _)) (by simp)))
    clear ho hb
    go_wp2
    go_ret
    exact ⟨_, _, rfl, HO.out, HB.out⟩

set_option maxHeartbeats 800000 in
theorem numB_ok (ao : Option Addr) (n c : Nat) (l : List UInt8) (i : Int) (zs : List UInt8) (w : World) (h : ArgB w ao n c l) (hn : n < 900000) (hz : l ++ numL i = zs) :
    Calls Tryd.prog 11 #[.slice ao n c, .int .i64 i] w fun e w' => ∃ b d, e = .returned (.slice b (n + 8) d) ∧ OwnB w.heap.size w' (.slice b (n + 8) d) zs ∧ Below w.heap.size w w' := by
  have HA := hide h
  have HL := hide h.len
  have HZ := hide hz
  clear h hz
  go_enter Tryd.func11, Tryd.ntmps11
  go_wp2_with fail
  refine (cloneB_ok ao n c l w HA.out hn).mono ?_
  rintro e w1 ⟨b1, d1, rfl, ho1, hb1⟩
  have HO1 := hide ho1
  have hs1 := hb1.size
  clear ho1
  go_wp2_with fail
  refine (layNum_ok w.heap.size _ l i w1 HO1.out (by have := HL.out; omega) hs1).mono ?_
  rintro e w2 ⟨b2, d2, rfl, ho2, hb2⟩
  rw [HL.out, HZ.out] at ho2
  rw [HL.out]
  have HO2 := hide ho2
  clear ho2
  go_wp2_with fail
  go_ret
  exact ⟨b2, d2, rfl, HO2.out, hb1.trans (hb2.below HO1.out hs1)⟩
set_option maxHeartbeats 800000 in
theorem textB_ok (ao : Option Addr) (n c : Nat) (l : List UInt8) (s : ByteArray) (zs : List UInt8) (k : Nat) (w : World) (h : ArgB w ao n c l) (hn : n < 900000) (hs : s.size < 1000000) (hz : l ++ textL s.data.toList = zs) (hk : zs.length = k) :
    Calls Tryd.prog 12 #[.slice ao n c, .string s] w fun e w' => ∃ b d, e = .returned (.slice b k d) ∧ OwnB w.heap.size w' (.slice b k d) zs ∧ Below w.heap.size w w' := by
  have HA := hide h
  have HL := hide h.len
  have HZ := hide hz
  have HK := hide hk
  clear h hz hk
  go_enter Tryd.func12, Tryd.ntmps12
  go_wp2_with fail
  refine (cloneB_ok ao n c l w HA.out hn).mono ?_
  rintro e w1 ⟨b1, d1, rfl, ho1, hb1⟩
  have HO1 := hide ho1
  have hs1 := hb1.size
  clear ho1
  go_wp2_with fail
  refine (layText_ok w.heap.size _ l s zs k w1 HO1.out (by have := HL.out; omega) hs hs1 HZ.out HK.out).mono ?_
  rintro e w2 ⟨b2, d2, rfl, ho2, hb2⟩
  have HO2 := hide ho2
  clear ho2
  go_wp2_with fail
  go_ret
  exact ⟨b2, d2, rfl, HO2.out, hb1.trans (hb2.below HO1.out hs1)⟩

/-- Nodes that are short enough to be laid. -/
def ShortN (t : List Nd) : Prop := t.length ≤ 1000 ∧ ∀ n ∈ t, n.1.size ≤ 100000 ∧ n.2.2.size ≤ 100000
theorem nodesL_le : ∀ {t : List Nd}, (∀ n ∈ t, n.1.size ≤ 100000 ∧ n.2.2.size ≤ 100000) → (nodesL t).length ≤ t.length * 200100
  | [], _ => by simp [nodesL]
  | n :: t, h => by
    obtain ⟨h1, h2⟩ := h n (by simp)
    have := nodesL_le (t := t) (fun m hm => h m (List.mem_cons_of_mem _ hm))
    rw [nodesL_cons, List.length_append, nodeL_len, List.length_cons]
    omega
theorem ShortN.take {t : List Nd} (h : ShortN t) (k : Nat) : (nodesL (t.take k)).length ≤ 200100000 := by
  have h1 := nodesL_le (t := t.take k) (fun n hn => h.2 n (List.mem_of_mem_take hn))
  have h2 := h.1
  have h3 : (t.take k).length ≤ 1000 := by rw [List.length_take]; omega
  omega
theorem ShortN.path {t : List Nd} (h : ShortN t) : ∀ n ∈ t, n.1.size < 999999 := fun n hn => by have := (h.2 n hn).1; omega

set_option maxHeartbeats 800000 in
theorem lay_bad (v : Value) (t : List Nd) (w0 w : World) (h : Ok w0 w) (hn : Nods w v t) (hs : ShortN t) (hv : mayN t = false) :
    Calls Tryd.prog 13 #[v] w fun e w' => e = .returned (.tuple #[.slice none 0 0, .int .i64 7]) ∧ Ok w0 w' ∧ Below w.heap.size w w' := by
  have HN := hide hn
  have HS := hide hs
  have HV := hide hv
  clear hn hs hv
  go_enter Tryd.func13, Tryd.ntmps13
  go_wp2_with fail
  refine (mayT_ok v t false w0 w h HS.out.path HN.out (by have := HS.out.1; omega) HV.out).mono ?_
  rintro e w1 ⟨rfl, ok1, hb1⟩
  go_wp2
  go_ret2
  exact ⟨rfl, ok1, hb1⟩

set_option maxRecDepth 100000 in
set_option maxHeartbeats 2000000 in
theorem lay_good (v : Value) (t : List Nd) (zs : List UInt8) (m : Nat) (w0 w : World) (h : Ok w0 w) (hn : Nods w v t) (hs : ShortN t) (hv : mayN t = true) (hz : layL t = zs) (hm : zs.length = m) :
    Calls Tryd.prog 13 #[v] w fun e w' => ∃ b c, e = .returned (.tuple #[.slice b m c, .int .i64 0]) ∧ OwnB w.heap.size w' (.slice b m c) zs ∧ Ok w0 w' ∧ Below w.heap.size w w' := by
  have hne : t ≠ [] := fun e => by rw [e] at hv; simp [mayN, badN] at hv
  rcases id hn with ⟨e, _⟩ | ⟨bt, ot, ct, rfl, hct, hr⟩
  · exact absurd e hne
  obtain ⟨n, hnt⟩ : ∃ n, n = t.length := ⟨_, rfl⟩
  have HN := hide hn
  have HS := hide hs
  have HV := hide hv
  have HZ := hide hz
  have HM := hide hm
  have HR := hide hr
  have HNT := hide hnt
  have hn0 : n ≤ 1000 := by rw [hnt]; exact hs.1
  rw [← hnt] at hct ⊢
  clear hn hs hv hz hm hr hnt hne
  obtain ⟨l1, hl1⟩ : ∃ x, x = textL markL := ⟨_, rfl⟩
  have HL1 : Hid (l1.length = 16) := by rw [hl1, textL_len]; exact hide rfl
  obtain ⟨l2, hl2⟩ : ∃ x, x = headL n := ⟨_, rfl⟩
  have HL2 : Hid (l1 ++ numL n = l2) := by rw [hl1, hl2]; exact hide rfl
  have HE2 : Hid (l2.length = 24) := by rw [hl2]; exact hide (headL_len n)
  have HT1 : Hid ([] ++ textL (ByteArray.mk #[110, 97, 114, 45, 49]).data.toList = l1) := by rw [hl1]; exact hide rfl
  have HH := hide hl2
  clear hl1 hl2
  have hbt : bt < w.heap.size := HR.out.1
  go_enter Tryd.func13, Tryd.ntmps13
  go_wp2_with fail
  refine (mayT_ok _ t true w0 w h HS.out.path (by have h := HN.out; rw [← HNT.out] at h; exact h) (by have := HS.out.1; omega) HV.out).mono ?_
  rintro e w1 ⟨rfl, ok1, hb1⟩
  have hs1 := hb1.size
  go_wp2_with fail
  refine (layText_ok w.heap.size _ [] _ l1 16 w1 (OwnB.nil _ _) (by simp) (by decide) hs1 HT1.out HL1.out).mono ?_
  rintro e w2 ⟨b2, c2, rfl, ho2, hb2⟩
  have HO2 := hide ho2
  have hbl2 := hb1.trans (hb2.below (OwnB.nil _ _) hs1)
  have hs2 := hbl2.size
  clear ho2 hb1 hb2 hs1
  go_wp2_with fail
  refine (layNum_ok w.heap.size _ l1 n w2 HO2.out (by rw [HL1.out]; omega) hs2).mono ?_
  rintro e w3 ⟨b3, c3, rfl, ho3, hb3⟩
  rw [HL2.out, HL1.out] at ho3
  rw [HL1.out]
  have HO3 := hide ho3
  have hbl3 := hbl2.trans (hb3.below HO2.out hs2)
  clear ho3 hb3 hbl2 hs2
  go_wp2
  go_loopw [4, 16] (fun s i wr => ∃ (k q : Nat) (b : Option Addr) (c : Nat), k ≤ n ∧ i = .int .i64 k ∧ s = .slice b q c ∧ Hid (q = (l2 ++ nodesL (t.take k)).length) ∧ Hid (OwnB w.heap.size wr (.slice b q c) (l2 ++ nodesL (t.take k))) ∧ Below w.heap.size w wr) (fun _ i _ => n - (intOf i).toNat)
  case atStart => exact ⟨0, 24, b3, c3, by omega, rfl, rfl, by simp [Hid, nodesL, HE2.out], by simpa [Hid, nodesL] using HO3.out, hbl3⟩
  case round =>
    obtain ⟨k, q, b, c, hk, rfl, rfl, HQ, HO, hbl⟩ := hrel
    by_cases hlt : k < n
    · obtain ⟨x, hx⟩ : ∃ x, t[k]? = some x := ⟨t[k]'(by have := HNT.out; omega), List.getElem?_eq_some_iff.2 ⟨_, rfl⟩⟩
      obtain ⟨g1, g2, g3⟩ := (HR.out.2 k x hx).below hbl hbt
      have hki : (k : Int) < (n : Int) := by omega
      have HX := hide hx
      have HST := hide (nodesL_step hx)
      have hxs := HS.out.2 x (List.mem_of_getElem? hx)
      have HXS := hide hxs
      clear hx hxs
      obtain ⟨p0, h0⟩ : ∃ p, p = l2 ++ nodesL (t.take k) := ⟨_, rfl⟩
      obtain ⟨p1, h1⟩ : ∃ p, p = p0 ++ textL x.1.data.toList := ⟨_, rfl⟩
      obtain ⟨p2, h2⟩ : ∃ p, p = p1 ++ numL x.2.1 := ⟨_, rfl⟩
      obtain ⟨p3, h3⟩ : ∃ p, p = p2 ++ textL x.2.2.data.toList := ⟨_, rfl⟩
      obtain ⟨q1, hq1⟩ : ∃ q, q = p1.length := ⟨_, rfl⟩
      obtain ⟨q3, hq3⟩ : ∃ q, q = p3.length := ⟨_, rfl⟩
      have hq0 : q ≤ 200100024 := by rw [HQ.out, List.length_append, HE2.out]; have := HS.out.take k; omega
      have hq1' : q1 ≤ 200300024 := by rw [hq1, h1, List.length_append, h0, ← HQ.out, textL_len, ← Hog.size_len]; have := HXS.out.1; omega
      have HP3 : Hid (p3 = l2 ++ nodesL (t.take (k + 1))) := by rw [h3, h2, h1, h0, HST.out]; unfold nodeL; simp [Hid]
      rw [← h0] at HO HQ
      have HP1 := hide h1.symm
      have HP2 := hide h2.symm
      have HP3' := hide h3.symm
      have HQ1 := hide hq1.symm
      have HQ3 := hide hq3.symm
      have HL2' : Hid (p2.length = q1 + 8) := by rw [h2, List.length_append, numL_len, ← hq1]; exact hide rfl
      clear h0 h1 h2 h3 hq1 hq3
      have hbw : w.heap.size ≤ wr.heap.size := hbl.size
      obtain ⟨W, hW⟩ : ∃ W, W = wr.alloc (.cells #[.string x.1, .int .i64 x.2.1, .string x.2.2] 48) := ⟨_, rfl⟩
      have HOW : Hid (OwnB w.heap.size W (.slice b q c) p0) := by rw [hW]; exact hide (HO.out.alloc _)
      have hblW : Below w.heap.size w W := by rw [hW]; exact hbl.trans ((boxB wr _).mono hbw)
      have hatW : At W wr.heap.size 0 x := by rw [hW]; exact ⟨by simp, by simp, by simp⟩
      have hszW : wr.heap.size < W.heap.size := by rw [hW]; simp
      have HW := hide hW
      clear hW
      have hvx : (Value.slice b q c).ownBlock ≠ some wr.heap.size := fun e => by have := (HO.out.lt _ e).2; omega
      have HVX := hide hvx
      clear hvx
      go_wp2_with fail
      rw [← HW.out]
      refine (layText_ok w.heap.size _ p0 x.1 p1 q1 W HOW.out (by rw [← HQ.out]; omega) (by have := HXS.out.1; omega) (by omega) HP1.out HQ1.out).mono ?_
      rintro e w4 ⟨b4, c4, rfl, ho4, hl4⟩
      have HO4 := hide ho4
      have HA4 := hide (hl4.node HVX.out hatW)
      have HV4 := hide (hl4.off hszW HVX.out)
      have hs4 := hl4.size
      have HB4 := hide (hblW.trans (hl4.below HOW.out (by omega)))
      have f4 := HA4.out.kind
      clear ho4 hl4 hatW
      go_wp2_with fail
      refine (layNum_ok w.heap.size _ p1 x.2.1 w4 HO4.out (by rw [HQ1.out]; omega) (by omega)).mono ?_
      rintro e w5 ⟨b5, c5, rfl, ho5, hl5⟩
      rw [HP2.out, HQ1.out] at ho5
      rw [HQ1.out] at hl5 ⊢
      have HO5 := hide ho5
      have HA5 := hide (hl5.node HV4.out HA4.out)
      have HV5 := hide (hl5.off (by omega) HV4.out)
      have hs5 := hl5.size
      have HB5 := hide (HB4.out.trans (hl5.below HO4.out (by omega)))
      have f5 := HA5.out.data
      clear ho5 hl5 f4
      go_wp2_with fail
      refine (layText_ok w.heap.size _ p2 x.2.2 p3 q3 w5 HO5.out (by rw [HL2'.out]; omega) (by have := HXS.out.2; omega) (by omega) HP3'.out HQ3.out).mono ?_
      rintro e w6 ⟨b6, c6, rfl, ho6, hl6⟩
      have HO6 := hide ho6
      have HB6 := hide (HB5.out.trans (hl6.below HO5.out (by omega)))
      clear ho6 hl6 f5
      rw [HP3.out] at HO6 HQ3
      have HQ3' := hide HQ3.out.symm
      go_wp2
      go_roundw
      case rel => exact ⟨k + 1, q3, b6, c6, by omega, by go_num, rfl, HQ3', HO6, HB6.out⟩
      case measure => simp [intOf]; omega
    · obtain rfl : k = n := by omega
      have e : l2 ++ nodesL (t.take k) = zs := by rw [HNT.out, List.take_length, ← HZ.out, HH.out, HNT.out]; rfl
      have hq : q = m := by rw [HQ.out, e]; exact HM.out
      subst hq
      rw [e] at HO
      clear e
      go_wp2
      go_ret2
      exact ⟨b, c, rfl, HO.out, h.next hbl, hbl⟩
end Go.Proofs.YtlepahfbbdjdgaaDoor
