/- The walk of the statement FindTells: for every nodes, every text and every nodes it answers true. -/
import Derived.Test.YtomomeckgiiapaaDoorV2
namespace Go.Proofs.YtomomeckgiiapaaDoor
open Go.RowKit

theorem list_lk (b o c n : Nat) (t : List Nd) (p : ByteArray) (l : List (List UInt8)) (f : Bool) (w0 w : World) (h : Ok w0 w) (hp : ∀ n ∈ t, n.1.size < 999999) (hr : Run w b o t) (hn : t.length = n) (hc : n ≤ c) (hm : n ≤ 1000) (hf : listB t p = f) (hl : listL t p = l) :
    Calls Tryd.prog 12 #[.slice (some ⟨b, o, none⟩) n c, .string p] w fun e w' => ∃ a' c', e = .returned (.tuple #[.slice a' l.length c', .bool f]) ∧ Own w.heap.size w' (.slice a' l.length c') (l.map Hog.mk) ∧ Ok w0 w' ∧ Below w.heap.size w w' := by
  subst hn
  exact list_ok b o c t p l f w0 w h hp hr hc (by omega) hf hl
theorem sub_lk (b o c n : Nat) (t : List Nd) (p : ByteArray) (l : List Nd) (f : Bool) (w0 w : World) (h : Ok w0 w) (hp : ∀ n ∈ t, n.1.size < 999999) (hpp : p.size < 999999) (hr : Run w b o t) (hn : t.length = n) (hc : n ≤ c) (hm : n ≤ 1000) (hf : (lookP t p).2 = f) (hl : subL t p = l) :
    Calls Tryd.prog 14 #[.slice (some ⟨b, o, none⟩) n c, .string p] w fun e w' => ∃ a' c', e = .returned (.tuple #[.slice a' l.length c', .bool f]) ∧ OwnN w.heap.size w' (.slice a' l.length c') l ∧ Ok w0 w' ∧ Below w.heap.size w w' := by
  subst hn
  exact sub_ok b o c t p l f w0 w h hp hpp hr hc (by omega) hf hl

set_option maxRecDepth 100000 in
set_option maxHeartbeats 1000000 in
theorem tells3_great (ao bo : Option Addr) (n c m d : Nat) (ns us : List Nd) (p : ByteArray) (w : World) (hsh : w.ShapedOpen Tryd.prog) (h : ArgN w ao n c ns) (hn : n ≤ maxLen) (h' : ArgN w bo m d us) (hm : m ≤ maxLen)
    (b1 b2 : Bool) (hb1 : greatN 60 ns = b1) (hb2 : greatN 30 us = b2) (hno : b1 = true ∨ b2 = true ∨ 300 < p.size) :
    Calls Tryd.prog 3 #[.slice ao n c, .string p, .slice bo m d] w fun e w' => e = .returned (.bool true) ∧ Below w.heap.size w w' := by
  have HA := hide h
  have HU := hide h'
  have HLN := hide h.len
  have HLU := hide h'.len
  have G1 := hide hb1
  have G2 := hide hb2
  clear h h' hb1 hb2
  go_enter Tryd.func3, Tryd.ntmps3
  go_wp2_with fail
  refine (greatN_ok _ 60 ns b1 w HA.out.nods (by rw [HLN.out]; exact hn) (by decide) (by decide) G1.out).mono ?_
  rintro e w1 ⟨rfl, rfl⟩
  cases b1 with
  | true =>
    go_wp2_with fail
    refine (awake3_ok _ _ (Ok.start hsh)).mono ?_
    rintro e w2 ⟨rfl, ok2, _⟩
    go_wp2_with fail
    go_ret
    exact ⟨rfl, ok2.2⟩
  | false =>
    go_wp2_with fail
    refine (greatN_ok _ 30 us b2 _ HU.out.nods (by rw [HLU.out]; exact hm) (by decide) (by decide) G2.out).mono ?_
    rintro e w1' ⟨rfl, rfl⟩
    cases b2 with
    | true =>
      go_wp2_with fail
      refine (awake3_ok _ _ (Ok.start hsh)).mono ?_
      rintro e w2 ⟨rfl, ok2, _⟩
      go_wp2_with fail
      go_ret
      exact ⟨rfl, ok2.2⟩
    | false =>
      have hp : 300 < p.size := by simpa using hno
      have hp' : (300 : Int) < (p.size : Int) := by omega
      go_wp2_with fail
      refine (awake3_ok _ _ (Ok.start hsh)).mono ?_
      rintro e w2 ⟨rfl, ok2, _⟩
      go_wp2_with fail
      go_ret
      exact ⟨rfl, ok2.2⟩

set_option maxRecDepth 100000 in
set_option maxHeartbeats 4000000 in
theorem tells3_main (ao bo : Option Addr) (n c m d : Nat) (ns us : List Nd) (p : ByteArray) (w : World) (hsh : w.ShapedOpen Tryd.prog) (h : ArgN w ao n c ns) (h' : ArgN w bo m d us)
    (hb1 : greatN 60 ns = false) (hb2 : greatN 30 us = false) (hp : p.size ≤ 300) :
    Calls Tryd.prog 3 #[.slice ao n c, .string p, .slice bo m d] w fun e w' => e = .returned (.bool true) ∧ Below w.heap.size w w' := by
  have q1 : n ≤ 60 := by have := (greatN_not hb1).1; rw [h.len] at this; omega
  have q2 : m ≤ 30 := by have := (greatN_not hb2).1; rw [h'.len] at this; omega
  have hdp : decide ((300 : Int) < (p.size : Int)) = false := by rw [decide_eq_false_iff_not]; omega
  have S1 := hide (greatN_not hb1).2
  have S2 := hide (greatN_not hb2).2
  have HA := hide h
  have HU := hide h'
  have HLN := hide h.len
  have HLU := hide h'.len
  have G1 := hide hb1
  have G2 := hide hb2
  clear h h' hb1 hb2
  go_enter Tryd.func3, Tryd.ntmps3
  go_wp2_with fail
  refine (greatN_ok _ 60 ns false w HA.out.nods (by rw [HLN.out]; unfold maxLen; omega) (by decide) (by decide) G1.out).mono ?_
  rintro e w1 ⟨rfl, hw⟩
  have hw2 := hw.symm
  clear hw
  subst hw2
  go_wp2_with fail
  refine (greatN_ok _ 30 us false _ HU.out.nods (by rw [HLU.out]; unfold maxLen; omega) (by decide) (by decide) G2.out).mono ?_
  rintro e w1' ⟨rfl, hw⟩
  have hw2 := hw.symm
  clear hw
  subst hw2
  go_wp2_with fail
  refine (lendN_any ao n c ns _ HA.out (by omega)).mono ?_
  rintro e w1 ⟨rfl, hl1, hb1⟩
  have L1 := hide hl1
  have ok1 : Ok w w1 := ⟨hsh, hb1⟩
  obtain ⟨g0, hg0⟩ : ∃ g0, g0 = w.heap.size := ⟨_, rfl⟩
  rw [← hg0] at hl1 L1 ⊢
  have HG0 := hide hg0
  have hg1 : g0 < w1.heap.size := L1.out.lt
  clear hl1 hb1 hg0
  have Z1 := hide (show ∀ z ∈ ns, z.1.size < 999999 from fun z hz => by have := (S1.out z hz).1; omega)
  have Z1' := hide (show ∀ z ∈ ns, z.1.size < 10000 ∧ z.2.2.size < 900000 from fun z hz => by have := S1.out z hz; omega)
  have Z1'' := hide (show ∀ z ∈ ns, z.1.size < 900000 ∧ z.2.2.size < 900000 from fun z hz => by have := S1.out z hz; omega)
  have Z2 := hide (show ∀ z ∈ us, z.1.size < 999999 from fun z hz => by have := (S2.out z hz).1; omega)
  have Z2' := hide (show ∀ z ∈ us, z.1.size < 10000 ∧ z.2.2.size < 900000 from fun z hz => by have := S2.out z hz; omega)
  obtain ⟨x, f, hx⟩ : ∃ x f, lookP ns p = (x, f) := ⟨_, _, rfl⟩
  have HX := hide hx
  obtain ⟨lb, hlb⟩ : ∃ lb, listB ns p = lb := ⟨_, rfl⟩
  obtain ⟨ll, hll⟩ : ∃ ll, listL ns p = ll := ⟨_, rfl⟩
  obtain ⟨sl, hsl⟩ : ∃ sl, subL ns p = sl := ⟨_, rfl⟩
  have HLB := hide hlb
  have HLL := hide hll
  have HSL := hide hsl
  have HF := hide (show (lookP ns p).2 = f by rw [hx])
  clear hx hlb hll hsl
  have hll60 : ll.length ≤ 60 := by
    rw [← HLL.out]
    unfold listL
    split
    · unfold names; rw [List.length_map]; have := List.length_filter_le (inDir p.data.toList) ns; have := HLN.out; omega
    · simp
  have hsl60 : sl.length ≤ 60 := by
    rw [← HSL.out]
    unfold subL
    split
    · unfold sub; rw [List.length_map]; have := List.length_filter_le (fun n => Hog.underL (key n) p.data.toList) ns; have := HLN.out; omega
    · simp
  -- Lookup, on both sides
  go_wp2_with fail
  refine (lookup_ok _ ns p x f w w1 ok1 Z1.out (L1.out.arg HLN.out.symm).nods (by rw [HLN.out]; omega) HX.out).mono ?_
  rintro e w2 ⟨rfl, ok2, hb2⟩
  have hb2' := below_two hb2 (below_box w2 (.cells #[.string x.1, .int .i64 x.2.1, .string x.2.2] 27))
  have ok2' := ok2.alloc (.cells #[.string x.1, .int .i64 x.2.1, .string x.2.2] 27)
  have L2 := hide (L1.out.below hb2' hg1)
  have X2 := hide (Blk.made w2 x)
  clear hb2 hb2' L1 ok1 ok2
  go_wp2_with fail
  refine (rlookup_ok _ ns p x f w _ ok2' Z1''.out (HA.out.below ok2'.2).nods (by rw [HLN.out]; omega) HX.out).mono ?_
  rintro e w3 ⟨rfl, ok3, hb3⟩
  have hb3' := below_two hb3 (below_box w3 (.cells #[.string x.1, .int .i64 x.2.1, .string x.2.2] 27))
  have ok3' := ok3.alloc (.cells #[.string x.1, .int .i64 x.2.1, .string x.2.2] 27)
  have L3 := hide (L2.out.below hb3' L2.out.lt)
  have X3 := hide (X2.out.below hb3')
  have Y3 := hide (Blk.made w3 x)
  clear hb3 hb3' L2 X2 ok2' ok3
  obtain ⟨W3, hW3⟩ : ∃ W3, W3 = w3.alloc (.cells #[.string x.1, .int .i64 x.2.1, .string x.2.2] 27) := ⟨_, rfl⟩
  rw [← hW3] at ok3' L3 X3 Y3
  have HW3 := hide hW3
  clear hW3
  -- List
  go_wp2_with fail
  rw [← HW3.out]
  have hg3 : g0 < W3.heap.size := L3.out.lt
  refine (list_lk g0 0 (n + 3) n ns p ll lb w W3 ok3' Z1.out L3.out.run HLN.out (by omega) (by omega) HLB.out HLL.out).mono ?_
  rintro e w4 ⟨a4, c4, rfl, ho4, ok4, hb4⟩
  have CO4 := hide ho4
  have L4 := hide (L3.out.below hb4 L3.out.lt)
  have X4 := hide (X3.out.below hb4)
  have Y4 := hide (Y3.out.below hb4)
  have hz34 : W3.heap.size ≤ w4.heap.size := hb4.size
  clear ho4 hb4 L3 X3 Y3 ok3'
  go_wp2_with fail
  refine (rlist_any _ ns p ll lb w w4 ok4 Z1''.out (HA.out.below ok4.2).nods (by rw [HLN.out]; omega) HLB.out HLL.out).mono ?_
  rintro e w5 ⟨a5, c5, rfl, ho5, ok5, hb5⟩
  have CO5 := hide (CO4.out.below hb5)
  have DT5 := hide ho5.txt
  have L5 := hide (L4.out.below hb5 L4.out.lt)
  have X5 := hide (X4.out.below hb5)
  have Y5 := hide (Y4.out.below hb5)
  have hz45 : w4.heap.size ≤ w5.heap.size := hb5.size
  have HCB := hide (show ∀ g, (Value.slice a4 ll.length c4).ownBlock = some g → W3.heap.size ≤ g ∧ g < w5.heap.size from fun g hg => by have := CO4.out.lt g hg; omega)
  clear ho5 hb5 L4 X4 Y4 CO4 ok4
  -- Sub
  go_wp2_with fail
  refine (sub_lk g0 0 (n + 3) n ns p sl f w w5 ok5 Z1.out (by omega) L5.out.run HLN.out (by omega) (by omega) HF.out HSL.out).mono ?_
  rintro e w6 ⟨a6, c6, rfl, ho6, ok6, hb6⟩
  have EO6 := hide ho6
  have CO6 := hide (CO5.out.below hb6)
  have DT6 := hide (DT5.out.below hb6)
  have L6 := hide (L5.out.below hb6 L5.out.lt)
  have X6 := hide (X5.out.below hb6)
  have Y6 := hide (Y5.out.below hb6)
  have hz56 : w5.heap.size ≤ w6.heap.size := hb6.size
  clear ho6 hb6 L5 X5 Y5 CO5 DT5 ok5
  go_wp2_with fail
  refine (rsub_any _ ns p sl f w w6 ok6 Z1''.out (by omega) (HA.out.below ok6.2).nods (by rw [HLN.out]; omega) HF.out HSL.out).mono ?_
  rintro e w7 ⟨a7, c7, rfl, ho7, ok7, hb7⟩
  have FN7 := hide ho7.nods
  have EO7 := hide (EO6.out.below hb7)
  have CO7 := hide (CO6.out.below hb7)
  have DT7 := hide (DT6.out.below hb7)
  have L7 := hide (L6.out.below hb7 L6.out.lt)
  have X7 := hide (X6.out.below hb7)
  have Y7 := hide (Y6.out.below hb7)
  have hz67 : w6.heap.size ≤ w7.heap.size := hb7.size
  have HEB := hide (show ∀ g, (Value.slice a6 sl.length c6).ownBlock = some g → w5.heap.size ≤ g ∧ g < w7.heap.size from fun g hg => by have := EO6.out.lt g hg; omega)
  clear ho7 hb7 L6 X6 Y6 CO6 DT6 EO6 ok6
  -- Graft
  go_wp2_with fail
  refine (graft_any _ _ ns us p w w7 ok7 (L7.out.arg HLN.out.symm).nods (HU.out.below ok7.2).nods Z1.out Z2.out (by omega) (by rw [HLN.out]; omega) (by rw [HLU.out]; omega)).mono ?_
  rintro e w8 ⟨q, gl, a8, c8, rfl, ho8, hR, ok8, hb8⟩
  have GO8 := hide ho8
  have FN8 := hide (FN7.out.below hb8)
  have EO8 := hide (EO7.out.below hb8)
  have CO8 := hide (CO7.out.below hb8)
  have DT8 := hide (DT7.out.below hb8)
  have L8 := hide (L7.out.below hb8 L7.out.lt)
  have X8 := hide (X7.out.below hb8)
  have Y8 := hide (Y7.out.below hb8)
  have HRR := hide hR
  have hz78 : w7.heap.size ≤ w8.heap.size := hb8.size
  have hgl : gl.length ≤ 100 := by
    cases q with
    | true => have := (hR.1 rfl).2.2.2.2.length_eq; rw [List.length_append, List.length_map, HLN.out, HLU.out] at this; omega
    | false => rw [(hR.2 rfl).1]; simp
  clear ho8 hb8 hR L7 X7 Y7 CO7 DT7 EO7 FN7 ok7
  go_wp2_with fail
  refine (rgraft_any _ _ ns us p w w8 ok8 (HA.out.below ok8.2).nods (HU.out.below ok8.2).nods Z1'.out Z2'.out (by omega) (by rw [HLN.out]; omega) (by rw [HLU.out]; omega) HRR.out).mono ?_
  rintro e w9 ⟨a9, c9, rfl, ho9, ok9, hb9⟩
  have HN9 := hide ho9.nods
  have GO9 := hide (GO8.out.below hb9)
  have FN9 := hide (FN8.out.below hb9)
  have EO9 := hide (EO8.out.below hb9)
  have CO9 := hide (CO8.out.below hb9)
  have DT9 := hide (DT8.out.below hb9)
  have L9 := hide (L8.out.below hb9 L8.out.lt)
  obtain ⟨⟨x1, x2, x3⟩, _, hbx⟩ := (X8.out.below hb9).facts
  obtain ⟨⟨y1, y2, y3⟩, _, hby⟩ := (Y8.out.below hb9).facts
  have hz89 : w8.heap.size ≤ w9.heap.size := hb9.size
  clear ho9 hb9 L8 X8 Y8 CO8 DT8 EO8 FN8 GO8 ok8 HRR
  have hgd := guard_node
  have heq := fun w => eql_node x x w
  rw [decide_eq_true rfl] at heq
  have hff : (f == f) = true := by cases f <;> rfl
  have hll : (lb == lb) = true := by cases lb <;> rfl
  have hqq : (q == q) = true := by cases q <;> rfl
  go_wp2_with fail
  refine (same_ok _ _ ll ll true w w9 ok9 CO9.out.txt DT9.out (by omega) (decide_eq_true rfl)).mono ?_
  rintro e w10 ⟨rfl, ok10, hb10⟩
  have HN10 := hide (HN9.out.below hb10)
  have GO10 := hide (GO9.out.below hb10)
  have FN10 := hide (FN9.out.below hb10)
  have EO10 := hide (EO9.out.below hb10)
  have CO10 := hide (CO9.out.below hb10)
  have L10 := hide (L9.out.below hb10 L9.out.lt)
  have hz910 : w9.heap.size ≤ w10.heap.size := hb10.size
  clear hb10 HN9 GO9 FN9 EO9 CO9 DT9 L9 ok9 x1 x2 x3 y1 y2 y3 hbx hby heq
  go_wp2_with fail
  refine (sameN_any _ _ sl sl w10 EO10.out.nods FN10.out (by omega)).mono ?_
  rintro e w11 ⟨rfl, hb11⟩
  rw [decide_eq_true rfl]
  have HN11 := hide (HN10.out.below hb11)
  have GO11 := hide (GO10.out.below hb11)
  have EO11 := hide (EO10.out.below hb11)
  have CO11 := hide (CO10.out.below hb11)
  have L11 := hide (L10.out.below hb11 L10.out.lt)
  have ok11 := ok10.next hb11
  have hz1011 : w10.heap.size ≤ w11.heap.size := hb11.size
  clear hb11 HN10 GO10 FN10 EO10 CO10 L10 ok10
  go_wp2_with fail
  refine (sameN_any _ _ gl gl w11 GO11.out.nods HN11.out (by omega)).mono ?_
  rintro e w12 ⟨rfl, hb12⟩
  rw [decide_eq_true rfl]
  have GO12 := hide (GO11.out.below hb12)
  have EO12 := hide (EO11.out.below hb12)
  have CO12 := hide (CO11.out.below hb12)
  have L12 := hide (L11.out.below hb12 L11.out.lt)
  have ok12 := ok11.next hb12
  have hz1112 : w11.heap.size ≤ w12.heap.size := hb12.size
  clear hb12 HN11 GO11 EO11 CO11 L11 ok11
  have hzw : w.heap.size ≤ g0 := by rw [HG0.out]; exact Nat.le_refl _
  go_wp2_with fail
  refine (overG_ok _ (ll.map Hog.mk) W3.heap.size w12 CO12.out (by omega) (by simp; omega)).mono ?_
  rintro e w13 ⟨rfl, hgr⟩
  have GO13 := hide (GO12.out.grown hgr (fun g hg => by have := HCB.out g hg; omega))
  have EO13 := hide (EO12.out.grown hgr (fun g hg => (HCB.out g hg).2))
  have L13 := hide (L12.out.grown hgr (fun g hg => by have := HCB.out g hg; omega))
  have ok13 := ok12.step (below_grown hgr ok12.size (fun g hg => by have := HCB.out g hg; omega))
  have hz1213 : w12.heap.size ≤ w13.heap.size := hgr.size
  clear hgr CO12 GO12 EO12 L12 ok12
  go_wp2_with fail
  refine (overN_ok _ sl w5.heap.size w13 EO13.out (by omega) (by omega)).mono ?_
  rintro e w14 ⟨rfl, hgr⟩
  have GO14 := hide (GO13.out.grown hgr (fun g hg => (HEB.out g hg).2))
  have L14 := hide (L13.out.grown hgr (fun g hg => by have := HEB.out g hg; omega))
  have ok14 := ok13.step (below_grown hgr ok13.size (fun g hg => by have := HEB.out g hg; omega))
  have hz1314 : w13.heap.size ≤ w14.heap.size := hgr.size
  clear hgr GO13 EO13 L13 ok13
  have HGB := hide (show ∀ g, (Value.slice a8 gl.length c8).ownBlock = some g → w7.heap.size ≤ g from fun g hg => (GO14.out.lt g hg).1)
  go_wp2_with fail
  refine (overN_ok _ gl w7.heap.size w14 GO14.out (by omega) (by omega)).mono ?_
  rintro e w15 ⟨rfl, hgr⟩
  have L15 := hide (L14.out.grown hgr (fun g hg => by have := HGB.out g hg; omega))
  have ok15 := ok14.step (below_grown hgr ok14.size (fun g hg => by have := HGB.out g hg; omega))
  clear hgr GO14 L14 ok14
  go_wp2_with fail
  refine (keptN_any ao g0 n c ns w15 L15.out (HA.out.below ok15.2) (by omega)).mono ?_
  rintro e w16 ⟨rfl, hb16⟩
  have ok16 := ok15.next hb16
  clear hb16 ok15 L15
  go_wp2_with fail
  refine (awake3_ok _ _ ok16).mono ?_
  rintro e w17 ⟨rfl, ok17, _⟩
  go_wp2_with fail
  go_ret
  exact ⟨rfl, ok17.2⟩

theorem tells3_walk (ao : Option Addr) (n c : Nat) (ns : List Nd) (p : ByteArray) (bo : Option Addr) (m d : Nat) (us : List Nd) (w : World) (hsh : w.ShapedOpen Tryd.prog) (h : ArgN w ao n c ns) (hn : n ≤ maxLen) (_ : p.size ≤ maxLen) (h' : ArgN w bo m d us) (hm : m ≤ maxLen) :
    Calls Tryd.prog 3 #[.slice ao n c, .string p, .slice bo m d] w fun e w' => e = .returned (.bool true) ∧ Below w.heap.size w w' := by
  cases e1 : greatN 60 ns with
  | true => exact tells3_great ao bo n c m d ns us p w hsh h hn h' hm true _ e1 rfl (.inl rfl)
  | false =>
    cases e2 : greatN 30 us with
    | true => exact tells3_great ao bo n c m d ns us p w hsh h hn h' hm false true e1 e2 (.inr (.inl rfl))
    | false =>
      by_cases e3 : 300 < p.size
      · exact tells3_great ao bo n c m d ns us p w hsh h hn h' hm false false e1 e2 (.inr (.inr e3))
      · exact tells3_main ao bo n c m d ns us p w hsh h h' e1 e2 (by omega)
end Go.Proofs.YtomomeckgiiapaaDoor
