/- The walk of the statement FindDeep: for every nodes and every two numbers it answers true. -/
import Derived.Test.YtomomeckgiiapaaDoorF6
namespace Go.Proofs.YtomomeckgiiapaaDoor
open Go.RowKit

theorem Tree.small {t : List Nd} (h : Tree t) : ∀ n ∈ t, n.1.size < 999999 := fun n hn => by
  have h1 : n.1.data.toList.length ≤ 200 := (Hog.may_parts (h.may hn)).1
  rw [Hog.size_len]
  omega
theorem lookup_on (v : Value) (t : List Nd) (p : ByteArray) (x : Nd) (f : Bool) (w0 w : World) (h : Ok w0 w) (ht : Tree t) (hn : Nods w v t) (hm : t.length ≤ 1000) (hx : lookP t p = (x, f)) :
    Calls Tryd.prog 10 #[v, .string p] w fun e w' => e = .returned (.tuple #[.agg #[.string x.1, .int .i64 x.2.1, .string x.2.2], .bool f]) ∧ Ok w0 w' ∧ Below w.heap.size w w' :=
  lookup_ok v t p x f w0 w h ht.small hn (by omega) hx
theorem list_on (b o c n : Nat) (t : List Nd) (p : ByteArray) (l : List (List UInt8)) (f : Bool) (w0 w : World) (h : Ok w0 w) (ht : Tree t) (hr : Run w b o t) (hn : t.length = n) (hc : n ≤ c) (hm : n ≤ 1000) (hf : listB t p = f) (hl : listL t p = l) :
    Calls Tryd.prog 12 #[.slice (some ⟨b, o, none⟩) n c, .string p] w fun e w' => ∃ a' c', e = .returned (.tuple #[.slice a' l.length c', .bool f]) ∧ Own w.heap.size w' (.slice a' l.length c') (l.map Hog.mk) ∧ Ok w0 w' ∧ Below w.heap.size w w' := by
  subst hn
  exact list_ok b o c t p l f w0 w h ht.small hr hc (by omega) hf hl
theorem sub_on (b o c n : Nat) (t : List Nd) (p : ByteArray) (l : List Nd) (f : Bool) (w0 w : World) (h : Ok w0 w) (ht : Tree t) (hpp : p.size < 999999) (hr : Run w b o t) (hn : t.length = n) (hc : n ≤ c) (hm : n ≤ 1000) (hf : (lookP t p).2 = f) (hl : subL t p = l) :
    Calls Tryd.prog 14 #[.slice (some ⟨b, o, none⟩) n c, .string p] w fun e w' => ∃ a' c', e = .returned (.tuple #[.slice a' l.length c', .bool f]) ∧ OwnN w.heap.size w' (.slice a' l.length c') l ∧ Ok w0 w' ∧ Below w.heap.size w w' := by
  subst hn
  exact sub_ok b o c t p l f w0 w h ht.small hpp hr hc (by omega) hf hl

/-- What the statement compares, as plain facts. -/
theorem lookP_of {t : List Nd} (h : Tree t) {n : Nd} (hn : n ∈ t) : lookP t n.1 = (n, true) := lookP_some (tree_may h) (look_of h.rise hn rfl)
theorem subL_of {t : List Nd} (h : Tree t) {n : Nd} (hn : n ∈ t) : subL t n.1 = sub t (key n) := by unfold subL; rw [lookP_of h hn]; rfl
theorem listB_of {t : List Nd} (h : Tree t) {n : Nd} (hn : n ∈ t) : listB t n.1 = decide (n.2.1 = 1) := by unfold listB; rw [lookP_of h hn]; rfl
theorem listL_of {t : List Nd} (h : Tree t) {n : Nd} (hn : n ∈ t) : listL t n.1 = if n.2.1 = 1 then names t (key n) else [] := by
  unfold listL
  rw [listB_of h hn]
  by_cases e : n.2.1 = 1
  · rw [if_pos (decide_eq_true e), if_pos e]
  · rw [if_neg (by rw [decide_eq_false e]; decide), if_neg e]
theorem split_of {p : List UInt8} (h : Hog.mayL p = true) : Hog.splitL p = Hog.cutC p := by unfold Hog.splitL; rw [if_pos h]
theorem deep_facts {t : List Nd} (h : Tree t) {x y : Nd} (hx : x ∈ t) (hy : y ∈ sub t (key x)) :
    ∃ z ∈ t, y.2 = z.2 ∧ joinV (Hog.cutC (key x) ++ Hog.cutC (key y)) = key z ∧ Hog.joinOk (Hog.cutC (key x) ++ Hog.cutC (key y)) = true ∧
      subL (sub t (key x)) y.1 = subL t z.1 ∧ listB (sub t (key x)) y.1 = listB t z.1 ∧ listL (sub t (key x)) y.1 = listL t z.1 := by
  have hs := h.sub hx
  obtain ⟨z, hz, hu, hmz, hb⟩ := deep_key hy
  have hbm : Hog.mayL (Hog.behL (key x) (key y)) = true := by rw [hb]; exact h.may hz
  have hall : (Hog.cutC (key x) ++ Hog.cutC (key y)).all Hog.partL = true := by rw [List.all_append, Hog.may_all (h.may hx), Hog.may_all (hs.may hy)]; rfl
  have hj : Hog.joinOk (Hog.cutC (key x) ++ Hog.cutC (key y)) = true := by rw [← Hog.may_join hall]; exact hbm
  have hk : y.2 = z.2 := by rw [← hmz]; rfl
  refine ⟨z, hz, hk, ?_, hj, ?_, ?_, ?_⟩
  · unfold joinV
    rw [if_pos hj]
    exact hb
  · rw [subL_of hs hy, subL_of h hz, deep_sub h (h.may hx) (hs.may hy) hbm, hb]
  · rw [listB_of hs hy, listB_of h hz, hk]
  · rw [listL_of hs hy, listL_of h hz, hk, deep_names h (h.may hx) (hs.may hy), hb]

set_option maxHeartbeats 400000 in
theorem deep_great (ao : Option Addr) (n c : Nat) (ns : List Nd) (j k : Int) (w : World) (hsh : w.ShapedOpen Tryd.prog) (h : ArgN w ao n c ns) (hm : n ≤ maxLen) (hg : greatN 60 ns = true) :
    Calls Tryd.prog 6 #[.slice ao n c, .int .i64 j, .int .i64 k] w fun e w' => e = .returned (.bool true) ∧ Below w.heap.size w w' := by
  have HA := hide h
  have HG := hide hg
  have HL := hide h.len
  clear h hg
  go_enter Tryd.func6, Tryd.ntmps6
  go_wp2_with fail
  refine (greatN_ok _ 60 ns true w HA.out.nods (by rw [HL.out]; exact hm) (by decide) (by decide) HG.out).mono ?_
  rintro e w1 ⟨rfl, rfl⟩
  go_wp2_with fail
  refine (awake3_ok _ _ (Ok.start hsh)).mono ?_
  rintro e w2 ⟨rfl, ok2, _⟩
  go_wp2_with fail
  go_ret
  exact ⟨rfl, ok2.2⟩
set_option maxHeartbeats 400000 in
theorem deep_none (ao : Option Addr) (n c : Nat) (ns : List Nd) (j k : Int) (w : World) (hsh : w.ShapedOpen Tryd.prog) (h : ArgN w ao n c ns) (hg : greatN 60 ns = false) (hy : mayN ns = false) :
    Calls Tryd.prog 6 #[.slice ao n c, .int .i64 j, .int .i64 k] w fun e w' => e = .returned (.bool true) ∧ Below w.heap.size w w' := by
  have HA := hide h
  have HG := hide hg
  have HL := hide h.len
  have HY := hide hy
  have hn60 : n ≤ 60 := by have := (greatN_not hg).1; rw [h.len] at this; omega
  have HSM := hide (greatN_not hg).2
  clear h hg hy
  go_enter Tryd.func6, Tryd.ntmps6
  go_wp2_with fail
  refine (greatN_ok _ 60 ns false w HA.out.nods (by rw [HL.out]; unfold maxLen; omega) (by decide) (by decide) HG.out).mono ?_
  rintro e w1 ⟨rfl, rfl⟩
  go_wp2_with fail
  refine (mayT_ok _ ns false _ _ (Ok.start hsh) (fun z hz => by have := (HSM.out z hz).1; omega) HA.out.nods (by rw [HL.out]; omega) HY.out).mono ?_
  rintro e w2 ⟨rfl, ok2, _⟩
  go_wp2_with fail
  refine (awake3_ok _ _ ok2).mono ?_
  rintro e w3 ⟨rfl, ok3, _⟩
  go_wp2_with fail
  go_ret
  exact ⟨rfl, ok3.2⟩

set_option maxRecDepth 100000 in
set_option maxHeartbeats 4000000 in
theorem deep_main (b o n c : Nat) (ns : List Nd) (j k : Int) (w : World) (hsh : w.ShapedOpen Tryd.prog) (h : ArgN w (some ⟨b, o, none⟩) n c ns) (hrun : Run w b o ns) (hg : greatN 60 ns = false) (hy : mayN ns = true) :
    Calls Tryd.prog 6 #[.slice (some ⟨b, o, none⟩) n c, .int .i64 j, .int .i64 k] w fun e w' => e = .returned (.bool true) ∧ Below w.heap.size w w' := by
  have HA := hide h
  have HRN := hide hrun
  have HG := hide hg
  have HL := hide h.len
  have hnc := h.cap
  have HT := hide (may_tree hy)
  have HMAY := hide hy
  have hn60 : n ≤ 60 := by have := (greatN_not hg).1; rw [h.len] at this; omega
  have hn0 : 0 < n := by rw [← h.len]; exact List.length_pos_iff.2 (mayF_iff.1 hy).1
  clear h hg hy hrun
  go_enter Tryd.func6, Tryd.ntmps6
  go_wp2_with fail
  refine (greatN_ok _ 60 ns false w HA.out.nods (by rw [HL.out]; unfold maxLen; omega) (by decide) (by decide) HG.out).mono ?_
  rintro e w1 ⟨rfl, hw1⟩
  have hw2 := hw1.symm
  clear hw1
  subst hw2
  go_wp2_with fail
  refine (mayT_ok _ ns true _ _ (Ok.start hsh) HT.out.small HA.out.nods (by rw [HL.out]; omega) HMAY.out).mono ?_
  rintro e w2 ⟨rfl, ok2, _⟩
  have HB2 := hide ok2.2
  go_wp2_with fail
  refine (low_any j n w2 (by omega) (by omega)).mono ?_
  rintro e w3 ⟨r, rfl, hr, rfl⟩
  have hrn : r < n := by omega
  obtain ⟨x, hx⟩ : ∃ x, ns[r]? = some x := ⟨ns[r]'(by have := HL.out; omega), List.getElem?_eq_some_iff.2 ⟨_, rfl⟩⟩
  have hxm := List.mem_of_getElem? hx
  have HXM := hide hxm
  obtain ⟨g1, g2, g3⟩ := (HRN.out.2 r x hx).below HB2.out HRN.out.1
  have hxs := HT.out.small x hxm
  obtain ⟨l, hl⟩ : ∃ l, sub ns (key x) = l := ⟨_, rfl⟩
  have HLL := hide hl
  have hts : Tree l := by rw [← hl]; exact HT.out.sub hxm
  have HTS := hide hts
  have hl0 : 0 < l.length := by obtain ⟨z, hz, _⟩ := hts.root; exact List.length_pos_of_mem hz
  have hl60 : l.length ≤ 60 := by rw [← hl]; unfold sub; rw [List.length_map]; have := List.length_filter_le (fun n => Hog.underL (key n) (key x)) ns; have := HL.out; omega
  obtain ⟨ll, hll⟩ : ∃ ll, l.length = ll := ⟨_, rfl⟩
  have HLN := hide hll
  have HE1 := hide (show (lookP ns x.1).2 = true by rw [lookP_of HT.out hxm])
  have HE2 := hide (show subL ns x.1 = l by rw [subL_of HT.out hxm, hl])
  rw [hll] at hl0 hl60
  clear hx hr hxm hl hts hll
  go_wp2_with fail
  refine (sub_on b o c n ns x.1 l true _ w3 ok2 HT.out hxs (HRN.out.below HB2.out HRN.out.1) HL.out hnc (by omega) HE1.out HE2.out).mono ?_
  rintro e w4 ⟨a4, c4, rfl, ho4, ok4, hb4⟩
  have HB4 := hide ok4.2
  clear g1 g2 g3 HB2 ok2 HE1 HE2 hb4
  obtain ⟨b4, o4, hu4, hc4, hr4⟩ : ∃ b4 o4, a4 = some ⟨b4, o4, none⟩ ∧ ll ≤ c4 ∧ Run w4 b4 o4 l := by
    have := HLN.out
    rcases ho4.nods with ⟨e, _⟩ | ⟨b4, o4, c4', e, hc, hr⟩
    · rw [e] at this; simp at this; omega
    · simp only [Value.slice.injEq] at e
      obtain ⟨rfl, _, rfl⟩ := e
      exact ⟨b4, o4, rfl, by omega, hr⟩
  subst hu4
  have HR4 := hide hr4
  clear hr4 ho4
  rw [HLN.out]
  have HMS := hide (tree_may HTS.out)
  go_wp2_with fail
  refine (mayT_ok _ l true _ w4 ok4 HTS.out.small (by rw [← HLN.out]; exact HR4.out.nods (by rw [HLN.out]; exact hc4)) (by rw [HLN.out]; omega) HMS.out).mono ?_
  rintro e w5 ⟨rfl, ok5, hb5⟩
  have HB5 := hide ok5.2
  have HR5 := hide (HR4.out.below hb5 HR4.out.1)
  clear hb5 HB4 HR4 ok4 HMS
  go_wp2_with fail
  refine (low_any k ll w5 (by omega) (by omega)).mono ?_
  rintro e w6 ⟨s, rfl, hs, rfl⟩
  have hsn : s < ll := by omega
  obtain ⟨y, hy⟩ : ∃ y, l[s]? = some y := ⟨l[s]'(by have := HLN.out; omega), List.getElem?_eq_some_iff.2 ⟨_, rfl⟩⟩
  have hym := List.mem_of_getElem? hy
  have HYM := hide hym
  obtain ⟨g1, g2, g3⟩ := HR5.out.2 s y hy
  have hys := HTS.out.small y hym
  obtain ⟨z, hz, hd⟩ := deep_facts HT.out HXM.out (by rw [HLL.out]; exact hym)
  rw [HLL.out] at hd
  have HZM := hide hz
  have HD := hide hd
  have hzs := HT.out.small z hz
  clear hy hym hz hd hs
  have hxy := HT.out.may HXM.out
  have hyy := HTS.out.may HYM.out
  obtain ⟨lx, hlx⟩ : ∃ lx, Hog.cutC (key x) = lx := ⟨_, rfl⟩
  obtain ⟨ly, hly⟩ : ∃ ly, Hog.cutC (key y) = ly := ⟨_, rfl⟩
  have HSX := hide (show Hog.splitL x.1.data.toList = lx by rw [← hlx]; exact split_of hxy)
  have HSY := hide (show Hog.splitL y.1.data.toList = ly by rw [← hly]; exact split_of hyy)
  have hlxn : lx.length ≤ 10 := by rw [← hlx]; exact (Hog.may_parts hxy).2.1
  have hlyn : ly.length ≤ 10 := by rw [← hly]; exact (Hog.may_parts hyy).2.1
  have HLX := hide (show ∀ q ∈ lx ++ ly, q.length < 1000000 by
    intro q hq
    have hpx : ∀ q ∈ lx, Hog.partL q = true := by rw [← hlx]; exact List.all_eq_true.1 (Hog.may_all hxy)
    have hpy : ∀ q ∈ ly, Hog.partL q = true := by rw [← hly]; exact List.all_eq_true.1 (Hog.may_all hyy)
    rcases List.mem_append.1 hq with hq | hq
    · have := (Hog.part_parts (hpx q hq)).2.1; omega
    · have := (Hog.part_parts (hpy q hq)).2.1; omega)
  rw [hlx, hly] at HD
  clear hxy hyy hlx hly
  go_wp2_with fail
  refine (split_ok x.1 lx w w6 ok5 hxs HSX.out).mono ?_
  rintro e w7 ⟨a7, c7, rfl, ho7, ok7, hb7⟩
  have HO7 := hide ho7
  have hb46 : b4 < w6.heap.size := HR5.out.1
  have hs68 := hb7.size
  have HR7 := hide (HR5.out.below hb7 HR5.out.1)
  have hs6 : w.heap.size ≤ w6.heap.size := ok5.size
  clear ho7 hb7 HB5 HR5 ok5 g1 g2 g3
  go_wp2_with fail
  refine (split_ok y.1 ly w w7 ok7 hys HSY.out).mono ?_
  rintro e w8 ⟨a8, c8, rfl, ho8, ok8, hb8⟩
  have HO8 := hide ho8
  have HO7' := hide (HO7.out.below hb8)
  have HR8 := hide (HR7.out.below hb8 HR7.out.1)
  have hs78 := hb8.size
  clear ho8 hb8 HO7 HR7 ok7
  have hs8 : w6.heap.size ≤ w8.heap.size := by omega
  go_wp2_with (at_builtin; refine wpList_append_texts rfl _ _ rfl w6.heap.size _ _ _ (lx.map Hog.mk) (ly.map Hog.mk) rfl HO7'.out rfl HO8.out (by simp; omega) hs8 ?_)
  intro b9 c9 w9 ho9 hb9
  have ok9 : Ok w w9 := ok8.step (hb9.mono hs6)
  have HR9 := hide (HR8.out.below hb9 hb46)
  have HO9 : Hid (Txt w9 (.slice b9 (lx.length + ly.length) c9) ((lx ++ ly).map Hog.mk)) := by
    have h1 := ho9.txt
    rw [← List.map_append] at h1
    exact h1
  clear ho9 hb9 HO7' HO8 HR8 ok8
  go_wp2_with fail
  refine (join_ok _ (lx ++ ly) (key z) true w w9 ok9 HO9.out (by simp; omega) HLX.out HD.out.2.1 HD.out.2.2.1).mono ?_
  rintro e w10 ⟨rfl, ok10, hb10⟩
  rw [mk_key]
  have HR10 := hide (HR9.out.below hb10 HR9.out.1)
  clear hb10 HR9 ok9 HO9
  have HE3 := hide (show (lookP l y.1).2 = true by rw [lookP_of HTS.out HYM.out])
  have HE4 := hide (show (lookP ns z.1).2 = true by rw [lookP_of HT.out HZM.out])
  obtain ⟨u, hu⟩ : ∃ u, subL ns z.1 = u := ⟨_, rfl⟩
  obtain ⟨f, hf⟩ : ∃ f, listB ns z.1 = f := ⟨_, rfl⟩
  obtain ⟨q, hq⟩ : ∃ q, listL ns z.1 = q := ⟨_, rfl⟩
  have HU := hide hu
  have HF := hide hf
  have HQ := hide hq
  have HU' := hide (HD.out.2.2.2.1.trans hu)
  have HF' := hide (HD.out.2.2.2.2.1.trans hf)
  have HQ' := hide (HD.out.2.2.2.2.2.trans hq)
  clear hu hf hq
  go_wp2_with fail
  refine (sub_on b4 o4 c4 ll l y.1 u true w w10 ok10 HTS.out hys HR10.out HLN.out hc4 (by omega) HE3.out HU'.out).mono ?_
  rintro e w11 ⟨a11, c11, rfl, ho11, ok11, hb11⟩
  have HO11 := hide ho11.nods
  have HR11 := hide (HR10.out.below hb11 HR10.out.1)
  clear ho11 hb11 HR10 ok10
  go_wp2_with fail
  refine (sub_on b o c n ns z.1 u true w w11 ok11 HT.out hzs (HRN.out.below ok11.2 HRN.out.1) HL.out hnc (by omega) HE4.out HU.out).mono ?_
  rintro e w12 ⟨a12, c12, rfl, ho12, ok12, hb12⟩
  have HO12 := hide ho12.nods
  have HO11a := hide (HO11.out.below hb12)
  have HR12 := hide (HR11.out.below hb12 HR11.out.1)
  clear ho12 hb12 HR11 ok11 HO11
  go_wp2_with fail
  refine (list_on b4 o4 c4 ll l y.1 q f w w12 ok12 HTS.out HR12.out HLN.out hc4 (by omega) HF'.out HQ'.out).mono ?_
  rintro e w13 ⟨a13, c13, rfl, ho13, ok13, hb13⟩
  have HO13 := hide ho13.txt
  have HO11b := hide (HO11a.out.below hb13)
  have HO12b := hide (HO12.out.below hb13)
  have HR13 := hide (HR12.out.below hb13 HR12.out.1)
  clear ho13 hb13 HR12 ok12 HO11a HO12
  go_wp2_with fail
  refine (list_on b o c n ns z.1 q f w w13 ok13 HT.out (HRN.out.below ok13.2 HRN.out.1) HL.out hnc (by omega) HF.out HQ.out).mono ?_
  rintro e w14 ⟨a14, c14, rfl, ho14, ok14, hb14⟩
  have HO14 := hide ho14.txt
  have HO13c := hide (HO13.out.below hb14)
  have HO11c := hide (HO11b.out.below hb14)
  have HO12c := hide (HO12b.out.below hb14)
  have HR14 := hide (HR13.out.below hb14 HR13.out.1)
  clear ho14 hb14 HR13 ok13 HO11b HO12b HO13
  go_wp2_with fail
  refine (lookup_on _ l y.1 y true w w14 ok14 HTS.out (by rw [← HLN.out]; exact HR14.out.nods (by rw [HLN.out]; exact hc4)) (by rw [HLN.out]; omega) (lookP_of HTS.out HYM.out)).mono ?_
  rintro e w15 ⟨rfl, ok15, hb15⟩
  have hb15' := below_two hb15 (below_box w15 (.cells #[.string y.1, .int .i64 y.2.1, .string y.2.2] 27))
  have HO11d := hide (HO11c.out.below hb15')
  have HO12d := hide (HO12c.out.below hb15')
  have HO13d := hide (HO13c.out.below hb15')
  have HO14d := hide (HO14.out.below hb15')
  have HX15 := hide (Blk.made w15 y)
  have ok15' := ok15.alloc (.cells #[.string y.1, .int .i64 y.2.1, .string y.2.2] 27)
  clear hb15 hb15' HR14 ok14 HO11c HO12c HO13c HO14
  go_wp2_with fail
  refine (lookup_on _ ns z.1 z true w _ ok15' HT.out (HA.out.below ok15'.2).nods (by rw [HL.out]; omega) (lookP_of HT.out HZM.out)).mono ?_
  rintro e w16 ⟨rfl, ok16, hb16⟩
  have hb16' := below_two hb16 (below_box w16 (.cells #[.string z.1, .int .i64 z.2.1, .string z.2.2] 27))
  have HO11e := hide (HO11d.out.below hb16')
  have HO12e := hide (HO12d.out.below hb16')
  have HO13e := hide (HO13d.out.below hb16')
  have HO14e := hide (HO14d.out.below hb16')
  have HX16 := hide (HX15.out.below hb16')
  have HZ16 := hide (Blk.made w16 z)
  have ok16' := ok16.alloc (.cells #[.string z.1, .int .i64 z.2.1, .string z.2.2] 27)
  clear hb16 hb16' ok15 ok15' ok16 HO11d HO12d HO13d HO14d HX15
  have hul : u.length ≤ 60 := by rw [← HU.out, subL_of HT.out HZM.out]; unfold sub; rw [List.length_map]; have := List.length_filter_le (fun n => Hog.underL (key n) (key z)) ns; have := HL.out; omega
  have hql : q.length ≤ 60 := by
    rw [← HQ.out, listL_of HT.out HZM.out]
    split
    · unfold names; rw [List.length_map]; have := List.length_filter_le (inDir (key z)) ns; have := HL.out; omega
    · simp
  go_wp2_with fail
  refine (sameN_any _ _ u u _ HO11e.out HO12e.out (by omega)).mono ?_
  rintro e w17 ⟨rfl, hb17⟩
  rw [decide_eq_true rfl]
  have HO13f := hide (HO13e.out.below hb17)
  have HO14f := hide (HO14e.out.below hb17)
  have HX17 := hide (HX16.out.below hb17)
  have HZ17 := hide (HZ16.out.below hb17)
  have ok17 := ok16'.next hb17
  clear hb17 HO11e HO12e HO13e HO14e HX16 HZ16 ok16'
  have hff : (f == f) = true := by cases f <;> rfl
  go_wp2_with fail
  refine (same_ok _ _ q q true w w17 ok17 HO13f.out HO14f.out (by omega) (decide_eq_true rfl)).mono ?_
  rintro e w18 ⟨rfl, ok18, hb18⟩
  obtain ⟨⟨x1, x2, x3⟩, _, _⟩ := (HX17.out.below hb18).facts
  obtain ⟨⟨z1, z2, z3⟩, _, _⟩ := (HZ17.out.below hb18).facts
  have hk1 : y.2.1 = z.2.1 := by rw [HD.out.1]
  have hk2 : y.2.2 = z.2.2 := by rw [HD.out.1]
  rw [hk1] at x2
  rw [hk2] at x3
  clear hb18 HO13f HO14f HX17 HZ17 ok17 hk1 hk2
  go_wp2_with fail
  refine (awake3_ok _ _ ok18).mono ?_
  rintro e w19 ⟨rfl, ok19, _⟩
  go_wp2_with fail
  go_ret
  exact ⟨rfl, ok19.2⟩

theorem deep_walk (ao : Option Addr) (n c : Nat) (ns : List Nd) (j k : Int) (w : World) (hsh : w.ShapedOpen Tryd.prog) (h : ArgN w ao n c ns) (hm : n ≤ maxLen) :
    Calls Tryd.prog 6 #[.slice ao n c, .int .i64 j, .int .i64 k] w fun e w' => e = .returned (.bool true) ∧ Below w.heap.size w w' := by
  cases hg : greatN 60 ns with
  | true => exact deep_great ao n c ns j k w hsh h hm hg
  | false =>
    cases hy : mayN ns with
    | false => exact deep_none ao n c ns j k w hsh h hg hy
    | true =>
      rcases h.nods with ⟨e, _⟩ | ⟨b, o, c', e, _, hr⟩
      · exact absurd e (mayF_iff.1 hy).1
      · simp only [Value.slice.injEq] at e
        obtain ⟨rfl, _, _⟩ := e
        exact deep_main b o n c ns j k w hsh h hr hg hy
end Go.Proofs.YtomomeckgiiapaaDoor
