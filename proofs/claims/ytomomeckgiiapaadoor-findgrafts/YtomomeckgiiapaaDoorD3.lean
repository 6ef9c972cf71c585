/- The walk of the statement FindGrafts: for every nodes, every text, every nodes and every number it answers true. -/
import Derived.Test.YtomomeckgiiapaaDoorPlainG
namespace Go.Proofs.YtomomeckgiiapaaDoor
open Go.RowKit

theorem later_belowF {w w' : World} (h : ∃ p : Later w, w' = p.w1) : Below w.heap.size w w' := by
  obtain ⟨⟨w1, hb⟩, rfl⟩ := h
  exact hb

set_option maxRecDepth 100000 in
set_option maxHeartbeats 1000000 in
theorem grafts_none (ao bo : Option Addr) (n c m d : Nat) (ns us : List Nd) (p : ByteArray) (k : Int) (w : World) (hsh : w.ShapedOpen Tryd.prog) (h : ArgN w ao n c ns) (hn : n ≤ maxLen) (h' : ArgN w bo m d us) (hm : m ≤ maxLen)
    (b1 b2 b3 : Bool) (hb1 : greatN 40 ns = b1) (hb2 : greatN 20 us = b2) (hb3 : mayN ns = b3) (hno : b1 = true ∨ b2 = true ∨ 200 < p.size ∨ b3 = false ∨ mayN us = false) :
    Calls Tryd.prog 4 #[.slice ao n c, .string p, .slice bo m d, .int .i64 k] w fun e w' => e = .returned (.bool true) ∧ Below w.heap.size w w' := by
  have HA := hide h
  have HU := hide h'
  have HLN := hide h.len
  have HLU := hide h'.len
  have G1 := hide hb1
  have G2 := hide hb2
  have G3 := hide hb3
  clear h h' hb1 hb2 hb3
  go_enter Tryd.func4, Tryd.ntmps4
  go_wp2_with fail
  refine (greatN_ok _ 40 ns b1 w HA.out.nods (by rw [HLN.out]; exact hn) (by decide) (by decide) G1.out).mono ?_
  rintro e w1 ⟨rfl, rfl⟩
  cases b1 with
  | true =>
    go_wp2_with fail
    refine (awake3_ok _ _ (Ok.start hsh)).mono ?_
    rintro e w2 ⟨rfl, ok2, _⟩
    go_wp2_with fail
    go_ret
    exact ⟨rfl, ok2.2⟩
  | false =>
    go_wp2_with fail
    refine (greatN_ok _ 20 us b2 _ HU.out.nods (by rw [HLU.out]; exact hm) (by decide) (by decide) G2.out).mono ?_
    rintro e w1' ⟨rfl, rfl⟩
    cases b2 with
    | true =>
      go_wp2_with fail
      refine (awake3_ok _ _ (Ok.start hsh)).mono ?_
      rintro e w2 ⟨rfl, ok2, _⟩
      go_wp2_with fail
      go_ret
      exact ⟨rfl, ok2.2⟩
    | false =>
      by_cases hp : 200 < p.size
      · have hp' : (200 : Int) < (p.size : Int) := by omega
        go_wp2_with fail
        refine (awake3_ok _ _ (Ok.start hsh)).mono ?_
        rintro e w2 ⟨rfl, ok2, _⟩
        go_wp2_with fail
        go_ret
        exact ⟨rfl, ok2.2⟩
      · have hp' : (p.size : Int) ≤ 200 := by omega
        have q1 := (greatN_not G1.out).1
        have q2 := (greatN_not G2.out).1
        rw [HLN.out] at q1
        rw [HLU.out] at q2
        have HS1 := hide (greatN_not G1.out).2
        have HS2 := hide (greatN_not G2.out).2
        go_wp2_with fail
        refine (mayT_ok _ ns b3 _ _ (Ok.start hsh) (fun z hz => by have := (HS1.out z hz).1; omega) HA.out.nods (by rw [HLN.out]; omega) G3.out).mono ?_
        rintro e w2 ⟨rfl, ok2, _⟩
        cases b3 with
        | false =>
          go_wp2_with fail
          refine (awake3_ok _ _ ok2).mono ?_
          rintro e w3 ⟨rfl, ok3, _⟩
          go_wp2_with fail
          go_ret
          exact ⟨rfl, ok3.2⟩
        | true =>
          have hu : mayN us = false := by simpa [hp] using hno
          have HUS := hide hu
          clear hu hno
          go_wp2_with fail
          refine (mayT_ok _ us false _ _ ok2 (fun z hz => by have := (HS2.out z hz).1; omega) (HU.out.below ok2.2).nods (by rw [HLU.out]; omega) HUS.out).mono ?_
          rintro e w3 ⟨rfl, ok3, _⟩
          go_wp2_with fail
          refine (awake3_ok _ _ ok3).mono ?_
          rintro e w4 ⟨rfl, ok4, _⟩
          go_wp2_with fail
          go_ret
          exact ⟨rfl, ok4.2⟩

set_option maxRecDepth 100000 in
set_option maxHeartbeats 4000000 in
theorem grafts_main (b o n c bs os m d : Nat) (ns us : List Nd) (p : ByteArray) (k : Int) (w : World) (hsh : w.ShapedOpen Tryd.prog) (h : ArgN w (some ⟨b, o, none⟩) n c ns) (hrun : Run w b o ns) (h' : ArgN w (some ⟨bs, os, none⟩) m d us) (hrun' : Run w bs os us)
    (hb1 : greatN 40 ns = false) (hb2 : greatN 20 us = false) (hp : p.size ≤ 200) (hy : mayN ns = true) (hy' : mayN us = true) :
    Calls Tryd.prog 4 #[.slice (some ⟨b, o, none⟩) n c, .string p, .slice (some ⟨bs, os, none⟩) m d, .int .i64 k] w fun e w' => e = .returned (.bool true) ∧ Below w.heap.size w w' := by
  have q1 := (greatN_not hb1).1
  have q2 := (greatN_not hb2).1
  rw [h.len] at q1
  rw [h'.len] at q2
  have hdp : decide ((200 : Int) < (p.size : Int)) = false := by rw [decide_eq_false_iff_not]; omega
  have HA := hide h
  have HU := hide h'
  have HR := hide hrun
  have HRU := hide hrun'
  have HLN := hide h.len
  have HLU := hide h'.len
  have hmd := h'.cap
  have hnc := h.cap
  have G1 := hide hb1
  have G2 := hide hb2
  have G3 := hide hy
  have G4 := hide hy'
  have T1 := hide (may_tree hy)
  have T2 := hide (may_tree hy')
  have hn0 : 0 < n := by rw [← h.len]; exact List.length_pos_iff.2 (mayF_iff.1 hy).1
  clear h h' hb1 hb2 hy hy' hrun hrun'
  go_enter Tryd.func4, Tryd.ntmps4
  go_wp2_with fail
  refine (greatN_ok _ 40 ns false w HA.out.nods (by rw [HLN.out]; unfold maxLen; omega) (by decide) (by decide) G1.out).mono ?_
  rintro e w1 ⟨rfl, hw⟩
  have hw2 := hw.symm
  clear hw
  subst hw2
  go_wp2_with fail
  refine (greatN_ok _ 20 us false _ HU.out.nods (by rw [HLU.out]; unfold maxLen; omega) (by decide) (by decide) G2.out).mono ?_
  rintro e w1' ⟨rfl, hw⟩
  have hw2 := hw.symm
  clear hw
  subst hw2
  go_wp2_with fail
  refine (mayT_ok _ ns true _ _ (Ok.start hsh) T1.out.small HA.out.nods (by rw [HLN.out]; omega) G3.out).mono ?_
  rintro e w2 ⟨rfl, ok2, _⟩
  go_wp2_with fail
  refine (mayT_ok _ us true _ _ ok2 T2.out.small (HU.out.below ok2.2).nods (by rw [HLU.out]; omega) G4.out).mono ?_
  rintro e w3 ⟨rfl, ok3, _⟩
  clear ok2
  cases hm : Hog.mayL p.data.toList with
  | false =>
    have HM := hide hm
    clear hm
    go_wp2_with fail
    refine (graft_no _ _ ns us p false true _ w3 ok3 (by omega) (HA.out.below ok3.2).nods (HU.out.below ok3.2).nods T1.out.small T2.out.small (by rw [HLN.out]; omega) (by rw [HLU.out]; omega) HM.out G3.out (.inl rfl)).mono ?_
    rintro e w4 ⟨rfl, ok4, _⟩
    go_wp2_with fail
    refine (awake3_ok _ _ ok4).mono ?_
    rintro e w5 ⟨rfl, ok5, _⟩
    go_wp2_with fail
    go_ret
    exact ⟨rfl, ok5.2⟩
  | true =>
    have HM := hide hm
    clear hm
    go_wp2_with fail
    refine (graft_yes _ bs os d m ns us p _ w3 ok3 (HA.out.below ok3.2).nods (HRU.out.below ok3.2 HRU.out.1) HLU.out hmd HM.out G3.out G4.out).mono ?_
    rintro e w4 ⟨f, g, a4, c4, rfl, ho4, hg4, ok4, _⟩
    cases f with
    | false =>
      obtain ⟨hge, _⟩ := hg4.2 rfl
      subst hge
      go_wp2_with fail
      refine (awake3_ok _ _ ok4).mono ?_
      rintro e w5 ⟨rfl, ok5, _⟩
      go_wp2_with fail
      go_ret
      exact ⟨rfl, ok5.2⟩
    | true =>
      obtain ⟨_, _, _, hmg, hperm⟩ := hg4.1 rfl
      have TG := hide (may_tree hmg)
      have GM := hide hmg
      have GR := hide (grafted HM.out T1.out T2.out TG.out hperm)
      have hgl : g.length = n + m := by rw [GR.out.len, HLN.out, HLU.out]
      have hgl60 : g.length ≤ 60 := by omega
      have hg0 : 0 < g.length := by omega
      obtain ⟨lg, hlg⟩ : ∃ lg, g.length = lg := ⟨_, rfl⟩
      have HLG := hide hlg
      rw [hlg] at hgl hgl60 hg0
      obtain ⟨bg, og, ha4, hc4, hr4⟩ : ∃ bg og, a4 = some ⟨bg, og, none⟩ ∧ lg ≤ c4 ∧ Run w4 bg og g := by
        rcases ho4.nods with ⟨e, _⟩ | ⟨b4, o4, c4', e, hc, hr⟩
        · rw [e] at hlg; simp at hlg; omega
        · simp only [Value.slice.injEq] at e
          obtain ⟨rfl, _, rfl⟩ := e
          exact ⟨b4, o4, rfl, by omega, hr⟩
      subst ha4
      rw [hlg]
      have HRG := hide hr4
      clear ho4 hg4 hmg hperm hr4 hlg
      have hlm : ((lg : Int) != (n : Int) + (m : Int)) = false := by rw [hgl]; simp
      have HGL := hide hgl
      clear hgl
      obtain ⟨z, hz, hzp⟩ := GR.out.stands
      have HE1 := hide (show (lookP g p).2 = true by rw [← hzp, lookP_of TG.out hz])
      have HE2 := hide (show subL g p = us by unfold subL; rw [HE1.out, if_pos rfl, GR.out.back])
      clear hz hzp
      go_wp2_with fail
      refine (sub_on bg og c4 lg g p us true w w4 ok4 TG.out (by omega) HRG.out HLG.out hc4 (by omega) HE1.out HE2.out).mono ?_
      rintro e w5 ⟨a5, c5, rfl, ho5, ok5, hb5⟩
      have HN5 := hide ho5.nods
      have HR5 := hide (HRG.out.below hb5 HRG.out.1)
      clear ho5 hb5 HRG
      go_wp2_with fail
      refine (sameN_any _ _ us us w5 HN5.out (HU.out.below ok5.2).nods (by rw [HLU.out]; omega)).mono ?_
      rintro e w6 ⟨rfl, hb6⟩
      rw [decide_eq_true rfl]
      have HR6 := hide (HR5.out.below hb6 HR5.out.1)
      have ok6 := ok5.next hb6
      clear hb6 HR5 HN5
      go_wp2_with fail
      refine (mayT_ok _ g true _ w6 ok6 TG.out.small (by rw [← HLG.out]; exact HR6.out.nods (by rw [HLG.out]; exact hc4)) (by rw [HLG.out]; omega) GM.out).mono ?_
      rintro e w7 ⟨rfl, ok7, hb7⟩
      have HR7 := hide (HR6.out.below hb7 HR6.out.1)
      clear hb7 HR6 ok6 ok5
      go_wp2_with fail
      refine (low_any k lg w7 (by omega) (by omega)).mono ?_
      rintro e w8 ⟨r, rfl, hr, hw8⟩
      rw [hw8]
      clear hw8
      have hrn : r < lg := by omega
      have hrn' : (r : Int) < (lg : Int) := by omega
      obtain ⟨x, hx⟩ : ∃ x, g[r]? = some x := ⟨g[r]'(by have := HLG.out; omega), List.getElem?_eq_some_iff.2 ⟨_, rfl⟩⟩
      have HX := hide hx
      have HXM := hide (List.mem_of_getElem? hx)
      have hxs := TG.out.small x HXM.out
      obtain ⟨g1, g2, g3⟩ := HR7.out.2 r x hx
      clear hx hr
      have HLX := hide (lookP_of TG.out HXM.out)
      obtain ⟨l, hl⟩ : ∃ l, sub g (key x) = l := ⟨_, rfl⟩
      have HLL := hide (show subL g x.1 = l by rw [subL_of TG.out HXM.out, hl])
      have HTL := hide (show Tree l by rw [← hl]; exact TG.out.sub HXM.out)
      have hl0 : 0 < l.length := by obtain ⟨z, hz, _⟩ := HTL.out.root; exact List.length_pos_of_mem hz
      have hl60 : l.length ≤ 60 := by rw [← hl]; unfold sub; rw [List.length_map]; have := List.length_filter_le (fun n => Hog.underL (key n) (key x)) g; have := HLG.out; omega
      obtain ⟨y, hy⟩ : ∃ y, l[0]? = some y := ⟨l[0]'hl0, List.getElem?_eq_getElem hl0⟩
      have hyk : y.2.1 = x.2.1 := sub_first TG.out HXM.out (by rw [hl]; exact hy)
      have HY := hide hy
      have HYK := hide hyk
      clear hl hy hyk
      obtain ⟨ll, hll⟩ : ∃ ll, l.length = ll := ⟨_, rfl⟩
      have HLN2 := hide hll
      rw [hll] at hl0 hl60
      clear hll
      go_wp2_with fail
      refine (lookup_on _ g x.1 x true w w7 ok7 TG.out (by rw [← HLG.out]; exact HR7.out.nods (by rw [HLG.out]; exact hc4)) (by rw [HLG.out]; omega) HLX.out).mono ?_
      rintro e w9 ⟨rfl, ok9, hb9⟩
      have ok9' := ok9.alloc (.cells #[.string x.1, .int .i64 x.2.1, .string x.2.2] 27)
      have hb9' := below_two hb9 (below_box w9 (.cells #[.string x.1, .int .i64 x.2.1, .string x.2.2] 27))
      have HR9 := hide (HR7.out.below hb9' HR7.out.1)
      have HX9 := hide (Blk.made w9 x)
      clear hb9 hb9' HR7 ok7 ok9 g1 g2 g3
      obtain ⟨g1, g2, g3⟩ := HR9.out.2 r x HX.out
      go_wp2_with fail
      refine (sub_on bg og c4 lg g x.1 l true w _ ok9' TG.out hxs HR9.out HLG.out hc4 (by omega) (by rw [HLX.out]) HLL.out).mono ?_
      rintro e w10 ⟨a10, c10, rfl, ho10, ok10, hb10⟩
      have HR10 := hide (HR9.out.below hb10 HR9.out.1)
      have HX10 := hide (HX9.out.below hb10)
      have HO10 := hide ho10.nods
      clear g1 g2 g3 hb10 ho10 HR9 HX9 ok9'
      obtain ⟨bl, ol, ha10, hc10, hr10⟩ : ∃ bl ol, a10 = some ⟨bl, ol, none⟩ ∧ ll ≤ c10 ∧ Run w10 bl ol l := by
        have := HLN2.out
        rcases HO10.out with ⟨e, _⟩ | ⟨b4, o4, c4', e, hc, hr⟩
        · rw [e] at this; simp at this; omega
        · simp only [Value.slice.injEq] at e
          obtain ⟨rfl, _, rfl⟩ := e
          exact ⟨b4, o4, rfl, by omega, hr⟩
      subst ha10
      rw [HLN2.out]
      have HRL := hide hr10
      clear hr10 HO10
      obtain ⟨⟨x1, x2, x3⟩, _, hbx⟩ := HX10.out.facts
      obtain ⟨g1, g2, g3⟩ := HR10.out.2 r x HX.out
      have y2 := (HRL.out.2 0 y HY.out).kind
      rw [HYK.out] at y2
      have hbg : bg < w10.heap.size := HR10.out.1
      have hbl : bl < w10.heap.size := HRL.out.1
      have HML := hide (tree_may HTL.out)
      have HC1 : Hid (∀ p : Later w10, Calls Tryd.prog 23 #[.slice (some ⟨bl, ol, none⟩) ll c10] p.w1 fun e w' => e = .returned (.bool true) ∧ Below p.w1.heap.size p.w1 w') := fun p =>
        (mayT_ok _ l true w p.w1 (ok10.next p.below) HTL.out.small (by rw [← HLN2.out]; exact (HRL.out.below p.below HRL.out.1).nods (by rw [HLN2.out]; exact hc10)) (by rw [HLN2.out]; omega) HML.out).mono fun e w' ⟨q1, _, q3⟩ => ⟨q1, q3⟩
      have u1 : ∀ p : Later w10, p.w1.cell? ⟨w9.heap.size, 0, none⟩ = some (.string x.1) := fun p => p.cell hbx x1
      have u2 : ∀ p : Later w10, p.w1.cell? ⟨w9.heap.size, 1, none⟩ = some (.int .i64 x.2.1) := fun p => p.cell hbx x2
      have u3 : ∀ p : Later w10, p.w1.cell? ⟨w9.heap.size, 2, none⟩ = some (.string x.2.2) := fun p => p.cell hbx x3
      have v1 : ∀ p : Later w10, p.w1.cell? ⟨bg, og + r * 3, none⟩ = some (.string x.1) := fun p => p.cell hbg g1
      have v2 : ∀ p : Later w10, p.w1.cell? ⟨bg, og + r * 3 + 1, none⟩ = some (.int .i64 x.2.1) := fun p => p.cell hbg g2
      have v3 : ∀ p : Later w10, p.w1.cell? ⟨bg, og + r * 3 + 2, none⟩ = some (.string x.2.2) := fun p => p.cell hbg g3
      have z2 : ∀ p : Later w10, p.w1.cell? ⟨bl, ol + 1, none⟩ = some (.int .i64 x.2.1) := fun p => p.cell hbl (by simpa using y2)
      have hnq := fun w => neq_node x x w
      have hgd := guard_node
      have hnn : nneq x x = false := by simp [nneq]
      rw [hnn] at hnq
      have hl1 : ¬ (ll : Int) < 1 := by omega
      have hl0' : (0 : Int) < (ll : Int) := by omega
      have hkk : (x.2.1 != x.2.1) = false := by simp
      have hne := later_one w10
      clear x1 x2 x3 g1 g2 g3 y2
      go_wp2
      refine wp_region_later (by kernel_rfl) (by kernel_rfl) ?_
      repeat (first | go_big_quiet_step ((go_at_call 23; exact Calls.later_of (HC1.out _))) | quiet_step ((go_at_call 23; exact Calls.later_of (HC1.out _))))
      refine wpQuiet_nil ?_
      intro W11 hw'
      have hbq := later_belowF hw'
      have ok11 := ok10.next hbq
      have HR11 := hide (HR10.out.below hbq HR10.out.1)
      clear hw' hbq u1 u2 u3 v1 v2 v3 z2 HC1 hnq hnn hne HRL HR10 HX10 ok10
      go_wp2
      go_loopw [17, 18, 19] (fun i _ _ wr => ∃ (i' : Nat), i' ≤ n ∧ i = .int .i64 i' ∧ Hid (Ok w wr) ∧ Hid (Run wr bg og g)) (fun i _ _ _ => n - (intOf i).toNat)
      case atStart => exact ⟨0, Nat.zero_le _, rfl, ok11, HR11⟩
      case round =>
        obtain ⟨i, hi, rfl, OKR, HRR⟩ := hrel
        by_cases hlt : i < n
        · have hlt' : (i : Int) < (n : Int) := by omega
          obtain ⟨y, hy⟩ : ∃ y, ns[i]? = some y := ⟨ns[i]'(by have := HLN.out; omega), List.getElem?_eq_some_iff.2 ⟨_, rfl⟩⟩
          have HYI := hide hy
          have hym := List.mem_of_getElem? hy
          obtain ⟨hyg, hyu⟩ := GR.out.old y hym
          have HYU := hide hyu
          have hys := T1.out.small y hym
          have HLY := hide (lookP_of TG.out hyg)
          obtain ⟨y1, y2, y3⟩ := (HR.out.2 i y hy).below OKR.out.2 HR.out.1
          clear hy hym hyg hyu
          go_wp2_with fail
          refine (lookup_on _ g y.1 y true w wr OKR.out TG.out (by rw [← HLG.out]; exact HRR.out.nods (by rw [HLG.out]; exact hc4)) (by rw [HLG.out]; omega) HLY.out).mono ?_
          rintro e w12 ⟨rfl, ok12, hb12⟩
          have ok12' := ok12.alloc (.cells #[.string y.1, .int .i64 y.2.1, .string y.2.2] 27)
          have HR12 := hide (HRR.out.below (below_two hb12 (below_box w12 (.cells #[.string y.1, .int .i64 y.2.1, .string y.2.2] 27))) HRR.out.1)
          have hsz12 : w.heap.size ≤ w12.heap.size := ok12.size
          clear hb12 ok12 y1 y2 y3 OKR HRR
          obtain ⟨W, hW⟩ : ∃ W, W = w12.alloc (.cells #[.string y.1, .int .i64 y.2.1, .string y.2.2] 27) := ⟨_, rfl⟩
          have hBW : Blk W w12.heap.size y := by rw [hW]; exact Blk.made w12 y
          rw [← hW] at ok12' HR12
          obtain ⟨⟨x1, x2, x3⟩, _, hbx⟩ := hBW.facts
          obtain ⟨y1, y2, y3⟩ := (HR.out.2 i y HYI.out).below ok12'.2 HR.out.1
          have hbb : b < W.heap.size := Nat.lt_of_lt_of_le HR.out.1 ok12'.2.size
          have HC1 : Hid (∀ q : Later W, Calls Tryd.prog 25 #[.string y.1, .string p] q.w1 fun e w' => e = .returned (.bool false) ∧ Below q.w1.heap.size q.w1 w') := fun q =>
            (under_ok y.1 p false w q.w1 (ok12'.next q.below) hys (by omega) HYU.out).mono fun e w' ⟨q1, _, q3⟩ => ⟨q1, q3⟩
          have u1 : ∀ q : Later W, q.w1.cell? ⟨w12.heap.size, 0, none⟩ = some (.string y.1) := fun q => q.cell hbx x1
          have u2 : ∀ q : Later W, q.w1.cell? ⟨w12.heap.size, 1, none⟩ = some (.int .i64 y.2.1) := fun q => q.cell hbx x2
          have u3 : ∀ q : Later W, q.w1.cell? ⟨w12.heap.size, 2, none⟩ = some (.string y.2.2) := fun q => q.cell hbx x3
          have v1 : ∀ q : Later W, q.w1.cell? ⟨b, o + i * 3, none⟩ = some (.string y.1) := fun q => q.cell hbb y1
          have v2 : ∀ q : Later W, q.w1.cell? ⟨b, o + i * 3 + 1, none⟩ = some (.int .i64 y.2.1) := fun q => q.cell hbb y2
          have v3 : ∀ q : Later W, q.w1.cell? ⟨b, o + i * 3 + 2, none⟩ = some (.string y.2.2) := fun q => q.cell hbb y3
          have hnq := fun w => neq_node y y w
          have hnn : nneq y y = false := by simp [nneq]
          rw [hnn] at hnq
          have hne := later_one W
          have HW := hide hW
          clear x1 x2 x3 y1 y2 y3 hW hBW
          go_wp2
          rw [← HW.out]
          refine wp_region_later (by kernel_rfl) (by kernel_rfl) ?_
          repeat (first | go_big_quiet_step ((go_at_call 25; exact Calls.later_of (HC1.out _))) | quiet_step ((go_at_call 25; exact Calls.later_of (HC1.out _))))
          refine wpQuiet_nil ?_
          intro W13 hw'
          have hbq := later_belowF hw'
          have OK13 := hide (ok12'.next hbq)
          have HR13 := hide (HR12.out.below hbq HR12.out.1)
          clear hw' hbq u1 u2 u3 v1 v2 v3 HC1 hnq hnn hne HW
          go_wp2
          go_roundw
          case rel => exact ⟨i + 1, by omega, by go_num, OK13, HR13⟩
          case measure => simp [intOf]; omega
        · have hlt' : (n : Int) ≤ (i : Int) := by omega
          go_wp2_with fail
          refine (awake3_ok _ _ OKR.out).mono ?_
          rintro e w12 ⟨rfl, ok12, _⟩
          go_wp2_with fail
          go_ret
          exact ⟨rfl, ok12.2⟩

theorem grafts_walk (ao : Option Addr) (n c : Nat) (ns : List Nd) (p : ByteArray) (bo : Option Addr) (m d : Nat) (us : List Nd) (k : Int) (w : World) (hsh : w.ShapedOpen Tryd.prog) (h : ArgN w ao n c ns) (hn : n ≤ maxLen) (_ : p.size ≤ maxLen) (h' : ArgN w bo m d us) (hm : m ≤ maxLen) :
    Calls Tryd.prog 4 #[.slice ao n c, .string p, .slice bo m d, .int .i64 k] w fun e w' => e = .returned (.bool true) ∧ Below w.heap.size w w' := by
  by_cases hall : greatN 40 ns = false ∧ greatN 20 us = false ∧ p.size ≤ 200 ∧ mayN ns = true ∧ mayN us = true
  · obtain ⟨h1, h2, h3, h4, h5⟩ := hall
    rcases h.nods with ⟨e, _⟩ | ⟨b, o, c', e, _, hr⟩
    · exact absurd e (mayF_iff.1 h4).1
    · simp only [Value.slice.injEq] at e
      obtain ⟨rfl, _, _⟩ := e
      rcases h'.nods with ⟨e, _⟩ | ⟨bs, os, d', e, _, hr'⟩
      · exact absurd e (mayF_iff.1 h5).1
      · simp only [Value.slice.injEq] at e
        obtain ⟨rfl, _, _⟩ := e
        exact grafts_main b o n c bs os m d ns us p k w hsh h hr h' hr' h1 h2 h3 h4 h5
  · refine grafts_none ao bo n c m d ns us p k w hsh h hn h' hm _ _ _ rfl rfl rfl ?_
    cases e1 : greatN 40 ns with
    | true => exact .inl rfl
    | false =>
      cases e2 : greatN 20 us with
      | true => exact .inr (.inl rfl)
      | false =>
        by_cases e3 : 200 < p.size
        · exact .inr (.inr (.inl e3))
        · cases e4 : mayN ns with
          | false => exact .inr (.inr (.inr (.inl rfl)))
          | true =>
            cases e5 : mayN us with
            | false => exact .inr (.inr (.inr (.inr rfl)))
            | true => exact absurd ⟨e1, e2, by omega, e4, e5⟩ hall
end Go.Proofs.YtomomeckgiiapaaDoor
