/- The walk of the statement UnionOrder: of whatever trees it answers true. -/
import Derived.Test.YteablfekfijnhaaDoorE1
import Derived.Test.YteablfekfijnhaaDoorA1
import Derived.Test.YteablfekfijnhaaDoorPlainV
namespace Go.Proofs.YteablfekfijnhaaDoor
open Go.RowKit

theorem Small.flat {ts : List (List Nd)} (h : Small ts) : ts.flatten.length ≤ 150 := by
  have h1 := flat_bound ts 30 fun t ht => (h.2 t ht).1
  have h2 := h.1
  omega
theorem Small.size {ts : List (List Nd)} (h : Small ts) : ∀ t ∈ ts, ∀ n ∈ t, n.1.size < 999999 := fun t ht n hn => by have := ((h.2 t ht).2 n hn).1; omega
theorem good_small {n : Nd} (h : goodB n = true) : n.1.size < 999999 := by
  have h1 := good_may h
  unfold Hog.mayL at h1
  rw [Bool.and_eq_true, decide_eq_true_iff] at h1
  have := Hog.size_len n.1
  unfold key at h1
  omega
theorem lookP_of' {t : List Nd} (h : Tree t) {n : Nd} (hn : n ∈ t) : lookP t n.1 = (n, true) := lookP_some (tree_may h) (look_of h.rise hn rfl)
theorem back_step {ts : List (List Nd)} {q : Nat} {t : List Nd} (h : ts[q]? = some t) : (ts.drop q).reverse = (ts.drop (q + 1)).reverse ++ [t] := by
  obtain ⟨hq, rfl⟩ := List.getElem?_eq_some_iff.1 h
  rw [List.drop_eq_getElem_cons hq, List.reverse_cons]

set_option maxRecDepth 100000 in
set_option maxHeartbeats 8000000 in
theorem order_walk (v : Value) (ts : List (List Nd)) (w : World) (hsh : w.ShapedOpen Tryd.prog) (hT : Trs w v ts) (hm : ∀ t ∈ ts, t.length ≤ maxLen) :
    Calls Tryd.prog 4 #[v] w fun e w' => e = .returned (.bool true) ∧ Below w.heap.size w w' := by
  obtain ⟨ao, c, rfl, hA⟩ := hT.open
  obtain ⟨n, hn⟩ : ∃ n, n = ts.length := ⟨_, rfl⟩
  rw [← hn] at hT ⊢
  have HN := hide hn
  have HT := hide hT
  have HA := hide hA
  have HM := hide hm
  have ok0 : Ok w w := Ok.start hsh
  clear hT hA hm hn
  go_enter Tryd.func4, Tryd.ntmps4
  go_wp2_with fail
  refine (great_ok _ ts w HT.out HM.out).mono ?_
  rintro e w1 ⟨g, rfl, hg, rfl⟩
  cases g with
  | true =>
    go_wp2_with fail
    refine (awake4_ok w1 w1 ok0).mono ?_
    rintro e w2 ⟨rfl, ok2, hb2⟩
    go_wp2
    go_ret
    exact ⟨rfl, hb2⟩
  | false =>
    have HS := hide (hg rfl)
    have hn5 : n ≤ 5 := by have := HS.out.1; have := HN.out; omega
    clear hg
    go_wp2
    go_loopw [3, 4] (fun s i wr => ∃ m : Nat, m ≤ n ∧ ((m = 0 ∧ i = .int .i64 (-1)) ∨ ∃ q : Nat, m = q + 1 ∧ i = .int .i64 q) ∧ Hid (∃ xs, OwnV w1.heap.size wr s xs ∧ Holds w1 xs (ts.drop m).reverse) ∧ Hid (Ok w1 wr)) (fun _ i _ => (intOf i + 1).toNat)
    case atStart =>
      refine ⟨n, Nat.le_refl _, ?_, ⟨[], OwnV.nil _ _, ?_⟩, ok0⟩
      · cases n with
        | zero => exact .inl ⟨rfl, by go_num⟩
        | succ q => exact .inr ⟨q, rfl, by go_num⟩
      · rw [HN.out, List.drop_length]
        exact Holds.nil _
    case round =>
      obtain ⟨m, hmn, hi, HI, HOK⟩ := hrel
      rcases hi with ⟨rfl, rfl⟩ | ⟨q, rfl, rfl⟩
      · obtain ⟨xs, hox, hhx⟩ := HI.out
        have HTB : Hid (Trs wr u3 ts.reverse) := by
          have h1 := hox.trs (hhx.below HOK.out.2)
          rw [List.drop_zero] at h1
          exact h1
        obtain ⟨a3, c3, e3⟩ := hox.form
        subst e3
        have HT1 := hide (HT.out.below HOK.out.2)
        have HSR : Hid (Small ts.reverse) := ⟨by rw [List.length_reverse]; exact HS.out.1, fun t ht => HS.out.2 t (List.mem_reverse.1 ht)⟩
        clear hox hhx HI
        go_wp2_with fail
        refine (of_ok 0 _ ts w1 wr HOK.out HT1.out HS.out.size (by have := HS.out.1; omega) (by have := HS.out.flat; omega)).mono ?_
        rintro e w2 ⟨va, a, e1, rfl, hoa, hua, ok2, hb2⟩
        have HTB2 := hide (HTB.out.below hb2)
        have HOA := hide hoa
        have HUA := hide hua
        clear hoa hua hb2 HTB
        go_wp2_with fail
        refine (of_ok 0 _ ts.reverse w1 w2 ok2 HTB2.out HSR.out.size (by have := HSR.out.1; omega) (by have := HSR.out.flat; omega)).mono ?_
        rintro e w3 ⟨vb, bs, f1, rfl, hob, hub, ok3, hb3⟩
        obtain ⟨ef, eb, he, hz⟩ := order_fact (fun t => List.mem_reverse.symm) HUA.out hub (by have := HS.out.flat; omega) (by have := HSR.out.flat; omega)
        subst ef
        subst eb
        have HE := hide he
        have HZ := hide hz
        have hal : a.length ≤ 400 := by
          by_cases h0 : e1 = 0
          · exact (hz h0).1.len
          · rw [he h0]; simp
        have HOA3 := hide (HOA.out.below hb3)
        have HOB3 := hide hob
        have hs2 := ok2.size
        obtain ⟨a5, c5, e5⟩ := HOA.out.form
        subst e5
        clear hob hub hb3 he hz HOA HUA HTB2
        go_wp2_with fail
        refine (sameN_any _ vb a a w3 HOA3.out.nods HOB3.out.nods (by omega)).mono ?_
        rintro e w4 ⟨rfl, hb4⟩
        rw [show decide (a = a) = true from by simp]
        have ok4 := ok3.next hb4
        have HOA4 := hide (HOA3.out.below hb4)
        clear hb4 HOA3 HOB3
        by_cases h0 : e1 = 0
        · subst h0
          obtain ⟨hta, hmem, hfst⟩ := HZ.out rfl
          have HTA := hide hta
          have HMEM := hide hmem
          have HF := hide hfst
          obtain ⟨la, hla⟩ : ∃ la, la = a.length := ⟨_, rfl⟩
          have HLA := hide hla
          rw [← hla] at hal HOA4 ⊢
          have HMA := hide (tree_may hta)
          clear hta hmem hfst hla
          go_wp2_with fail
          refine (mayT_ok _ a true w1 w4 ok4 (fun n hn => good_small (HTA.out.good n hn)) HOA4.out.nods (by have := HLA.out; omega) HMA.out).mono ?_
          rintro e w5 ⟨rfl, ok5, hb5⟩
          have HNA := hide (HOA4.out.below hb5).nods
          clear hb5 HOA4
          have hgd := guard_node
          go_wp2
          go_loopw [9, 10, 11, 12] (fun i _ _ _ wr => ∃ k : Nat, k ≤ n ∧ i = .int .i64 k ∧ Hid (Ok w1 wr) ∧ Hid (Nods wr (.slice a5 la c5) a)) (fun i _ _ _ _ => n - (intOf i).toNat)
          case atStart => exact ⟨0, Nat.zero_le _, rfl, ok5, HNA⟩
          case round =>
            obtain ⟨k, hk, rfl, HOK6, HNA6⟩ := hrel
            by_cases hlt : k < n
            · obtain ⟨t, ht⟩ : ∃ t, ts[k]? = some t := ⟨ts[k]'(by have := HN.out; omega), List.getElem?_eq_some_iff.2 ⟨_, rfl⟩⟩
              obtain ⟨b, o, u, rfl, hbs, hcell, hnods⟩ := HA.out k t ht
              obtain ⟨a2, c2, rfl, hB⟩ := hnods.open
              obtain ⟨q, hq⟩ : ∃ q, q = t.length := ⟨_, rfl⟩
              rw [← hq] at hcell
              have HQ := hide hq
              have HTK := hide ht
              have HBB := hide hB
              have HC := hide hcell
              have hkn : (k : Int) < (n : Int) := by omega
              have hq30 : q ≤ 30 := by have := (HS.out.2 t (List.mem_of_getElem? ht)).1; omega
              clear hcell hnods hq ht hB
              go_wp2
              go_loopw [10, 11, 12] (fun i _ _ wr => ∃ j : Nat, j ≤ q ∧ i = .int .i64 j ∧ Hid (Ok w1 wr) ∧ Hid (Nods wr (.slice a5 la c5) a)) (fun i _ _ _ => q - (intOf i).toNat)
              case atStart => exact ⟨0, Nat.zero_le _, rfl, HOK6, HNA6⟩
              case round =>
                obtain ⟨j, hj, rfl, HOK7, HNA7⟩ := hrel
                have hc1 := (HOK7.out.2.cell (p := ⟨b, o + k, none⟩) hbs).trans HC.out
                by_cases hjl : j < q
                · obtain ⟨x, hx⟩ : ∃ x, t[j]? = some x := ⟨t[j]'(by have := HQ.out; omega), List.getElem?_eq_some_iff.2 ⟨_, rfl⟩⟩
                  obtain ⟨b2, o2, rfl, hb2, hat⟩ := HBB.out j x hx
                  obtain ⟨g1, g2, g3⟩ := hat.below HOK7.out.2 hb2
                  have HAT := hide hat
                  have hjq : (j : Int) < (q : Int) := by omega
                  have HLK := hide (lookP_of' HTA.out (HMEM.out t (List.mem_of_getElem? HTK.out) x (List.mem_of_getElem? hx)))
                  clear hat hx
                  go_wp2_with fail
                  refine (lookup_ok _ a x.1 x true w1 wr HOK7.out (fun n hn => good_small (HTA.out.good n hn)) HNA7.out (by have := HLA.out; omega) HLK.out).mono ?_
                  rintro e w6 ⟨rfl, ok6, hb6⟩
                  obtain ⟨W, hW⟩ : ∃ W, W = w6.alloc (.cells #[.string x.1, .int .i64 x.2.1, .string x.2.2] 37) := ⟨_, rfl⟩
                  have hbW : Below w6.heap.size w6 W := by rw [hW]; exact below_alloc _ _
                  have okW := ok6.next hbW
                  have HNAW := hide ((HNA7.out.below hb6).below hbW)
                  have hBW : Blk W w6.heap.size x := by rw [hW]; exact Blk.made w6 x
                  obtain ⟨⟨x1, x2, x3⟩, _, hbx⟩ := hBW.facts
                  obtain ⟨y1, y2, y3⟩ := HAT.out.below okW.2 hb2
                  have hcW := (okW.2.cell (p := ⟨b, o + k, none⟩) hbs).trans HC.out
                  have hnq := fun w => neq_node x x w
                  have hnn : nneq x x = false := by simp [nneq]
                  rw [hnn] at hnq
                  have HW := hide hW
                  clear hb6 hbW hBW hW g1 g2 g3 hc1 hnn HAT HLK
                  go_wp2
                  rw [← HW.out]
                  go_quiet (fail)
                  have okQ := okW.next (below_drewN (Below.refl _ W) nq)
                  have HNAQ := hide (HNAW.out.below (below_drewN (Below.refl _ W) nq))
                  clear x1 x2 x3 y1 y2 y3 hcW hnq HNAW HW
                  go_wp2
                  go_roundw
                  case rel => exact ⟨j + 1, by omega, by go_num, okQ, HNAQ⟩
                  case measure => simp [intOf]; omega
                · have hjd : decide ((j : Int) < (q : Int)) = false := by simp; omega
                  go_wp2
                  go_roundw
                  case rel => exact ⟨k + 1, by omega, by go_num, HOK7, HNA7⟩
                  case measure => simp [intOf]; omega
            · have hkd : decide ((k : Int) < (n : Int)) = false := by simp; omega
              have HT6 := hide (HT.out.below HOK6.out.2)
              go_wp2_with fail
              refine (of_ok 1 _ ts w1 wr HOK6.out HT6.out HS.out.size (by have := HS.out.1; omega) (by have := HS.out.flat; omega)).mono ?_
              rintro e w7 ⟨vc, cs, g1, rfl, hoc, huc, ok7, hb7⟩
              obtain ⟨rfl, rfl⟩ := HF.out cs g1 huc
              have HOC := hide hoc
              have HNA7 := hide (HNA6.out.below hb7)
              clear hoc huc hb7 HNA6
              go_wp2_with fail
              refine (sameN_any vc _ cs cs w7 HOC.out.nods HNA7.out (by have := HLA.out; omega)).mono ?_
              rintro e w8 ⟨rfl, hb8⟩
              rw [show decide (cs = cs) = true from by simp]
              have ok8 := ok7.next hb8
              clear hb8
              go_wp2_with fail
              refine (awake4_ok w1 w8 ok8).mono ?_
              rintro e w9 ⟨rfl, ok9, hb9⟩
              go_wp2
              go_ret
              exact ⟨rfl, ok9.2⟩
        · have ha := HE.out h0
          subst ha
          have hd : (e1 != 0) = true := by simpa using h0
          have HH0 := hide h0
          clear h0 hal
          go_wp2_with fail
          refine (awake4_ok w1 w4 ok4).mono ?_
          rintro e w5 ⟨rfl, ok5, hb5⟩
          go_wp2
          go_ret
          exact ⟨rfl, ok5.2⟩
      · obtain ⟨t, ht⟩ : ∃ t, ts[q]? = some t := ⟨ts[q]'(by have := HN.out; omega), List.getElem?_eq_some_iff.2 ⟨_, rfl⟩⟩
        obtain ⟨b, o, u, rfl, hbs, hcell, hnods⟩ := HA.out q t ht
        obtain ⟨a2, c2, e2⟩ := hnods.form
        obtain ⟨l, hl⟩ : ∃ l, l = t.length := ⟨_, rfl⟩
        rw [← hl] at e2
        subst e2
        have hc1 := (HOK.out.2.cell (p := ⟨b, o + q, none⟩) hbs).trans hcell
        obtain ⟨xs, hox, hhx⟩ := HI.out
        have HOX := hide (hox.below (below_alloc wr (.cells #[.slice a2 l c2] 25)))
        have HHX : Hid (Holds w1 (xs ++ [.slice a2 l c2]) (ts.drop q).reverse) := by
          show Holds _ _ _
          rw [back_step ht]
          exact hhx.app (Holds.one hnods)
        have HCX : Hid (CellsV (wr.alloc (.cells #[.slice a2 l c2] 25)) (some ⟨wr.heap.size, 0, none⟩) [.slice a2 l c2]) := (OwnV.made wr [.slice a2 l c2] (by simp [maxLen])).cells
        have hxl : xs.length ≤ 5 := by
          rw [hhx.len, List.length_reverse, List.length_drop]
          have := HN.out
          omega
        have HTQ := hide ht
        have HLT := hide hl
        have hsz := HOK.out.size
        have hqn : (q : Int) < (n : Int) := by omega
        clear hcell hnods ht hox hhx hl HI
        go_wp2_with (at_builtin; refine wpList_append_trees rfl _ _ rfl w1.heap.size u3 xs rfl HOX.out _ _ _ [.slice a2 l c2] rfl rfl (fun e => by cases e) HCX.out (fun u hu => by simp at hu; rw [hu]; rfl) (by simp; omega) (by simp; omega) ?_)
        intro b4 c4 w4 ho4 hb4
        have HO4 := hide ho4
        have HOK4 : Hid (Ok w1 w4) := (HOK.out.alloc _).step hb4
        clear ho4 hb4
        go_wp2
        go_roundw
        case rel =>
          refine ⟨q, by omega, ?_, ⟨_, HO4.out, HHX.out⟩, HOK4⟩
          cases q with
          | zero => exact .inl ⟨rfl, by go_num⟩
          | succ q => exact .inr ⟨q, rfl, by go_num⟩
        case measure => simp [intOf]
end Go.Proofs.YteablfekfijnhaaDoor
