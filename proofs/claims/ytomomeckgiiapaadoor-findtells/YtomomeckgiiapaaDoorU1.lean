/- The walks of the document's own Lookup, Sub and Behind. -/
import Derived.Test.YtomomeckgiiapaaDoorT3
import Derived.Test.YtomomeckgiiapaaDoorJ5
import Derived.Test.YtomomeckgiiapaaDoorF5
namespace Go.Proofs.YtomomeckgiiapaaDoor
open Go.RowKit

theorem text_same {a b : ByteArray} : (a.toList == b.toList) = decide (a = b) := by
  by_cases h : a = b
  · rw [h]; simp
  · rw [decide_eq_false h, beq_eq_false_iff_ne]
    exact fun e => h (bytes_eq.2 e)
theorem look_step {t : List Nd} {k : Nat} {n : Nd} {p : ByteArray} (hn : t[k]? = some n) (h : ∀ x ∈ t.take k, x.1 ≠ p) (hne : n.1 ≠ p) : ∀ x ∈ t.take (k + 1), x.1 ≠ p := by
  intro x hx
  rw [takeN_step hn] at hx
  rcases List.mem_append.1 hx with hx | hx
  · exact h x hx
  · simp at hx; rw [hx]; exact hne

set_option maxRecDepth 100000 in
set_option maxHeartbeats 1000000 in
theorem rlookup_not (v : Value) (t : List Nd) (p : ByteArray) (w0 w : World) (h : Ok w0 w) (hp : ∀ n ∈ t, n.1.size < 900000 ∧ n.2.2.size < 900000) (hn : Nods w v t) (hm : t.length ≤ 300) (hy : mayN t = false) :
    Calls Tryd.prog 11 #[v, .string p] w fun e w' => e = .returned (.tuple #[.agg #[.string nd0.1, .int .i64 nd0.2.1, .string nd0.2.2], .bool false]) ∧ Ok w0 w' ∧ Below w.heap.size w w' := by
  have HP := hide hp
  have HN := hide (hn.below (below_box w (.cells #[.string ByteArray.empty, .int .i64 0, .string ByteArray.empty] 27)))
  have HY := hide hy
  have HB := hide (Blk.made w nd0)
  clear hp hn hy
  go_enter Tryd.func11, Tryd.ntmps11
  go_wp2_with fail
  refine (rmayT_ok v t false w0 _ (h.alloc _) HP.out HN.out hm HY.out).mono ?_
  rintro e w1 ⟨rfl, ok1, hb1⟩
  have HB1 := hide (HB.out.below hb1)
  have HB2 := hide ((below_box w _).trans (hb1.mono (by simp)))
  obtain ⟨⟨c1, c2, c3⟩, ⟨f1, f2, f3⟩, hl⟩ := HB1.out.facts
  clear hb1
  go_wp2
  refine bodyPost_ret (results_node rfl _ _ _ nd0 rfl (HB1.out.stored nd0)) rfl ?_
  exact ⟨rfl, h.next (stored_below HB2.out (Nat.le_refl _) nd0), stored_below HB2.out (Nat.le_refl _) nd0⟩

set_option maxRecDepth 100000 in
set_option maxHeartbeats 1000000 in
theorem rlookup_may (b o c m : Nat) (t : List Nd) (p : ByteArray) (x : Nd) (f : Bool) (w0 w : World) (h : Ok w0 w) (hp : ∀ n ∈ t, n.1.size < 900000 ∧ n.2.2.size < 900000) (hr : Run w b o t) (hmt : t.length = m) (hc : m ≤ c) (hm : m ≤ 300) (hy : mayN t = true) (hx : lookP t p = (x, f)) :
    Calls Tryd.prog 11 #[.slice (some ⟨b, o, none⟩) m c, .string p] w fun e w' => e = .returned (.tuple #[.agg #[.string x.1, .int .i64 x.2.1, .string x.2.2], .bool f]) ∧ Ok w0 w' ∧ Below w.heap.size w w' := by
  have HP := hide hp
  have HR := hide (hr.below (below_box w (.cells #[.string ByteArray.empty, .int .i64 0, .string ByteArray.empty] 27)) hr.1)
  have HY := hide hy
  have HX := hide hx
  have HRI := hide (mayF_rising hy)
  have HB := hide (Blk.made w nd0)
  have HMT := hide hmt
  clear hp hr hy hx hmt
  go_enter Tryd.func11, Tryd.ntmps11
  go_wp2_with fail
  refine (rmayT_ok _ t true w0 _ (h.alloc _) HP.out (by rw [← HMT.out]; exact HR.out.nods (by rw [HMT.out]; exact hc)) (by rw [HMT.out]; exact hm) HY.out).mono ?_
  rintro e w1 ⟨rfl, ok1, hb1⟩
  have HB1 := hide (HB.out.below hb1)
  have HR1 := hide (HR.out.below hb1 HR.out.1)
  have HW1 := hide ((below_box w _).trans (hb1.mono (by simp)))
  obtain ⟨⟨c1, c2, c3⟩, ⟨f1, f2, f3⟩, hl⟩ := HB1.out.facts
  clear hb1 HB HR
  go_wp2
  go_loopw [6] (fun i wr => ∃ k : Nat, k ≤ m ∧ i = .int .i64 k ∧ Hid (∀ x ∈ t.take k, x.1 ≠ p) ∧ wr = w1) (fun i _ => m - (intOf i).toNat)
  case atStart => exact ⟨0, Nat.zero_le _, rfl, fun x hx => (by simp at hx), rfl⟩
  case round =>
    obtain ⟨k, hk, rfl, HNO, rfl⟩ := hrel
    by_cases hlt : k < m
    · obtain ⟨n, hn⟩ : ∃ n, t[k]? = some n := ⟨t[k]'(by have := HMT.out; omega), List.getElem?_eq_some_iff.2 ⟨_, rfl⟩⟩
      have hlt' : (k : Int) < (m : Int) := by omega
      obtain ⟨g1, g2, g3⟩ := HR1.out.2 k n hn
      have HN := hide hn
      have hte := text_same (a := n.1) (b := p)
      clear hn
      by_cases he : n.1 = p
      · rw [decide_eq_true he] at hte
        have h2 : x = n ∧ f = true := by
          have := lookP_some HY.out (look_of HRI.out (List.mem_of_getElem? HN.out) he)
          rw [HX.out] at this
          simpa using this
        obtain ⟨rfl, rfl⟩ := h2
        clear he
        go_wp2
        refine bodyPost_ret (results_node rfl _ _ _ x rfl (HB1.out.stored x)) rfl ?_
        exact ⟨rfl, h.next (stored_below HW1.out (Nat.le_refl _) x), stored_below HW1.out (Nat.le_refl _) x⟩
      · rw [decide_eq_false he] at hte
        have HNE := hide he
        clear he
        go_wp2
        go_roundw
        case rel => exact ⟨k + 1, by omega, by go_num, look_step HN.out HNO.out HNE.out, trivial⟩
        case measure => simp [intOf]; omega
    · have hlt' : (m : Int) ≤ (k : Int) := by omega
      have ek : k = t.length := by have := HMT.out; omega
      have h2 : x = nd0 ∧ f = false := by
        have hno := HNO.out
        rw [ek, List.take_length] at hno
        have := lookP_none (look_none.2 hno)
        rw [HX.out] at this
        simpa using this
      obtain ⟨rfl, rfl⟩ := h2
      go_wp2
      refine bodyPost_ret (results_node rfl _ _ _ nd0 rfl (HB1.out.stored nd0)) rfl ?_
      exact ⟨rfl, h.next (stored_below HW1.out (Nat.le_refl _) nd0), stored_below HW1.out (Nat.le_refl _) nd0⟩

theorem rlookup_ok (v : Value) (t : List Nd) (p : ByteArray) (x : Nd) (f : Bool) (w0 w : World) (h : Ok w0 w) (hp : ∀ n ∈ t, n.1.size < 900000 ∧ n.2.2.size < 900000) (hn : Nods w v t) (hm : t.length ≤ 300) (hx : lookP t p = (x, f)) :
    Calls Tryd.prog 11 #[v, .string p] w fun e w' => e = .returned (.tuple #[.agg #[.string x.1, .int .i64 x.2.1, .string x.2.2], .bool f]) ∧ Ok w0 w' ∧ Below w.heap.size w w' := by
  cases hy : mayN t with
  | true =>
    rcases hn with ⟨e, _⟩ | ⟨b, o, c, rfl, hc, hr⟩
    · exact absurd e (mayF_iff.1 hy).1
    · exact rlookup_may b o c t.length t p x f w0 w h hp hr rfl hc hm hy hx
  | false =>
    rw [lookP_not hy] at hx
    cases hx
    exact rlookup_not v t p w0 w h hp hn hm hy
theorem strip_cut1 {s p : ByteArray} (hu : Hog.underL s.data.toList p.data.toList = true) (hne : ¬ s = p) (hp : ¬ p.data.toList = []) : s.extract (p.size + 1) s.size = Hog.mk (Hog.stripL s.data.toList p.data.toList) ∧ p.size + 1 ≤ s.size := by
  obtain ⟨u1, u2, u3⟩ := (Hog.under_iff _ _).1 hu
  have e := Hog.beh_strip' u1 u3
  have hs : Hog.stripL s.data.toList p.data.toList ≠ [] := Hog.strip_ne u1 u3 (fun e => hne (key_inj.1 e))
  rw [Hog.beh_eq, if_neg hs, if_neg hp] at e
  have hl : p.size + 1 ≤ s.size := by
    have := congrArg List.length e
    rw [List.length_append, List.length_cons, ← Hog.size_len, ← Hog.size_len] at this
    omega
  refine ⟨?_, hl⟩
  rw [Lib.extract_eq]
  unfold Hog.mk
  congr 2
  rw [List.take_of_length_le (by rw [List.length_drop, ← Hog.size_len]; exact Nat.le_refl _)]
  have h2 : s.data.toList.drop (p.size + 1) = Hog.stripL s.data.toList p.data.toList := by
    have h3 : (p.data.toList ++ 47 :: Hog.stripL s.data.toList p.data.toList).drop (p.size + 1) = Hog.stripL s.data.toList p.data.toList := by
      rw [show p.size + 1 = (p.data.toList ++ [47]).length by rw [List.length_append, ← Hog.size_len]; rfl, show p.data.toList ++ 47 :: Hog.stripL s.data.toList p.data.toList = (p.data.toList ++ [47]) ++ Hog.stripL s.data.toList p.data.toList by simp, List.drop_left]
    rw [e] at h3
    exact h3
  exact h2
set_option maxRecDepth 100000 in
set_option maxHeartbeats 1000000 in
theorem rsub_ok (b o c : Nat) (t : List Nd) (p : ByteArray) (l : List Nd) (f : Bool) (w0 w : World) (h : Ok w0 w) (hp : ∀ n ∈ t, n.1.size < 900000 ∧ n.2.2.size < 900000) (hpp : p.size < 900000) (hr : Run w b o t) (hc : t.length ≤ c) (hm : t.length ≤ 300) (hf : (lookP t p).2 = f) (hl : subL t p = l) :
    Calls Tryd.prog 15 #[.slice (some ⟨b, o, none⟩) t.length c, .string p] w fun e w' => ∃ a' c', e = .returned (.tuple #[.slice a' l.length c', .bool f]) ∧ OwnN w.heap.size w' (.slice a' l.length c') l ∧ Ok w0 w' ∧ Below w.heap.size w w' := by
  obtain ⟨x, g, hx⟩ : ∃ x g, lookP t p = (x, g) := ⟨_, _, rfl⟩
  have HP := hide hp
  have HR := hide hr
  have HX := hide hx
  obtain rfl : g = f := by rw [hx] at hf; exact hf
  have HL := hide hl
  obtain ⟨m, hmt⟩ : ∃ m, m = t.length := ⟨_, rfl⟩
  have HMT := hide hmt
  have hm' : m ≤ 300 := by omega
  rw [← hmt]
  clear hp hr hx hf hl hmt
  go_enter Tryd.func15, Tryd.ntmps15
  go_wp2_with fail
  rw [HMT.out]
  refine (rlookup_ok _ t p x g w0 w h HP.out (HR.out.nods hc) hm HX.out).mono ?_
  rintro e w1 ⟨rfl, ok1, hb1⟩
  rw [← HMT.out]
  have HB := hide (hb1.trans ((below_box w1 (.cells #[.string x.1, .int .i64 x.2.1, .string x.2.2] 27)).mono hb1.size))
  clear hb1 ok1
  cases g with
  | false =>
    have e2 : l = [] := by rw [← HL.out]; unfold subL; rw [if_neg (by rw [HX.out]; exact Bool.false_ne_true)]
    subst e2
    go_wp2
    go_ret2
    exact ⟨none, 0, rfl, OwnN.nil _ _, h.next HB.out, HB.out⟩
  | true =>
    have e2 : sub t p.data.toList = l := by rw [← HL.out]; unfold subL; rw [if_pos (by rw [HX.out])]
    have HE := hide e2
    clear e2 HL
    go_wp2
    go_loopw [8, 9, 10] (fun s i _ wr => ∃ (k : Nat) (ys : List Nd) (a' : Option Addr) (c' : Nat), k ≤ m ∧ i = .int .i64 k ∧ s = .slice a' ys.length c' ∧ Hid (ys = sub (t.take k) p.data.toList) ∧ Hid (OwnN w.heap.size wr (.slice a' ys.length c') ys) ∧ Hid (Below w.heap.size w wr)) (fun _ i _ _ => m - (intOf i).toNat)
    case atStart => exact ⟨0, [], none, 0, Nat.zero_le _, rfl, rfl, by rw [List.take_zero]; rfl, OwnN.nil _ _, HB⟩
    case round =>
      obtain ⟨k, ys, a', c', hk, rfl, rfl, HYS, HO, HBR⟩ := hrel
      by_cases hlt : k < m
      · obtain ⟨n, hn⟩ : ∃ n, t[k]? = some n := ⟨t[k]'(by have := HMT.out; omega), List.getElem?_eq_some_iff.2 ⟨_, rfl⟩⟩
        obtain ⟨g1, g2, g3⟩ := (HR.out.2 k n hn).below HBR.out HR.out.1
        have HN := hide hn
        have hnp := HP.out n (List.mem_of_getElem? hn)
        clear hn
        have okr : Ok w0 wr := h.next HBR.out
        obtain ⟨ub, hub⟩ : ∃ ub, Hog.underL n.1.data.toList p.data.toList = ub := ⟨_, rfl⟩
        have HU := hide hub
        clear hub
        have HX1 := hide (Blk.made wr n)
        go_wp2_with fail
        refine (runder_ok n.1 p ub w0 _ (okr.alloc _) hnp.1 hpp HU.out).mono ?_
        rintro e w3 ⟨rfl, ok3, hb3⟩
        have HX3 := hide (HX1.out.below hb3)
        have hb3' : Below wr.heap.size wr w3 := (below_box wr _).trans (hb3.mono (by simp))
        have HB3 := hide (HBR.out.trans (hb3'.mono HBR.out.size))
        have HO3 := hide (HO.out.below hb3')
        clear hb3 hb3' HX1 g1 g2 g3
        cases ub with
        | false =>
          go_wp2
          go_roundw
          case rel => exact ⟨k + 1, ys, a', c', by omega, by go_num, rfl, by rw [sub_step HN.out, if_neg (by rw [show Hog.underL (key n) p.data.toList = false from HU.out]; decide), List.append_nil]; exact HYS, HO3, HB3⟩
          case measure => simp [intOf]; omega
        | true =>
          have hps := under_size HU.out
          obtain ⟨⟨x1, x2, x3⟩, ⟨f1, f2, f3⟩, hbl⟩ := HX3.out.facts
          have hte := text_same (a := n.1) (b := p)
          by_cases he : n.1 = p
          · rw [decide_eq_true he] at hte
            have HRR : Hid (Hog.mk (Hog.stripL (key n) p.data.toList) = (⟨#[]⟩ : ByteArray)) := by
              show Hog.mk (Hog.stripL n.1.data.toList p.data.toList) = _
              rw [he, Hog.strip_self]
              rfl
            clear he
            obtain ⟨W4, hW4⟩ : ∃ W4, W4 = (w3.setCell ⟨wr.heap.size, 0, none⟩ (.string (⟨#[]⟩ : ByteArray))) := ⟨_, rfl⟩
            have HW4 := hide hW4
            have hbw : w.heap.size ≤ wr.heap.size := HBR.out.size
            have HB4 : Hid (Below w.heap.size w W4) := by rw [hW4]; exact HB3.out.setCell (p := ⟨wr.heap.size, 0, none⟩) hbw _
            have HO4 : Hid (OwnN w.heap.size W4 (.slice a' ys.length c') ys) := by
              rw [hW4]
              exact HO3.out.setOther _ _ _ (fun g hg => by have := (HO.out.lt g hg).2; omega)
            clear hW4
            have HO5 : Hid (OwnN w.heap.size ((w3.setCell ⟨wr.heap.size, 0, none⟩ (.string (⟨#[]⟩ : ByteArray))).alloc (.cells #[.string (⟨#[]⟩ : ByteArray), .int .i64 n.2.1, .string n.2.2] 27)) (.slice a' ys.length c') ys) := by
              rw [← HW4.out]
              exact HO4.out.alloc _
            have HRN : Hid (ArgN ((w3.setCell ⟨wr.heap.size, 0, none⟩ (.string (⟨#[]⟩ : ByteArray))).alloc (.cells #[.string (⟨#[]⟩ : ByteArray), .int .i64 n.2.1, .string n.2.2] 27)) (some ⟨w3.heap.size, 0, none⟩) 1 1 [((⟨#[]⟩ : ByteArray), n.2)]) := by
              have h1 := (Run.one W4 ((⟨#[]⟩ : ByteArray), n.2)).arg (c := 1) (by simp)
              rw [show W4.heap.size = w3.heap.size by rw [HW4.out]; simp, HW4.out] at h1
              exact h1
            have hyl : ys.length ≤ k := by rw [HYS.out]; exact sub_len t k _
            have hsz : w.heap.size ≤ w3.heap.size := HB3.out.size
            clear HO4
            go_wp2_with (at_builtin; refine wpList_append_nodes rfl _ _ rfl w.heap.size _ ys rfl HO5.out _ _ _ [((⟨#[]⟩ : ByteArray), n.2)] rfl HRN.out (by simp; omega) (by simp; omega) ?_)
            intro b6 c6 w6 ho6 hb6
            have HB6 : Hid (Below w.heap.size w w6) := by
              have h1 := HB4.out
              rw [HW4.out] at h1
              exact (h1.trans ((below_box _ _).mono (by simp; omega))).trans hb6
            have HO6 : Hid (OwnN w.heap.size w6 (.slice b6 (ys ++ [((⟨#[]⟩ : ByteArray), n.2)]).length c6) (ys ++ [((⟨#[]⟩ : ByteArray), n.2)])) := by
              show OwnN _ _ _ _
              simpa using ho6
            clear ho6 hb6
            go_wp2
            go_roundw
            case rel => exact ⟨k + 1, ys ++ [((⟨#[]⟩ : ByteArray), n.2)], b6, c6, by omega, by go_num, by simp, hide (by rw [sub_step HN.out, if_pos (show Hog.underL (key n) p.data.toList = true from HU.out), ← HYS.out]; unfold mov; rw [show Hog.mk (Hog.stripL (key n) p.data.toList) = (⟨#[]⟩ : ByteArray) from HRR.out]), HO6, HB6⟩
            case measure => simp [intOf]; omega
          · rw [decide_eq_false he] at hte
            by_cases hpe : p.data.toList = []
            · have hp1 : (p.toList == []) = true := by rw [Lib.toList_data, hpe]; rfl
              have hp2 : p.toList = [] := by rw [Lib.toList_data, hpe]
              have hnn : ¬ n.1.toList = [] := fun e => he (bytes_eq.2 (e.trans hp2.symm))
              have hn1 : n.1.toList.isEmpty = false := by simpa using hnn
              have hn2 : (n.1.toList == []) = false := by rw [beq_eq_false_iff_ne]; exact hnn
              have HRR : Hid (Hog.mk (Hog.stripL (key n) p.data.toList) = n.1) := by
                show _ = _
                rw [hpe, Hog.strip_root, mk_key]
              clear hpe he
              obtain ⟨W4, hW4⟩ : ∃ W4, W4 = w3 := ⟨_, rfl⟩
              have HW4 := hide hW4
              have hbw : w.heap.size ≤ wr.heap.size := HBR.out.size
              have HB4 : Hid (Below w.heap.size w W4) := by rw [hW4]; exact HB3.out
              have HO4 : Hid (OwnN w.heap.size W4 (.slice a' ys.length c') ys) := by
                rw [hW4]
                exact HO3.out
              clear hW4
              have HO5 : Hid (OwnN w.heap.size (w3.alloc (.cells #[.string n.1, .int .i64 n.2.1, .string n.2.2] 27)) (.slice a' ys.length c') ys) := by
                rw [← HW4.out]
                exact HO4.out.alloc _
              have HRN : Hid (ArgN (w3.alloc (.cells #[.string n.1, .int .i64 n.2.1, .string n.2.2] 27)) (some ⟨w3.heap.size, 0, none⟩) 1 1 [(n.1, n.2)]) := by
                have h1 := (Run.one W4 (n.1, n.2)).arg (c := 1) (by simp)
                rw [show W4.heap.size = w3.heap.size by rw [HW4.out], HW4.out] at h1
                exact h1
              have hyl : ys.length ≤ k := by rw [HYS.out]; exact sub_len t k _
              have hsz : w.heap.size ≤ w3.heap.size := HB3.out.size
              clear HO4
              go_wp2_with (at_builtin; refine wpList_append_nodes rfl _ _ rfl w.heap.size _ ys rfl HO5.out _ _ _ [(n.1, n.2)] rfl HRN.out (by simp; omega) (by simp; omega) ?_)
              intro b6 c6 w6 ho6 hb6
              have HB6 : Hid (Below w.heap.size w w6) := by
                have h1 := HB4.out
                rw [HW4.out] at h1
                exact (h1.trans ((below_box _ _).mono (by exact hsz))).trans hb6
              have HO6 : Hid (OwnN w.heap.size w6 (.slice b6 (ys ++ [(n.1, n.2)]).length c6) (ys ++ [(n.1, n.2)])) := by
                show OwnN _ _ _ _
                simpa using ho6
              clear ho6 hb6
              go_wp2
              go_roundw
              case rel => exact ⟨k + 1, ys ++ [(n.1, n.2)], b6, c6, by omega, by go_num, by simp, hide (by rw [sub_step HN.out, if_pos (show Hog.underL (key n) p.data.toList = true from HU.out), ← HYS.out]; unfold mov; rw [show Hog.mk (Hog.stripL (key n) p.data.toList) = n.1 from HRR.out]), HO6, HB6⟩
              case measure => simp [intOf]; omega
            · have hp2 : ¬ p.toList = [] := by rw [Lib.toList_data]; exact hpe
              have hp1 : (p.toList == []) = false := by rw [beq_eq_false_iff_ne]; exact hp2
              obtain ⟨hr1, hr2⟩ := strip_cut1 HU.out he hpe
              have HRR : Hid (Hog.mk (Hog.stripL (key n) p.data.toList) = n.1.extract (p.size + 1) n.1.size) := hr1.symm
              have hps1 : (p.size : Int) + 1 ≤ (n.1.size : Int) := by omega
              have htn : ((p.size : Int) + 1).toNat = p.size + 1 := by omega
              clear hpe he hr1 hr2
              obtain ⟨W4, hW4⟩ : ∃ W4, W4 = (w3.setCell ⟨wr.heap.size, 0, none⟩ (.string (n.1.extract (p.size + 1) n.1.size))) := ⟨_, rfl⟩
              have HW4 := hide hW4
              have hbw : w.heap.size ≤ wr.heap.size := HBR.out.size
              have HB4 : Hid (Below w.heap.size w W4) := by rw [hW4]; exact HB3.out.setCell (p := ⟨wr.heap.size, 0, none⟩) hbw _
              have HO4 : Hid (OwnN w.heap.size W4 (.slice a' ys.length c') ys) := by
                rw [hW4]
                exact HO3.out.setOther _ _ _ (fun g hg => by have := (HO.out.lt g hg).2; omega)
              clear hW4
              have HO5 : Hid (OwnN w.heap.size ((w3.setCell ⟨wr.heap.size, 0, none⟩ (.string (n.1.extract (p.size + 1) n.1.size))).alloc (.cells #[.string (n.1.extract (p.size + 1) n.1.size), .int .i64 n.2.1, .string n.2.2] 27)) (.slice a' ys.length c') ys) := by
                rw [← HW4.out]
                exact HO4.out.alloc _
              have HRN : Hid (ArgN ((w3.setCell ⟨wr.heap.size, 0, none⟩ (.string (n.1.extract (p.size + 1) n.1.size))).alloc (.cells #[.string (n.1.extract (p.size + 1) n.1.size), .int .i64 n.2.1, .string n.2.2] 27)) (some ⟨w3.heap.size, 0, none⟩) 1 1 [((n.1.extract (p.size + 1) n.1.size), n.2)]) := by
                have h1 := (Run.one W4 ((n.1.extract (p.size + 1) n.1.size), n.2)).arg (c := 1) (by simp)
                rw [show W4.heap.size = w3.heap.size by rw [HW4.out]; simp, HW4.out] at h1
                exact h1
              have hyl : ys.length ≤ k := by rw [HYS.out]; exact sub_len t k _
              have hsz : w.heap.size ≤ w3.heap.size := HB3.out.size
              clear HO4
              go_wp2_with (at_builtin; refine wpList_append_nodes rfl _ _ rfl w.heap.size _ ys rfl HO5.out _ _ _ [((n.1.extract (p.size + 1) n.1.size), n.2)] rfl HRN.out (by simp; omega) (by simp; omega) ?_)
              intro b6 c6 w6 ho6 hb6
              have HB6 : Hid (Below w.heap.size w w6) := by
                have h1 := HB4.out
                rw [HW4.out] at h1
                exact (h1.trans ((below_box _ _).mono (by simp; omega))).trans hb6
              have HO6 : Hid (OwnN w.heap.size w6 (.slice b6 (ys ++ [((n.1.extract (p.size + 1) n.1.size), n.2)]).length c6) (ys ++ [((n.1.extract (p.size + 1) n.1.size), n.2)])) := by
                show OwnN _ _ _ _
                simpa using ho6
              clear ho6 hb6
              go_wp2
              go_roundw
              case rel => exact ⟨k + 1, ys ++ [((n.1.extract (p.size + 1) n.1.size), n.2)], b6, c6, by omega, by go_num, by simp, hide (by rw [sub_step HN.out, if_pos (show Hog.underL (key n) p.data.toList = true from HU.out), ← HYS.out]; unfold mov; rw [show Hog.mk (Hog.stripL (key n) p.data.toList) = (n.1.extract (p.size + 1) n.1.size) from HRR.out]), HO6, HB6⟩
              case measure => simp [intOf]; omega
      · go_wp2
        go_ret2
        have e : k = t.length := by have := HMT.out; omega
        have e3 : ys = l := by rw [HYS.out, e, List.take_length, HE.out]
        subst e3
        exact ⟨a', c', rfl, HO.out, h.next HBR.out, HBR.out⟩
end Go.Proofs.YtomomeckgiiapaaDoor
