/- The walks of the document's own Behind and Graft; that both grafts tell the same. -/
import Derived.Test.YtomomeckgiiapaaDoorU1
import Derived.Test.YtomomeckgiiapaaDoorT5
import Derived.Test.YtomomeckgiiapaaDoorPlainG
namespace Go.Proofs.YtomomeckgiiapaaDoor
open Go.RowKit

theorem alike_count {l m : List Nd} (h : Alike l m) (x : Nd) : @List.count Nd instBEqOfDecidableEq x l = @List.count Nd instBEqOfDecidableEq x m := by
  have k := h x.1
  have e : ∀ r : List Nd, @List.count Nd instBEqOfDecidableEq x (r.filter fun z => decide (z.1 = x.1)) = @List.count Nd instBEqOfDecidableEq x r := fun r => @List.count_filter Nd instBEqOfDecidableEq inferInstance _ _ _ (by simp)
  rw [← e l, ← e m, k]
theorem alike_perm {l m : List Nd} (h : Alike l m) : l.Perm m := (@List.perm_iff_count Nd instBEqOfDecidableEq inferInstance l m).2 (alike_count h)

set_option maxHeartbeats 400000 in
theorem rbehind_any (p q : ByteArray) (w : World) (hp : p.size < 1000000) (hq : q.size < 1000000) (hne : p.data.toList ≠ []) : Calls Tryd.prog 42 #[.string p, .string q] w fun e w' => e = .returned (.string (behF p q)) ∧ w' = w := by
  have k2 : ¬ p.toList = [] := by rw [Lib.toList_data]; exact hne
  have k1 : (p.toList == []) = false := by rw [beq_eq_false_iff_ne]; exact k2
  by_cases h : q.data.toList = []
  · have h1 : (q.toList == []) = true := by rw [Lib.toList_data, h]; rfl
    have h2 : q.toList = [] := by rw [Lib.toList_data, h]
    have h3 : behF p q = p := by unfold behF; rw [if_pos h]
    rw [h3]
    go_enter Tryd.func42, Tryd.ntmps42
    go_wp2
    go_ret
    exact ⟨rfl, rfl⟩
  · have h2 : ¬ q.toList = [] := by rw [Lib.toList_data]; exact h
    have h1 : (q.toList == []) = false := by rw [beq_eq_false_iff_ne]; exact h2
    have h3 : p ++ ⟨#[47]⟩ ++ q = behF p q := by unfold behF; rw [if_neg h]
    have H3 := hide h3
    clear h3 h
    go_enter Tryd.func42, Tryd.ntmps42
    go_wp2
    go_ret
    exact ⟨ret_str H3.out, rfl⟩

set_option maxRecDepth 100000 in
set_option maxHeartbeats 1000000 in
theorem rgraft_no (v u : Value) (t s : List Nd) (p : ByteArray) (x : Nd) (f b1 b2 : Bool) (w0 w : World) (h : Ok w0 w) (ht : Nods w v t) (hs : Nods w u s) (h1 : ∀ n ∈ t, n.1.size < 900000 ∧ n.2.2.size < 900000) (h2 : ∀ n ∈ s, n.1.size < 900000 ∧ n.2.2.size < 900000)
    (hm1 : t.length ≤ 300) (hm2 : s.length ≤ 300) (hx : lookP t p = (x, f)) (hb1 : mayN t = b1) (hb2 : mayN s = b2) (hno : b1 = false ∨ b2 = false ∨ f = true) :
    Calls Tryd.prog 17 #[v, .string p, u] w fun e w' => e = .returned (.tuple #[.slice none 0 0, .bool false]) ∧ Ok w0 w' ∧ Below w.heap.size w w' := by
  have HT := hide ht
  have HS := hide hs
  have H1 := hide h1
  have H2 := hide h2
  have HX := hide hx
  have HB1 := hide hb1
  have HB2 := hide hb2
  clear ht hs h1 h2 hb1 hb2 hx
  go_enter Tryd.func17, Tryd.ntmps17
  go_wp2_with fail
  refine (rlookup_ok v t p x f w0 w h H1.out HT.out hm1 HX.out).mono ?_
  rintro e w1 ⟨rfl, ok1, hb1⟩
  have HW1 := hide (below_two hb1 (below_box w1 (.cells #[.string x.1, .int .i64 x.2.1, .string x.2.2] 27)))
  have ok1' := ok1.alloc (.cells #[.string x.1, .int .i64 x.2.1, .string x.2.2] 27)
  clear hb1 ok1
  go_wp2_with fail
  refine (rmayT_ok v t b1 w0 _ ok1' H1.out (HT.out.below HW1.out) hm1 HB1.out).mono ?_
  rintro e w2 ⟨rfl, ok2, hb2⟩
  have HW2 := hide (below_two HW1.out hb2)
  clear hb2 ok1' HW1
  cases b1 with
  | false =>
    go_wp2_with fail
    go_ret2
    exact ⟨rfl, ok2, HW2.out⟩
  | true =>
    go_wp2_with fail
    refine (rmayT_ok u s b2 w0 w2 ok2 H2.out (HS.out.below HW2.out) hm2 HB2.out).mono ?_
    rintro e w3 ⟨rfl, ok3, hb3⟩
    have HW3 := hide (below_two HW2.out hb3)
    clear hb3
    cases b2 with
    | false =>
      go_wp2_with fail
      go_ret2
      exact ⟨rfl, ok3, HW3.out⟩
    | true =>
      have hf : f = true := by simpa using hno
      subst hf
      go_wp2_with fail
      go_ret2
      exact ⟨rfl, ok3, HW3.out⟩

/-- What the document's Graft tells, where both are trees and nothing stands at p. -/
def GraftS (t : List Nd) (p : ByteArray) (s : List Nd) (f : Bool) (g : List Nd) : Prop :=
  (f = true → mayN g = true ∧ Alike (t ++ s.map (putF p)) g) ∧ (f = false → g = [] ∧ ∃ es : List Nd, Srtd es ∧ Alike (t ++ s.map (putF p)) es ∧ mayN es = false)

set_option maxRecDepth 100000 in
set_option maxHeartbeats 2000000 in
theorem rgraft_yes (bt ot ct n bs os cs m : Nat) (t s : List Nd) (p : ByteArray) (x : Nd) (w0 w : World) (h : Ok w0 w) (hrt : Run w bt ot t) (hn : t.length = n) (hcn : n ≤ ct) (hr : Run w bs os s) (hm : s.length = m) (hcm : m ≤ cs)
    (h1 : ∀ n ∈ t, n.1.size < 10000 ∧ n.2.2.size < 900000) (h2 : ∀ n ∈ s, n.1.size < 10000 ∧ n.2.2.size < 900000) (hpp : p.size < 10000) (hm1 : n ≤ 100) (hm2 : m ≤ 100) (hne : p.data.toList ≠ [])
    (hx : lookP t p = (x, false)) (hb2 : mayN t = true) (hb3 : mayN s = true) :
    Calls Tryd.prog 17 #[.slice (some ⟨bt, ot, none⟩) n ct, .string p, .slice (some ⟨bs, os, none⟩) m cs] w fun e w' => ∃ f g a' c', e = .returned (.tuple #[.slice a' (List.length g) c', .bool f]) ∧ OwnN w.heap.size w' (.slice a' (List.length g) c') g ∧ GraftS t p s f g ∧ Ok w0 w' ∧ Below w.heap.size w w' := by
  have HRT := hide hrt
  have HN := hide hn
  have HR := hide hr
  have HM := hide hm
  have H1 := hide h1
  have H2 := hide h2
  have HNE := hide hne
  have HX := hide hx
  have HB2 := hide hb2
  have HB3 := hide hb3
  clear hrt hn hr hm h1 h2 hne hx hb2 hb3
  go_enter Tryd.func17, Tryd.ntmps17
  go_wp2_with fail
  refine (rlookup_ok _ t p x false w0 w h (fun z hz => by have := H1.out z hz; omega) (by rw [← HN.out]; exact HRT.out.nods (by rw [HN.out]; exact hcn)) (by rw [HN.out]; omega) HX.out).mono ?_
  rintro e w1 ⟨rfl, ok1, hb1⟩
  have HW1 := hide (below_two hb1 (below_box w1 (.cells #[.string x.1, .int .i64 x.2.1, .string x.2.2] 27)))
  have ok1' := ok1.alloc (.cells #[.string x.1, .int .i64 x.2.1, .string x.2.2] 27)
  clear hb1 ok1
  go_wp2_with fail
  refine (rmayT_ok _ t true w0 _ ok1' (fun z hz => by have := H1.out z hz; omega) (by rw [← HN.out]; exact (HRT.out.below HW1.out HRT.out.1).nods (by rw [HN.out]; exact hcn)) (by rw [HN.out]; omega) HB2.out).mono ?_
  rintro e w2 ⟨rfl, ok2, hb2⟩
  have HW2 := hide (below_two HW1.out hb2)
  clear hb2 ok1' HW1
  go_wp2_with fail
  refine (rmayT_ok _ s true w0 w2 ok2 (fun z hz => by have := H2.out z hz; omega) (by rw [← HM.out]; exact (HR.out.below HW2.out HR.out.1).nods (by rw [HM.out]; exact hcm)) (by rw [HM.out]; omega) HB3.out).mono ?_
  rintro e w3 ⟨rfl, ok3, hb3⟩
  have HW3 := hide (below_two HW2.out hb3)
  clear hb3 ok2 HW2
  have hz3 : w.heap.size ≤ w3.heap.size := HW3.out.size
  have HAT : Hid (ArgN w3 (some ⟨bt, ot, none⟩) n ct t) := by
    have h1 := (HRT.out.below HW3.out HRT.out.1).arg (c := ct) (by rw [HN.out]; exact hcn)
    rw [HN.out] at h1
    exact h1
  go_wp2_with (at_builtin; refine wpList_append_nodes rfl _ _ rfl w3.heap.size _ [] rfl (OwnN.nil _ _) _ _ _ t rfl HAT.out (by rw [HN.out]; simp; omega) (Nat.le_refl _) ?_)
  intro b4 c4 w4 ho4 hb4
  have HO4 : Hid (OwnN w3.heap.size w4 (.slice b4 t.length c4) t) := by
    show OwnN _ _ _ _
    simpa using ho4
  have HB4 := hide hb4
  have htl : t.length ≤ 100 := by rw [HN.out]; exact hm1
  clear ho4 hb4 HAT
  go_wp2
  go_loopw [10, 11, 12] (fun x i _ wr => ∃ (k : Nat) (ys : List Nd) (a' : Option Addr) (c' : Nat), k ≤ m ∧ i = .int .i64 k ∧ x = .slice a' ys.length c' ∧ ys.length ≤ 100 + k ∧ Hid (ys = t ++ (s.take k).map (putF p)) ∧ Hid (OwnN w3.heap.size wr (.slice a' ys.length c') ys) ∧ Hid (Below w3.heap.size w3 wr)) (fun _ i _ _ => m - (intOf i).toNat)
  case atStart => exact ⟨0, t, b4, c4, Nat.zero_le _, rfl, rfl, by omega, by rw [List.take_zero]; simp [Hid], HO4, HB4⟩
  case round =>
    obtain ⟨k, ys, a', c', hk, rfl, rfl, hyl, HYS, HO, HBR⟩ := hrel
    by_cases hlt : k < m
    · obtain ⟨n', hn⟩ : ∃ n', s[k]? = some n' := ⟨s[k]'(by have := HM.out; omega), List.getElem?_eq_some_iff.2 ⟨_, rfl⟩⟩
      have hlt' : (k : Int) < (m : Int) := by omega
      have HBW := hide (below_two HW3.out HBR.out)
      obtain ⟨g1, g2, g3⟩ := (HR.out.2 k n' hn).below HBW.out HR.out.1
      have HNN := hide hn
      have hns := (H2.out n' (List.mem_of_getElem? hn)).1
      have hzr : w3.heap.size ≤ wr.heap.size := HBR.out.size
      clear hn
      obtain ⟨r, hr⟩ : ∃ r, behF p n'.1 = r := ⟨_, rfl⟩
      have HRR := hide hr
      clear hr
      have HO5 : Hid (OwnN w3.heap.size ((wr.alloc (.cells #[.string r, .int .i64 n'.2.1, .string n'.2.2] 27)).alloc (.cells #[.string r, .int .i64 n'.2.1, .string n'.2.2] 27)) (.slice a' ys.length c') ys) :=
        OwnN.alloc (OwnN.alloc HO.out _) _
      have HRN : Hid (ArgN ((wr.alloc (.cells #[.string r, .int .i64 n'.2.1, .string n'.2.2] 27)).alloc (.cells #[.string r, .int .i64 n'.2.1, .string n'.2.2] 27)) (some ⟨wr.heap.size + 1, 0, none⟩) 1 1 [(r, n'.2)]) := by
        have h1 := (Run.oneT 27 (wr.alloc (.cells #[.string r, .int .i64 n'.2.1, .string n'.2.2] 27)) (r, n'.2)).arg (c := 1) (by simp)
        rw [show (wr.alloc (.cells #[.string r, .int .i64 n'.2.1, .string n'.2.2] 27)).heap.size = wr.heap.size + 1 by simp] at h1
        exact h1
      have HB6 := hide (((HBR.out.alloc hzr (.cells #[.string r, .int .i64 n'.2.1, .string n'.2.2] 27)).alloc (by simp; omega) (.cells #[.string r, .int .i64 n'.2.1, .string n'.2.2] 27)))
      go_wp2_with fail
      refine (rbehind_any p n'.1 _ (by omega) (by omega) HNE.out).mono ?_
      rintro e w5 ⟨rfl, e5⟩
      rw [e5, HRR.out]
      clear e5
      go_wp2_with (at_builtin; refine wpList_append_nodes rfl _ _ rfl w3.heap.size _ ys rfl HO5.out _ _ _ [(r, n'.2)] rfl HRN.out (by simp; omega) (by simp; omega) ?_)
      intro b6 c6 w6 ho6 hb6
      have HB7 := hide (HB6.out.trans hb6)
      have HO7 : Hid (OwnN w3.heap.size w6 (.slice b6 (ys ++ [(r, n'.2)]).length c6) (ys ++ [(r, n'.2)])) := by
        show OwnN _ _ _ _
        simpa using ho6
      clear ho6 hb6
      go_wp2
      go_roundw
      case rel => exact ⟨k + 1, ys ++ [(r, n'.2)], b6, c6, by omega, by go_num, by simp, by simp; omega, hide (by rw [mapput_step HNN.out, ← List.append_assoc, ← HYS.out, ← HRR.out]; rfl), HO7, HB7⟩
      case measure => simp [intOf]; omega
    · have hlt' : (m : Int) ≤ (k : Int) := by omega
      have ek : k = s.length := by have := HM.out; omega
      have eys : ys = t ++ s.map (putF p) := by rw [HYS.out, ek, List.take_length]
      have HE := hide eys
      have HW4 := hide (below_two HW3.out HBR.out)
      clear eys
      go_wp2_with fail
      refine (rsort_any _ ys wr HO.out.nods (by omega)).mono ?_
      rintro e w7 ⟨v7, es, rfl, ho7, hs7, hal7, hb7⟩
      have HS := hide hs7
      have HAL := hide (show Alike (t ++ s.map (putF p)) es by rw [← HE.out]; exact hal7)
      obtain ⟨a7, c7, hv7⟩ := ho7.form
      subst hv7
      have hel : es.length = ys.length := (alike_perm hal7).length_eq.symm
      have hel2 : es.length ≤ 300 := by omega
      have hzz : w.heap.size ≤ wr.heap.size := Nat.le_trans hz3 HBR.out.size
      have HO8 := hide (ho7.base hzz)
      have HW8 := hide (below_two HW4.out hb7)
      clear ho7 hb7 hs7 hal7 hel
      have H8 := hide (show ∀ n ∈ es, n.1.size < 900000 ∧ n.2.2.size < 900000 from fun n hn => by
        rcases List.mem_append.1 ((alike_perm HAL.out).mem_iff.2 hn) with hn | hn
        · have := H1.out n hn; omega
        · obtain ⟨y, hy, rfl⟩ := List.mem_map.1 hn
          have h1 := H2.out y hy
          have h2 := behF_size p y.1
          show (behF p y.1).size < 900000 ∧ y.2.2.size < 900000
          omega)
      cases hf : mayN es with
      | false =>
        have HF := hide hf
        clear hf
        go_wp2_with fail
        refine (rmayT_ok _ es false w0 w7 (h.next HW8.out) H8.out HO8.out.nods hel2 HF.out).mono ?_
        rintro e w9 ⟨rfl, ok9, hb9⟩
        go_wp2_with fail
        go_ret2
        exact ⟨false, [], none, 0, rfl, OwnN.nil _ _, ⟨fun e => (by cases e), fun _ => ⟨rfl, es, HS.out, HAL.out, HF.out⟩⟩, ok9, below_two HW8.out hb9⟩
      | true =>
        have HF := hide hf
        clear hf
        go_wp2_with fail
        refine (rmayT_ok _ es true w0 w7 (h.next HW8.out) H8.out HO8.out.nods hel2 HF.out).mono ?_
        rintro e w9 ⟨rfl, ok9, hb9⟩
        go_wp2_with fail
        go_ret2
        exact ⟨true, es, a7, c7, rfl, OwnN.below HO8.out hb9, ⟨fun _ => ⟨HF.out, HAL.out⟩, fun e => (by cases e)⟩, ok9, below_two HW8.out hb9⟩

/-- Both tell the same. -/
theorem graft_same {t s g g' : List Nd} {p : ByteArray} {f f' : Bool} (ht : Tree t) (hs : Tree s) (h : GraftR t p s f g) (h' : GraftS t p s f' g') : f = f' ∧ g = g' := by
  have key_es : ∀ {a es : List Nd}, Rising a → a.Perm (t ++ s.map (putF p)) → es.Perm (t ++ s.map (putF p)) → Srtd es → es = a := by
    intro a es ha hp hpe hse
    have hpp := hpe.trans hp.symm
    exact rising_eq (srtd_nodup_rising hse ((hpp.map key).nodup_iff.2 (rising_nodup ha))) ha hpp
  cases f with
  | true =>
    obtain ⟨h1, h2, h3, h4, h5⟩ := h.1 rfl
    cases f' with
    | true =>
      obtain ⟨k1, k2⟩ := h'.1 rfl
      exact ⟨rfl, rising_eq (may_tree h4).rise (may_tree k1).rise (h5.trans (alike_perm k2))⟩
    | false =>
      obtain ⟨_, es, e1, e2, e3⟩ := h'.2 rfl
      rw [key_es (may_tree h4).rise h5 (alike_perm e2).symm e1, h4] at e3
      cases e3
  | false =>
    obtain ⟨h1, h2⟩ := h.2 rfl
    cases f' with
    | true =>
      obtain ⟨k1, k2⟩ := h'.1 rfl
      have kt := may_tree k1
      exfalso
      rcases h2 with h2 | h2 | h2 | ⟨es, e1, e2, e3⟩
      · obtain ⟨r, hr, hr0⟩ := hs.root
        have hm := kt.may ((alike_perm k2).mem_iff.1 (List.mem_append.2 (.inr (List.mem_map.2 ⟨r, hr, rfl⟩))))
        unfold key at hm
        rw [putF_root hr0, h2] at hm
        cases hm
      · rw [tree_may ht] at h2; cases h2
      · rw [tree_may hs] at h2; cases h2
      · rw [key_es kt.rise (alike_perm k2).symm e1 e2, k1] at e3
        cases e3
    | false => exact ⟨rfl, by rw [h1, (h'.2 rfl).1]⟩
/-- Where something stands at p nothing is told. -/
theorem graft_taken {t s g : List Nd} {p : ByteArray} {f : Bool} (h : GraftR t p s f g) {x : Nd} (hl : look t p = some x) : f = false ∧ g = [] := by
  cases f with
  | false => exact ⟨rfl, (h.2 rfl).1⟩
  | true =>
    obtain ⟨h1, h2, h3, h4, h5⟩ := h.1 rfl
    have G := grafted h1 (may_tree h2) (may_tree h3) (may_tree h4) h5
    obtain ⟨hx, he⟩ := look_some hl
    have := (G.old x hx).2
    have hu : Hog.underL (key x) p.data.toList = true := by
      unfold key
      rw [he]
      exact Hog.under_self h1
    rw [hu] at this
    cases this
end Go.Proofs.YtomomeckgiiapaaDoor
