/- Both sides' List, Sub and Graft of whatever is handed in. -/
import Derived.Test.YtomomeckgiiapaaDoorV1
namespace Go.Proofs.YtomomeckgiiapaaDoor
open Go.RowKit

set_option maxHeartbeats 400000 in
theorem rlist_no (v : Value) (t : List Nd) (p : ByteArray) (x : Nd) (w0 w : World) (h : Ok w0 w) (hp : ∀ n ∈ t, n.1.size < 900000 ∧ n.2.2.size < 900000) (hn : Nods w v t) (hm : t.length ≤ 300) (hx : lookP t p = (x, false)) :
    Calls Tryd.prog 13 #[v, .string p] w fun e w' => e = .returned (.tuple #[.slice none 0 0, .bool false]) ∧ Ok w0 w' ∧ Below w.heap.size w w' := by
  have HP := hide hp
  have HN := hide hn
  have HX := hide hx
  clear hp hn hx
  go_enter Tryd.func13, Tryd.ntmps13
  go_wp2_with fail
  refine (rlookup_ok v t p x false w0 w h HP.out HN.out hm HX.out).mono ?_
  rintro e w1 ⟨rfl, ok1, hb1⟩
  have HB := hide (below_two hb1 (below_box w1 (.cells #[.string x.1, .int .i64 x.2.1, .string x.2.2] 27)))
  clear hb1
  go_wp2
  go_ret2
  exact ⟨rfl, h.next HB.out, HB.out⟩
theorem rlist_any (v : Value) (t : List Nd) (p : ByteArray) (l : List (List UInt8)) (f : Bool) (w0 w : World) (h : Ok w0 w) (hp : ∀ n ∈ t, n.1.size < 900000 ∧ n.2.2.size < 900000) (hn : Nods w v t) (hm : t.length ≤ 300) (hf : listB t p = f) (hl : listL t p = l) :
    Calls Tryd.prog 13 #[v, .string p] w fun e w' => ∃ a' c', e = .returned (.tuple #[.slice a' l.length c', .bool f]) ∧ Own w.heap.size w' (.slice a' l.length c') (l.map Hog.mk) ∧ Ok w0 w' ∧ Below w.heap.size w w' := by
  cases hx : lookP t p with
  | mk x g =>
    cases g with
    | true =>
      have hy := (lookP_true hx).1
      rcases hn with ⟨e, _⟩ | ⟨b, o, c, rfl, hc, hr⟩
      · exact absurd e (mayF_iff.1 hy).1
      · exact rlist_ok b o c t p l f w0 w h hp hr hc hm hf hl
    | false =>
      have e1 : f = false := by rw [← hf]; unfold listB; rw [hx]; rfl
      have e2 : l = [] := by rw [← hl]; unfold listL; rw [if_neg (by rw [hf, e1]; decide)]
      subst e1 e2
      refine (rlist_no v t p x w0 w h hp hn hm hx).mono ?_
      rintro e w' ⟨rfl, ok1, hb1⟩
      exact ⟨none, 0, rfl, Own.nil _ _, ok1, hb1⟩
set_option maxHeartbeats 400000 in
theorem rsub_no (v : Value) (t : List Nd) (p : ByteArray) (x : Nd) (w0 w : World) (h : Ok w0 w) (hp : ∀ n ∈ t, n.1.size < 900000 ∧ n.2.2.size < 900000) (hn : Nods w v t) (hm : t.length ≤ 300) (hx : lookP t p = (x, false)) :
    Calls Tryd.prog 15 #[v, .string p] w fun e w' => e = .returned (.tuple #[.slice none 0 0, .bool false]) ∧ Ok w0 w' ∧ Below w.heap.size w w' := by
  have HP := hide hp
  have HN := hide hn
  have HX := hide hx
  clear hp hn hx
  go_enter Tryd.func15, Tryd.ntmps15
  go_wp2_with fail
  refine (rlookup_ok v t p x false w0 w h HP.out HN.out hm HX.out).mono ?_
  rintro e w1 ⟨rfl, ok1, hb1⟩
  have HB := hide (below_two hb1 (below_box w1 (.cells #[.string x.1, .int .i64 x.2.1, .string x.2.2] 27)))
  clear hb1
  go_wp2
  go_ret2
  exact ⟨rfl, h.next HB.out, HB.out⟩
theorem rsub_any (v : Value) (t : List Nd) (p : ByteArray) (l : List Nd) (f : Bool) (w0 w : World) (h : Ok w0 w) (hp : ∀ n ∈ t, n.1.size < 900000 ∧ n.2.2.size < 900000) (hpp : p.size < 900000) (hn : Nods w v t) (hm : t.length ≤ 300) (hf : (lookP t p).2 = f) (hl : subL t p = l) :
    Calls Tryd.prog 15 #[v, .string p] w fun e w' => ∃ a' c', e = .returned (.tuple #[.slice a' l.length c', .bool f]) ∧ OwnN w.heap.size w' (.slice a' l.length c') l ∧ Ok w0 w' ∧ Below w.heap.size w w' := by
  cases hx : lookP t p with
  | mk x g =>
    cases g with
    | true =>
      have hy := (lookP_true hx).1
      rcases hn with ⟨e, _⟩ | ⟨b, o, c, rfl, hc, hr⟩
      · exact absurd e (mayF_iff.1 hy).1
      · exact rsub_ok b o c t p l f w0 w h hp hpp hr hc hm hf hl
    | false =>
      have e1 : f = false := by rw [← hf, hx]
      have e2 : l = [] := by rw [← hl]; unfold subL; rw [if_neg (by rw [hf, e1]; decide)]
      subst e1 e2
      refine (rsub_no v t p x w0 w h hp hn hm hx).mono ?_
      rintro e w' ⟨rfl, ok1, hb1⟩
      exact ⟨none, 0, rfl, OwnN.nil _ _, ok1, hb1⟩
theorem graft_any (v u : Value) (t s : List Nd) (p : ByteArray) (w0 w : World) (h : Ok w0 w) (ht : Nods w v t) (hs : Nods w u s) (h1 : ∀ n ∈ t, n.1.size < 999999) (h2 : ∀ n ∈ s, n.1.size < 999999) (hp : p.size < 999999) (hm1 : t.length < 900000) (hm2 : s.length < 900000) :
    Calls Tryd.prog 16 #[v, .string p, u] w fun e w' => ∃ f g a' c', e = .returned (.tuple #[.slice a' (List.length g) c', .bool f]) ∧ OwnN w.heap.size w' (.slice a' (List.length g) c') g ∧ GraftR t p s f g ∧ Ok w0 w' ∧ Below w.heap.size w w' := by
  by_cases hall : Hog.mayL p.data.toList = true ∧ mayN t = true ∧ mayN s = true
  · obtain ⟨k1, k2, k3⟩ := hall
    rcases hs with ⟨e, _⟩ | ⟨b, o, c, rfl, hc, hr⟩
    · exact absurd e (mayF_iff.1 k3).1
    · exact graft_yes v b o c s.length t s p w0 w h ht hr rfl hc k1 k2 k3
  · have hno : Hog.mayL p.data.toList = false ∨ mayN t = false ∨ mayN s = false := by
      cases k1 : Hog.mayL p.data.toList with
      | false => exact .inl rfl
      | true =>
        cases k2 : mayN t with
        | false => exact .inr (.inl rfl)
        | true =>
          cases k3 : mayN s with
          | false => exact .inr (.inr rfl)
          | true => exact absurd ⟨k1, k2, k3⟩ hall
    refine (graft_no v u t s p _ _ w0 w h hp ht hs h1 h2 hm1 hm2 rfl rfl hno).mono ?_
    rintro e w' ⟨rfl, ok1, hb1⟩
    refine ⟨false, [], none, 0, rfl, OwnN.nil _ _, ⟨fun e => (by cases e), fun _ => ⟨rfl, ?_⟩⟩, ok1, hb1⟩
    rcases hno with k | k | k
    · exact .inl k
    · exact .inr (.inl k)
    · exact .inr (.inr (.inl k))
/-- The document's Graft tells what any such Graft tells. -/
theorem rgraft_any (v u : Value) (t s : List Nd) (p : ByteArray) (w0 w : World) (h : Ok w0 w) (ht : Nods w v t) (hs : Nods w u s) (h1 : ∀ n ∈ t, n.1.size < 10000 ∧ n.2.2.size < 900000) (h2 : ∀ n ∈ s, n.1.size < 10000 ∧ n.2.2.size < 900000) (hp : p.size < 10000) (hm1 : t.length ≤ 100) (hm2 : s.length ≤ 100)
    {f : Bool} {g : List Nd} (hR : GraftR t p s f g) :
    Calls Tryd.prog 17 #[v, .string p, u] w fun e w' => ∃ a' c', e = .returned (.tuple #[.slice a' (List.length g) c', .bool f]) ∧ OwnN w.heap.size w' (.slice a' (List.length g) c') g ∧ Ok w0 w' ∧ Below w.heap.size w w' := by
  have g1 : ∀ n ∈ t, n.1.size < 900000 ∧ n.2.2.size < 900000 := fun n hn => by have := h1 n hn; omega
  have g2 : ∀ n ∈ s, n.1.size < 900000 ∧ n.2.2.size < 900000 := fun n hn => by have := h2 n hn; omega
  cases hx : lookP t p with
  | mk x q =>
    by_cases hall : mayN t = true ∧ mayN s = true ∧ q = false
    · obtain ⟨k1, k2, rfl⟩ := hall
      have T1 := may_tree k1
      have T2 := may_tree k2
      have hl : look t p = none := by
        rcases (lookP_false hx).2 with e | e
        · rw [k1] at e; cases e
        · exact e
      have hne : p.data.toList ≠ [] := by
        intro e
        obtain ⟨r, hr, hr0⟩ := T1.root
        exact look_none.1 hl r hr (key_inj.1 (hr0.trans e.symm))
      rcases ht with ⟨e, _⟩ | ⟨bt, ot, ct, rfl, hct, hrt⟩
      · exact absurd e (mayF_iff.1 k1).1
      · rcases hs with ⟨e, _⟩ | ⟨bs, os, cs, rfl, hcs, hrs⟩
        · exact absurd e (mayF_iff.1 k2).1
        · refine (rgraft_yes bt ot ct t.length bs os cs s.length t s p x w0 w h hrt rfl hct hrs rfl hcs h1 h2 hp hm1 hm2 hne hx k1 k2).mono ?_
          rintro e w' ⟨f', g', a', c', rfl, ho, hS, ok1, hb1⟩
          obtain ⟨rfl, rfl⟩ := graft_same T1 T2 hR hS
          exact ⟨a', c', rfl, ho, ok1, hb1⟩
    · have hno : mayN t = false ∨ mayN s = false ∨ q = true := by
        cases k1 : mayN t with
        | false => exact .inl rfl
        | true =>
          cases k2 : mayN s with
          | false => exact .inr (.inl rfl)
          | true =>
            cases q with
            | true => exact .inr (.inr rfl)
            | false => exact absurd ⟨k1, k2, rfl⟩ hall
      have hfg : f = false ∧ g = [] := by
        cases f with
        | false => exact ⟨rfl, (hR.2 rfl).1⟩
        | true =>
          obtain ⟨_, m1, m2, _, _⟩ := hR.1 rfl
          rcases hno with k | k | k
          · rw [m1] at k; cases k
          · rw [m2] at k; cases k
          · subst k
            have := graft_taken hR (lookP_true hx).2
            exact this
      obtain ⟨rfl, rfl⟩ := hfg
      refine (rgraft_no v u t s p x q _ _ w0 w h ht hs g1 g2 (by omega) (by omega) hx rfl rfl hno).mono ?_
      rintro e w' ⟨rfl, ok1, hb1⟩
      exact ⟨none, 0, rfl, OwnN.nil _ _, ok1, hb1⟩
end Go.Proofs.YtomomeckgiiapaaDoor
