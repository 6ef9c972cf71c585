/- The walks of find.behind and find.Graft. -/
import Derived.Test.YtomomeckgiiapaaDoorG1
import Derived.Test.YtomomeckgiiapaaDoorF6
namespace Go.Proofs.YtomomeckgiiapaaDoor
open Go.RowKit

/-- A path behind p, as Graft reckons it. -/
def behF (p q : ByteArray) : ByteArray := if q.data.toList = [] then p else p ++ ⟨#[47]⟩ ++ q
def putF (p : ByteArray) (n : Nd) : Nd := (behF p n.1, n.2)
theorem behF_size (p q : ByteArray) : (behF p q).size ≤ p.size + 1 + q.size := by
  unfold behF
  split
  · omega
  · simp [ByteArray.size_append]
    exact Nat.le_refl 1
set_option maxHeartbeats 400000 in
theorem behind_any (p q : ByteArray) (w : World) (hp : p.size < 1000000) (hq : q.size < 1000000) : Calls Tryd.prog 39 #[.string p, .string q] w fun e w' => e = .returned (.string (behF p q)) ∧ w' = w := by
  by_cases h : q.data.toList = []
  · have h1 : (q.toList == []) = true := by rw [Lib.toList_data, h]; rfl
    have h2 : q.toList = [] := by rw [Lib.toList_data, h]
    have h3 : behF p q = p := by unfold behF; rw [if_pos h]
    rw [h3]
    go_enter Tryd.func39, Tryd.ntmps39
    go_wp2
    go_ret
    exact ⟨rfl, rfl⟩
  · have h2 : ¬ q.toList = [] := by rw [Lib.toList_data]; exact h
    have h1 : (q.toList == []) = false := by rw [beq_eq_false_iff_ne]; exact h2
    have h3 : p ++ ⟨#[47]⟩ ++ q = behF p q := by unfold behF; rw [if_neg h]
    have H3 := hide h3
    clear h3 h
    go_enter Tryd.func39, Tryd.ntmps39
    go_wp2
    go_ret
    exact ⟨ret_str H3.out, rfl⟩

/-- What Graft tells: g and true, or nothing and false. -/
def GraftR (t : List Nd) (p : ByteArray) (s : List Nd) (f : Bool) (g : List Nd) : Prop :=
  (f = true → Hog.mayL p.data.toList = true ∧ mayN t = true ∧ mayN s = true ∧ mayN g = true ∧ g.Perm (t ++ s.map (putF p))) ∧
  (f = false → g = [] ∧ (Hog.mayL p.data.toList = false ∨ mayN t = false ∨ mayN s = false ∨ ∃ es : List Nd, es.Perm (t ++ s.map (putF p)) ∧ Srtd es ∧ mayN es = false))
theorem mapput_step {s : List Nd} {k : Nat} {n : Nd} {p : ByteArray} (hn : s[k]? = some n) : (s.take (k + 1)).map (putF p) = (s.take k).map (putF p) ++ [putF p n] := by
  rw [takeN_step hn, List.map_append]; rfl

theorem OwnT.setOther {ty : TypeId} {base : Nat} {w : World} {v : Value} {ns : List Nd} (h : OwnT ty base w v ns) (B j : Nat) (x : Value) (hB : ∀ g, v.ownBlock = some g → g ≠ B) : OwnT ty base (w.setCell ⟨B, j, none⟩ x) v ns := by
  refine World.ownsRow.kept h (grown_setCell w B j x) ?_
  cases hv : v.ownBlock with
  | none => exact .inl rfl
  | some k => exact .inr fun e => hB k hv (by simpa using e)
theorem OwnT.someAt {ty : TypeId} {base : Nat} {w : World} {a : Option Addr} {n c : Nat} {ns : List Nd} (h : OwnT ty base w (.slice a n c) ns) (hn : 0 < ns.length) : ∃ g, a = some ⟨g, 0, none⟩ ∧ base ≤ g ∧ n ≤ c := by
  rcases h.2 with ⟨e, h0⟩ | ⟨g, cap, cur, e, hb, hg, h1, _⟩
  · omega
  · simp only [Value.slice.injEq] at e
    obtain ⟨rfl, rfl, rfl⟩ := e
    exact ⟨g, rfl, hb, h1⟩

set_option maxRecDepth 100000 in
set_option maxHeartbeats 1000000 in
theorem graft_no (v u : Value) (t s : List Nd) (p : ByteArray) (b1 b2 : Bool) (w0 w : World) (h : Ok w0 w) (hp : p.size < 999999) (ht : Nods w v t) (hs : Nods w u s) (h1 : ∀ n ∈ t, n.1.size < 999999) (h2 : ∀ n ∈ s, n.1.size < 999999)
    (hm1 : t.length < 900000) (hm2 : s.length < 900000) (hb1 : Hog.mayL p.data.toList = b1) (hb2 : mayN t = b2) (hno : b1 = false ∨ b2 = false ∨ mayN s = false) :
    Calls Tryd.prog 16 #[v, .string p, u] w fun e w' => e = .returned (.tuple #[.slice none 0 0, .bool false]) ∧ Ok w0 w' ∧ Below w.heap.size w w' := by
  have HT := hide ht
  have HS := hide hs
  have H1 := hide h1
  have H2 := hide h2
  have HB1 := hide hb1
  have HB2 := hide hb2
  clear ht hs h1 h2 hb1 hb2
  go_enter Tryd.func16, Tryd.ntmps16
  go_wp2_with fail
  refine (may_ok p b1 w0 w h hp HB1.out).mono ?_
  rintro e w1 ⟨rfl, ok1, hb1⟩
  cases b1 with
  | false =>
    go_wp2_with fail
    go_ret2
    exact ⟨rfl, ok1, hb1⟩
  | true =>
    go_wp2_with fail
    refine (mayT_ok v t b2 w0 w1 ok1 H1.out (HT.out.below hb1) (by omega) HB2.out).mono ?_
    rintro e w2 ⟨rfl, ok2, hb2⟩
    have HW2 := hide (below_two hb1 hb2)
    clear hb1 hb2
    cases b2 with
    | false =>
      go_wp2_with fail
      go_ret2
      exact ⟨rfl, ok2, HW2.out⟩
    | true =>
      have hms : mayN s = false := by simpa using hno
      have HMS := hide hms
      clear hms hno
      go_wp2_with fail
      refine (mayT_ok u s false w0 w2 ok2 H2.out (HS.out.below HW2.out) (by omega) HMS.out).mono ?_
      rintro e w3 ⟨rfl, ok3, hb3⟩
      go_wp2_with fail
      go_ret2
      exact ⟨rfl, ok3, below_two HW2.out hb3⟩

set_option maxRecDepth 100000 in
set_option maxHeartbeats 2000000 in
theorem graft_yes (v : Value) (bs os cs m : Nat) (t s : List Nd) (p : ByteArray) (w0 w : World) (h : Ok w0 w) (ht : Nods w v t) (hr : Run w bs os s) (hm : s.length = m) (hcm : m ≤ cs)
    (hb1 : Hog.mayL p.data.toList = true) (hb2 : mayN t = true) (hb3 : mayN s = true) :
    Calls Tryd.prog 16 #[v, .string p, .slice (some ⟨bs, os, none⟩) m cs] w fun e w' => ∃ f g a' c', e = .returned (.tuple #[.slice a' (List.length g) c', .bool f]) ∧ OwnN w.heap.size w' (.slice a' (List.length g) c') g ∧ GraftR t p s f g ∧ Ok w0 w' ∧ Below w.heap.size w w' := by
  have T1 := may_tree hb2
  have T2 := may_tree hb3
  have hpl : p.size ≤ 200 := by have := (Hog.may_parts hb1).1; rw [Hog.size_len]; omega
  have sm1 := T1.len
  have sm2 := T2.len
  rw [hm] at sm2
  have HT := hide ht
  have HR := hide hr
  have HM := hide hm
  have HT1 := hide T1
  have HT2 := hide T2
  have H1 := hide (show ∀ n ∈ t, n.1.size < 999999 from fun n hn => by have : n.1.data.toList.length ≤ 200 := (Hog.may_parts (T1.may hn)).1; rw [Hog.size_len]; omega)
  have H2 := hide (show ∀ n ∈ s, n.1.size ≤ 200 from fun n hn => by have : n.1.data.toList.length ≤ 200 := (Hog.may_parts (T2.may hn)).1; rw [Hog.size_len]; omega)
  have HB1 := hide hb1
  have HB2 := hide hb2
  have HB3 := hide hb3
  have hnt : 0 < t.length := List.length_pos_iff.2 (mayF_iff.1 hb2).1
  clear ht hr hm hb1 hb2 hb3 T1 T2
  go_enter Tryd.func16, Tryd.ntmps16
  go_wp2_with fail
  refine (may_ok p true w0 w h (by omega) HB1.out).mono ?_
  rintro e w1 ⟨rfl, ok1, hb1⟩
  go_wp2_with fail
  refine (mayT_ok v t true w0 w1 ok1 H1.out (HT.out.below hb1) (by omega) HB2.out).mono ?_
  rintro e w2 ⟨rfl, ok2, hb2⟩
  have HW2 := hide (below_two hb1 hb2)
  clear hb1 hb2 ok1
  go_wp2_with fail
  refine (mayT_ok _ s true w0 w2 ok2 (fun n hn => by have := H2.out n hn; omega) (by rw [← HM.out]; exact (HR.out.below HW2.out HR.out.1).nods (by rw [HM.out]; exact hcm)) (by rw [HM.out]; omega) HB3.out).mono ?_
  rintro e w3 ⟨rfl, ok3, hb3⟩
  have HW3 := hide (below_two HW2.out hb3)
  clear hb3 ok2
  go_wp2_with fail
  refine (placed_any v t w3 (HT.out.below HW3.out) (by omega)).mono ?_
  rintro e w4 ⟨u, rfl, ho4, hb4⟩
  obtain ⟨a4, c4, hu4⟩ := ho4.form
  subst hu4
  have HO4 := hide ho4
  have HW4 := hide (below_two HW3.out hb4)
  have hz3 : w.heap.size ≤ w3.heap.size := HW3.out.size
  have hz4 : w3.heap.size ≤ w4.heap.size := hb4.size
  have HB4 := hide hb4
  clear ho4 hb4 HW2
  go_wp2
  go_loopw [8, 10, 29] (fun x _ i wr => ∃ (k : Nat) (ys : List Nd) (a' : Option Addr) (c' : Nat), k ≤ m ∧ i = .int .i64 k ∧ x = .slice a' ys.length c' ∧ ys.length ≤ 400 + k ∧ 0 < ys.length ∧ Hid (ys = t ++ (s.take k).map (putF p)) ∧ Hid (OwnT 54 w3.heap.size wr (.slice a' ys.length c') ys) ∧ Hid (Below w3.heap.size w3 wr)) (fun _ _ i _ => m - (intOf i).toNat)
  case atStart => exact ⟨0, t, a4, c4, Nat.zero_le _, rfl, rfl, by omega, hnt, by rw [List.take_zero]; simp [Hid], HO4, HB4⟩
  case round =>
    obtain ⟨k, ys, a', c', hk, rfl, rfl, hyl, hy0, HYS, HO, HBR⟩ := hrel
    by_cases hlt : k < m
    · obtain ⟨n, hn⟩ : ∃ n, s[k]? = some n := ⟨s[k]'(by have := HM.out; omega), List.getElem?_eq_some_iff.2 ⟨_, rfl⟩⟩
      have HBW := hide (below_two HW3.out HBR.out)
      obtain ⟨g1, g2, g3⟩ := (HR.out.2 k n hn).below HBW.out HR.out.1
      have HN := hide hn
      have hns := H2.out n (List.mem_of_getElem? hn)
      have hzr : w3.heap.size ≤ wr.heap.size := HBR.out.size
      clear hn
      obtain ⟨r, hr⟩ : ∃ r, behF p n.1 = r := ⟨_, rfl⟩
      have HRR := hide hr
      clear hr
      have HX := hide (Blk.made wr n)
      obtain ⟨⟨x1, x2, x3⟩, ⟨f1, f2, f3⟩, hbl⟩ := HX.out.facts
      have HO5 : Hid (OwnT 54 w3.heap.size ((wr.alloc (.cells #[.string r, .int .i64 n.2.1, .string n.2.2] 27)).alloc (.cells #[.string r, .int .i64 n.2.1, .string n.2.2] 54)) (.slice a' ys.length c') ys) :=
        OwnT.alloc (OwnT.alloc HO.out _) _
      have HRN : Hid (ArgN ((wr.alloc (.cells #[.string r, .int .i64 n.2.1, .string n.2.2] 27)).alloc (.cells #[.string r, .int .i64 n.2.1, .string n.2.2] 54)) (some ⟨wr.heap.size + 1, 0, none⟩) 1 1 [(r, n.2)]) := by
        have h1 := (Run.oneT 54 (wr.alloc (.cells #[.string r, .int .i64 n.2.1, .string n.2.2] 27)) (r, n.2)).arg (c := 1) (by simp)
        rw [show (wr.alloc (.cells #[.string r, .int .i64 n.2.1, .string n.2.2] 27)).heap.size = wr.heap.size + 1 by simp] at h1
        exact h1
      have HB6 := hide (((HBR.out.alloc hzr (.cells #[.string r, .int .i64 n.2.1, .string n.2.2] 27)).alloc (by simp; omega) (.cells #[.string r, .int .i64 n.2.1, .string n.2.2] 54)))
      clear HX x1 x2 x3 f1 f2 f3 hbl
      go_wp2_with fail
      refine (behind_any p n.1 _ (by omega) (by omega)).mono ?_
      rintro e w5 ⟨rfl, e5⟩
      rw [e5, HRR.out]
      clear e5
      go_wp2_with (at_builtin; refine wpList_append_typed A54 Tryd.underlying50 rfl _ _ rfl w3.heap.size _ ys rfl HO5.out _ _ _ [(r, n.2)] rfl HRN.out (by simp; omega) (by simp; omega) ?_)
      intro b6 c6 w6 ho6 hb6
      have HB7 := hide (HB6.out.trans hb6)
      have HO7 : Hid (OwnT 54 w3.heap.size w6 (.slice b6 (ys ++ [(r, n.2)]).length c6) (ys ++ [(r, n.2)])) := by
        show OwnT _ _ _ _ _
        simpa using ho6
      clear ho6 hb6
      go_wp2
      go_roundw
      case rel => exact ⟨k + 1, ys ++ [(r, n.2)], b6, c6, by omega, by go_num, by simp, by simp; omega, by simp, hide (by rw [mapput_step HN.out, ← List.append_assoc, ← HYS.out, ← HRR.out]; rfl), HO7, HB7⟩
      case measure => simp [intOf]; omega
    · have ek : k = s.length := by have := HM.out; omega
      have eys : ys = t ++ s.map (putF p) := by rw [HYS.out, ek, List.take_length]
      have HE := hide eys
      obtain ⟨g, ha, hbg, hgc⟩ := OwnT.someAt HO.out hy0
      subst ha
      have hzr : w3.heap.size ≤ wr.heap.size := HBR.out.size
      obtain ⟨ly, hly⟩ : ∃ ly, ys.length = ly := ⟨_, rfl⟩
      have HLY := hide hly
      have HO' := hide (show OwnT 54 w3.heap.size wr (.slice (some ⟨g, 0, none⟩) ly c') ys by rw [← hly]; exact HO.out)
      rw [hly] at hyl hgc hy0 ⊢
      clear eys hly HO
      go_wp2_with fail
      refine (fsort_any w3.heap.size g c' ly ys wr HO'.out HLY.out (by omega)).mono ?_
      rintro e w7 ⟨rfl, es, hr7, hp7, hs7, hb7⟩
      have HB7 := hide (HBR.out.trans (hb7.mono hbg))
      have HP := hide (hp7.trans (by rw [HE.out]))
      have HS := hide hs7
      have hel : es.length = ly := by rw [hp7.length_eq]; exact HLY.out
      have HEL := hide hel
      have HN7 : Hid (Nods w7 (.slice (some ⟨g, 0, none⟩) ly c') es) := by
        have h1 := hr7.nods (c := c') (by rw [hel]; exact hgc)
        rw [hel] at h1
        exact h1
      clear hr7 hp7 hs7 hb7 hel
      go_wp2_with fail
      refine (plain_any _ es w7 HN7.out (by rw [HEL.out]; omega)).mono ?_
      rintro e w8 ⟨v8, rfl, ho8, hb8⟩
      obtain ⟨a8, c8, hv8⟩ := ho8.form
      subst hv8
      have HB8 := hide (below_two HB7.out hb8)
      have hzz : w.heap.size ≤ w7.heap.size := Nat.le_trans hz3 HB7.out.size
      have HO8 := hide (OwnT.base ho8 hzz)
      have HW8 := hide (below_two HW3.out HB8.out)
      clear ho8 hb8
      have H8 := hide (show ∀ n ∈ es, n.1.size < 999999 from fun n hn => by
        rcases List.mem_append.1 (HP.out.mem_iff.1 hn) with hn | hn
        · exact H1.out n hn
        · obtain ⟨y, hy, rfl⟩ := List.mem_map.1 hn
          have h1 := H2.out y hy
          have h2 := behF_size p y.1
          show (behF p y.1).size < 999999
          omega)
      cases hf : mayN es with
      | false =>
        have HF := hide hf
        clear hf
        go_wp2_with fail
        refine (mayT_ok _ es false w0 w8 (h.next HW8.out) H8.out HO8.out.nods (by rw [HEL.out]; omega) HF.out).mono ?_
        rintro e w9 ⟨rfl, ok9, hb9⟩
        go_wp2_with fail
        go_ret2
        exact ⟨false, [], none, 0, rfl, OwnN.nil _ _, ⟨fun e => (by cases e), fun _ => ⟨rfl, .inr (.inr (.inr ⟨es, HP.out, HS.out, HF.out⟩))⟩⟩, ok9, below_two HW8.out hb9⟩
      | true =>
        have HF := hide hf
        clear hf
        go_wp2_with fail
        refine (mayT_ok _ es true w0 w8 (h.next HW8.out) H8.out HO8.out.nods (by rw [HEL.out]; omega) HF.out).mono ?_
        rintro e w9 ⟨rfl, ok9, hb9⟩
        go_wp2_with fail
        go_ret2
        exact ⟨true, es, a8, c8, rfl, OwnT.below HO8.out hb9, ⟨fun _ => ⟨HB1.out, HB2.out, HB3.out, HF.out, HP.out⟩, fun e => (by cases e)⟩, ok9, below_two HW8.out hb9⟩
end Go.Proofs.YtomomeckgiiapaaDoor
