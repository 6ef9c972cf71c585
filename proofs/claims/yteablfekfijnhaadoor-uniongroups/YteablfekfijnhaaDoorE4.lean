/- The walk of the statement UnionGroups: of whatever trees, at whatever number, by either policy, it answers true. -/
import Derived.Test.YteablfekfijnhaaDoorE2
namespace Go.Proofs.YteablfekfijnhaaDoor
open Go.RowKit

theorem Trs.cap {w : World} {ao : Option Addr} {n c : Nat} {ts : List (List Nd)} (h : Trs w (.slice ao n c) ts) : n ≤ c := by
  rcases h with ⟨_, a, c', e⟩ | ⟨b, o, c', e, hc, _⟩
  · simp only [Value.slice.injEq] at e; omega
  · simp only [Value.slice.injEq] at e; omega
theorem Trs.front {w : World} {ao : Option Addr} {n c r : Nat} {ts : List (List Nd)} (h : Trs w (.slice ao n c) ts) (hr : r ≤ n) : Trs w (.slice ao r c) (ts.take r) := by
  rcases h with ⟨rfl, a, c', e⟩ | ⟨b, o, c', e, hc, hl, hx⟩
  · simp only [Value.slice.injEq] at e
    obtain rfl : r = 0 := by omega
    exact .inl ⟨rfl, _, _, rfl⟩
  · simp only [Value.slice.injEq] at e
    obtain ⟨rfl, hn, rfl⟩ := e
    have hl2 : (ts.take r).length = r := by rw [List.length_take]; omega
    refine .inr ⟨b, o, c, by rw [hl2], by omega, hl, fun j t ht => hx j t ?_⟩
    rw [List.getElem?_take] at ht
    split at ht
    · exact ht
    · cases ht
theorem take_flat : ∀ (ts : List (List Nd)) (r : Nat), (ts.take r).flatten.length ≤ ts.flatten.length := fun ts r => by
  have h : ts.flatten.length = ((ts.take r) ++ (ts.drop r)).flatten.length := by rw [List.take_append_drop]
  rw [h, List.flatten_append, List.length_append]
  omega
/-- What the walk asks of the trees, by their values. -/
structure Vals (w : World) (ao : Option Addr) (n : Nat) (us : List Value) (ts : List (List Nd)) : Prop where
  cells : CellsV w ao us
  holds : Holds w us ts
  len : us.length = n
theorem Trs.valsOf {w : World} {ao : Option Addr} {n c : Nat} {ts : List (List Nd)} (h : Trs w (.slice ao n c) ts) : ∃ us, Vals w ao n us ts := by
  obtain ⟨a, c', us, e, h1, h2⟩ := h.vals
  simp only [Value.slice.injEq] at e
  obtain ⟨rfl, hn, rfl⟩ := e
  exact ⟨us, h1, h2, by rw [h2.len, hn]⟩
theorem Vals.below {w w' : World} {ao : Option Addr} {n : Nat} {us : List Value} {ts : List (List Nd)} (h : Vals w ao n us ts) (hb : Below w.heap.size w w') : Vals w' ao n us ts := ⟨h.cells.below hb, h.holds.below hb, h.len⟩
theorem Holds.drop {w : World} {us : List Value} {ts : List (List Nd)} (h : Holds w us ts) (r : Nat) : Holds w (us.drop r) (ts.drop r) :=
  ⟨by simp [h.len], fun j u t hu ht => h.nods (r + j) u t (by rw [List.getElem?_drop] at hu; exact hu) (by rw [List.getElem?_drop] at ht; exact ht)⟩
theorem Vals.cut {w : World} {ad : Addr} {n : Nat} {us : List Value} {ts : List (List Nd)} (h : Vals w (some ad) n us ts) (r : Nat) : CellsV w (some (ad.add r)) (us.drop r) := by
  intro j u hu
  rw [List.getElem?_drop] at hu
  obtain ⟨b, o, e, hl, hc⟩ := h.cells _ u hu
  cases e
  rw [addN_plain]
  exact ⟨b, o + r, rfl, hl, by rw [Nat.add_assoc]; exact hc⟩
theorem drop_none {ts : List (List Nd)} {n r : Nat} (h : n = ts.length) (hr : n ≤ r) : ts.drop r = [] := List.drop_eq_nil_of_le (by omega)
theorem both_size {bl : List Nd} {ts : List (List Nd)} (hb : ∀ n ∈ bl, goodB n = true) (hs : Small ts) (r : Nat) : ∀ t ∈ bl :: ts.drop r, ∀ n ∈ t, n.1.size < 999999 := by
  intro t ht n hn
  rcases List.mem_cons.1 ht with rfl | ht
  · exact good_small (hb n hn)
  · exact hs.size t (List.mem_of_mem_drop ht) n hn
theorem both_len {bl : List Nd} {ts : List (List Nd)} (hs : Small ts) (r : Nat) : (bl :: ts.drop r).length < 1000 := by
  have := hs.1
  rw [List.length_cons, List.length_drop]
  omega
theorem drop_flat (ts : List (List Nd)) (r : Nat) : (ts.drop r).flatten.length ≤ ts.flatten.length := by
  have h : ts.flatten.length = ((ts.take r) ++ (ts.drop r)).flatten.length := by rw [List.take_append_drop]
  rw [h, List.flatten_append, List.length_append]
  omega
theorem both_flat {bl : List Nd} {ts : List (List Nd)} (hs : Small ts) (hl : bl.length < 200) (r : Nat) : (bl :: ts.drop r).flatten.length < 400000 := by
  have := hs.flat
  have := drop_flat ts r
  rw [List.flatten_cons, List.length_append]
  omega
/-- The world with the root's row, and two rows that hold it. -/
abbrev bareW (w : World) : World := ((w.alloc (.cells #[.string ⟨#[]⟩, .int .i64 1, .string ⟨#[]⟩] 37)).alloc (.cells #[.slice (some ⟨w.heap.size, 0, none⟩) 1 1] 25)).alloc (.cells #[.slice (some ⟨w.heap.size, 0, none⟩) 1 1] 25)
abbrev bareA (w : World) : World := w.alloc (.cells #[.string ⟨#[]⟩, .int .i64 1, .string ⟨#[]⟩] 37)
structure Barefacts (w : World) (ao : Option Addr) (n : Nat) (us : List Value) (ts : List (List Nd)) : Prop where
  below : Below w.heap.size w (bareW w)
  size : (bareW w).heap.size = w.heap.size + 1 + 1 + 1
  cells : CellsV (bareW w) ao us
  vals : Vals (bareW w) ao n us ts
  bare : CellsV (bareW w) (some ⟨w.heap.size + 1 + 1, 0, none⟩) [.slice (some ⟨w.heap.size, 0, none⟩) 1 1]
  own : OwnV (w.heap.size + 1) (bareW w) (.slice (some ⟨w.heap.size + 1, 0, none⟩) 1 1) [.slice (some ⟨w.heap.size, 0, none⟩) 1 1]
  sizeA : (bareA w).heap.size = w.heap.size + 1
  rootA : Nods (bareA w) (.slice (some ⟨w.heap.size, 0, none⟩) 1 1) [ndRoot]
  belowA : Below (w.heap.size + 1) (bareA w) (bareW w)
  vals0 : Vals w ao n us ts
theorem Barefacts.make {w : World} {ao : Option Addr} {n : Nat} {us : List Value} {ts : List (List Nd)} (h : Vals w ao n us ts) : Barefacts w ao n us ts := by
  obtain ⟨w7, hw7⟩ : ∃ w7, w7 = w.alloc (.cells #[.string ⟨#[]⟩, .int .i64 1, .string ⟨#[]⟩] 37) := ⟨_, rfl⟩
  obtain ⟨w8, hw8⟩ : ∃ w8, w8 = w7.alloc (.cells #[.slice (some ⟨w.heap.size, 0, none⟩) 1 1] 25) := ⟨_, rfl⟩
  obtain ⟨w9, hw9⟩ : ∃ w9, w9 = w8.alloc (.cells #[.slice (some ⟨w.heap.size, 0, none⟩) 1 1] 25) := ⟨_, rfl⟩
  have e : bareW w = w9 := by rw [hw9, hw8, hw7]
  have b7 : Below w.heap.size w w7 := by rw [hw7]; exact below_alloc _ _
  have b8 : Below w7.heap.size w7 w8 := by rw [hw8]; exact below_alloc _ _
  have b9 : Below w8.heap.size w8 w9 := by rw [hw9]; exact below_alloc _ _
  have s7 : w7.heap.size = w.heap.size + 1 := by rw [hw7]; simp
  have s8 : w8.heap.size = w.heap.size + 1 + 1 := by rw [hw8]; simp [s7]
  have s9 : w9.heap.size = w.heap.size + 1 + 1 + 1 := by rw [hw9]; simp [s8]
  have hb := below_two (below_two b7 b8) b9
  have hr : Nods w7 (.slice (some ⟨w.heap.size, 0, none⟩) 1 1) [ndRoot] := by
    have h1 := (Run.one w ndRoot).nods (c := 1) (by simp)
    rw [hw7]
    exact h1
  have ho : OwnV w7.heap.size w8 (.slice (some ⟨w7.heap.size, 0, none⟩) 1 1) [.slice (some ⟨w.heap.size, 0, none⟩) 1 1] := by
    rw [hw8]
    exact OwnV.made w7 [_] (by simp [maxLen])
  have hc : CellsV w9 (some ⟨w8.heap.size, 0, none⟩) [.slice (some ⟨w.heap.size, 0, none⟩) 1 1] := by
    rw [hw9]
    exact (OwnV.made w8 [.slice (some ⟨w.heap.size, 0, none⟩) 1 1] (by simp [maxLen])).cells
  rw [s7] at ho
  rw [s8] at hc
  have hv := h.below hb
  exact ⟨by rw [e]; exact hb, by rw [e]; exact s9, by rw [e]; exact hv.cells, by rw [e]; exact hv, by rw [e]; exact hc, by rw [e]; exact ho.below b9, by show (w.alloc _).heap.size = _; rw [← hw7]; exact s7, by show Nods (w.alloc _) _ _; rw [← hw7]; exact hr, by rw [e]; show Below _ (w.alloc _) _; rw [← hw7, ← s7]; exact below_two b8 b9, h⟩
theorem Barefacts.after {w w7 w8 : World} {ao : Option Addr} {n : Nat} {us : List Value} {ts : List (List Nd)} (h : Barefacts w ao n us ts) (h7 : Below (w.heap.size + 1 + 1 + 1) (bareW w) w7) (h8 : Below (w.heap.size + 1) w7 w8) :
    Below w.heap.size w w8 ∧ Holds w8 ([.slice (some ⟨w.heap.size, 0, none⟩) 1 1] ++ (us ++ [.slice (some ⟨w.heap.size, 0, none⟩) 1 1])) ([ndRoot] :: (ts ++ [[ndRoot]])) := by
  have hb : Below w.heap.size w w8 := (h.below.trans (h7.mono (by omega))).trans (h8.mono (by omega))
  have hA : Below (bareA w).heap.size (bareA w) w8 := by
    rw [h.sizeA]
    exact (h.belowA.trans (h7.mono (by omega))).trans h8
  have hr := h.rootA.below hA
  exact ⟨hb, (Holds.one hr).app ((h.vals0.holds.below hb).app (Holds.one hr))⟩
theorem OwnV.nilcap {base : Nat} {w : World} {b : Option Addr} {n c : Nat} {us : List Value} (h : OwnV base w (.slice b n c) us) : b = none → c = 0 := by
  intro e
  rcases h.2 with ⟨e2, _⟩ | ⟨g, cap, cur, e2, _⟩
  · simp only [Value.slice.injEq] at e2
    exact e2.2.2
  · rw [e] at e2
    simp at e2
theorem bare_size {ts : List (List Nd)} (hs : Small ts) : ∀ t ∈ [ndRoot] :: (ts ++ [[ndRoot]]), ∀ n ∈ t, n.1.size < 999999 := by
  intro t ht n hn
  have h0 : ndRoot.1.size < 999999 := by decide
  rcases List.mem_cons.1 ht with rfl | ht
  · rw [List.mem_singleton.1 hn]; exact h0
  · rcases List.mem_append.1 ht with ht | ht
    · exact hs.size t ht n hn
    · rw [List.mem_singleton.1 ht] at hn
      rw [List.mem_singleton.1 hn]; exact h0
theorem bare_len {ts : List (List Nd)} (hs : Small ts) : ([ndRoot] :: (ts ++ [[ndRoot]])).length < 1000 := by
  have := hs.1
  simp only [List.length_cons, List.length_append, List.length_nil]
  omega
theorem bare_flat {ts : List (List Nd)} (hs : Small ts) : ([ndRoot] :: (ts ++ [[ndRoot]])).flatten.length < 400000 := by
  have := hs.flat
  simp only [List.flatten_cons, List.flatten_append, List.length_append, List.flatten_nil, List.length_singleton, List.length_nil]
  omega
theorem union_len {policy : Int} {ts : List (List Nd)} {es : List Nd} {err : Int} (hp : policy = 0 ∨ policy = 1) (h : UnionIs policy ts es err) (hl : ts.flatten.length < 400) : es.length ≤ 400 := by
  rcases union_cases hp h hl with ⟨_, rfl, _⟩ | ⟨_, _, _, rfl, _⟩ | ⟨r, _, s, _⟩
  · simp
  · simp
  · exact (sorted_tree r hl s).1.len

set_option maxRecDepth 100000 in
set_option maxHeartbeats 8000000 in
theorem groups_walk (v : Value) (ts : List (List Nd)) (k : Int) (fb : Bool) (w : World) (hsh : w.ShapedOpen Tryd.prog) (hT : Trs w v ts) (hm : ∀ t ∈ ts, t.length ≤ maxLen) (hnil : ∀ n c, v = .slice none n c → c = 0) :
    Calls Tryd.prog 6 #[v, .int .i64 k, .bool fb] w fun e w' => e = .returned (.bool true) ∧ Below w.heap.size w w' := by
  obtain ⟨ao, c, rfl⟩ := hT.form
  have hnil' : ao = none → c = 0 := fun e => hnil _ c (by rw [e])
  obtain ⟨n, hn⟩ : ∃ n, n = ts.length := ⟨_, rfl⟩
  rw [← hn] at hT ⊢
  have HNIL := hide hnil'
  have HN := hide hn
  have HT := hide hT
  have HM := hide hm
  have ok0 : Ok w w := Ok.start hsh
  have hcap := hT.cap
  clear hT hm hn hnil hnil'
  go_enter Tryd.func6, Tryd.ntmps6
  go_wp2_with fail
  refine (great_ok _ ts w HT.out HM.out).mono ?_
  rintro e w1 ⟨g, rfl, hg, rfl⟩
  cases g with
  | true =>
    go_wp2_with fail
    refine (awake4_ok w1 w1 ok0).mono ?_
    rintro e w2 ⟨rfl, ok2, hb2⟩
    go_wp2
    go_ret
    exact ⟨rfl, hb2⟩
  | false =>
    have HS := hide (hg rfl)
    have hn5 : n ≤ 5 := by have := HS.out.1; have := HN.out; omega
    obtain ⟨us, hus⟩ := HT.out.valsOf
    have HV := hide hus
    have hcap' : (n : Int) ≤ (c : Int) := by omega
    clear hg hus
    cases fb
    all_goals
      go_wp2_with fail
      refine (low_any k ((n : Int) + 1) w1 (by omega) (by omega)).mono ?_
      rintro e w2 ⟨r, rfl, hr, rfl⟩
      have hrn : r ≤ n := by omega
      have hrn' : (r : Int) ≤ (n : Int) := by omega
      have hrc' : (r : Int) ≤ (c : Int) := by omega
      have HTK := hide (HT.out.front hrn)
      clear hr
      go_wp2_with fail
      refine (of_ok _ _ ts w2 w2 ok0 HT.out HS.out.size (by have := HS.out.1; omega) (by have := HS.out.flat; omega)).mono ?_
      rintro e w3 ⟨va, al, e1, rfl, hoa, hua, ok3, hb3⟩
      have HOA := hide hoa
      have HUA := hide hua
      have HTK3 := hide (HTK.out.below hb3)
      have HV3 := hide (HV.out.below hb3)
      obtain ⟨a3, c3, e3⟩ := hoa.form
      subst e3
      clear hoa hua hb3 HTK HV
      go_wp2_with fail
      refine (of_ok _ _ (ts.take r) w2 w3 ok3 HTK3.out (fun t ht => HS.out.size t (List.mem_of_mem_take ht)) (by have := HS.out.1; rw [List.length_take]; omega) (by have := HS.out.flat; have := take_flat ts r; omega)).mono ?_
      rintro e w4 ⟨vb, bl, f1, rfl, hob, hub, ok4, hb4⟩
      have hgf := groups_fact (by decide) (ts := ts.take r) (us := ts.drop r) (by rw [List.take_append_drop]; exact HUA.out) hub (by rw [List.take_append_drop]; have := HS.out.flat; omega)
      obtain ⟨hg1, hg2, hg3⟩ := hgf
      have HAL := hide (union_len (by decide) HUA.out (by have := HS.out.flat; omega))
      have HG1 := hide hg1
      have HG2 := hide hg2
      have HG3 := hide hg3
      have HOA4 := hide (HOA.out.below hb4)
      have HOB4 := hide hob
      have HV4 := hide (HV3.out.below hb4)
      obtain ⟨a4, c4, e4⟩ := hob.form
      subst e4
      clear hob hub hb4 hg1 hg2 hg3 HOA HUA HTK3 HV3
      by_cases h0 : e1 = 0
      rotate_left
      · have ha := HG2.out h0
        subst ha
        have hd : (e1 != 0) = true := by simpa using h0
        have hd2 : (e1 == 0) = false := by simpa using h0
        have HH0 := hide h0
        clear h0
        go_wp2_with fail
        refine (awake4_ok w2 w4 ok4).mono ?_
        rintro e w5 ⟨rfl, ok5, hb5⟩
        go_wp2
        go_ret
        exact ⟨rfl, ok5.2⟩
      · subst h0
        obtain rfl := HG1.out rfl
        obtain ⟨hbl, hbg, hbb, hbc⟩ := HG3.out rfl
        have HBG := hide hbg
        have HBB := hide hbb
        have HBC := hide hbc
        have HBL := hide hbl
        clear hbl hbg hbb hbc HG1 HG2 HG3
        obtain ⟨lb, hlb⟩ : ∃ lb, lb = bl.length := ⟨_, rfl⟩
        have HLB := hide hlb
        obtain ⟨la, hla⟩ : ∃ la, la = al.length := ⟨_, rfl⟩
        have HLA := hide hla
        rw [← hlb] at HOB4 ⊢
        rw [← hla] at HOA4 ⊢
        clear hlb hla
        have h3 : (ao = none ∧ c = 0 ∧ n = 0 ∧ r = 0) ∨ (∃ a, ao = some a ∧ c = r ∧ n = r) ∨ ∃ a, ao = some a ∧ ¬ c = r := by
          cases ao with
          | none => have := HNIL.out rfl; exact .inl ⟨rfl, this, by omega, by omega⟩
          | some a =>
            by_cases hc : c = r
            · exact .inr (.inl ⟨a, rfl, hc, by omega⟩)
            · exact .inr (.inr ⟨a, rfl, hc⟩)
        rcases h3 with ⟨rfl, rfl, rfl, rfl⟩ | ⟨ad, rfl, rfl, rfl⟩ | ⟨ad, rfl, hcr⟩
        · obtain ⟨w5, hw5⟩ : ∃ w5, w5 = w4.alloc (.cells #[.slice a4 lb c4] 25) := ⟨_, rfl⟩
          have HTB : Hid (Trs w5 (.slice (some ⟨w4.heap.size, 0, none⟩) 1 1) (bl :: ts.drop 0)) := by
            rw [drop_none HN.out (Nat.le_refl _), hw5]
            exact (OwnV.made w4 [.slice a4 lb c4] (by simp [maxLen])).trs ((Holds.one HOB4.out.nods).below (below_alloc _ _))
          have hb5 : Below w4.heap.size w4 w5 := by rw [hw5]; exact below_alloc _ _
          have ok5 := ok4.next hb5
          have HOA5 := hide (HOA4.out.below hb5)
          have HV5 := hide (HV4.out.below hb5)
          clear hb5 HOA4 HOB4 HV4
          go_wp2_with fail
          rw [← hw5]
          clear hw5
          refine (of_ok _ _ (bl :: ts.drop _) w2 w5 ok5 HTB.out (both_size HBG.out HS.out _) (both_len HS.out _) (both_flat HS.out HBL.out _)).mono ?_
          rintro e w6 ⟨v6, es, g1, rfl, ho6, hu6, ok6, hb6⟩
          obtain ⟨rfl, hes⟩ := HBB.out es g1 hu6
          rw [hes] at ho6
          obtain ⟨a6, c6, e6⟩ := ho6.form
          rw [← HLA.out] at e6
          subst e6
          have HO6 := hide ho6.nods
          have HOA6 := hide (HOA5.out.below hb6).nods
          have HV6 := hide (HV5.out.below hb6)
          clear ho6 hu6 hes hb6 HOA5 HV5 HTB HBB
          obtain ⟨HF⟩ : Nonempty (Hid (Barefacts w6 none 0 us ts)) := ⟨Barefacts.make HV6.out⟩
          have HUN : Hid (0 = us.length) := HV6.out.len.symm
          go_wp2_with (at_builtin; refine wpList_append_full rfl _ _ rfl none 0 us rfl HUN.out HF.out.cells (w6.heap.size + 1 + 1 + 1) _ 1 1 [.slice (some ⟨w6.heap.size, 0, none⟩) 1 1] rfl rfl HF.out.bare (fun u hu => by simp at hu; rw [hu]; rfl) (by simp) (by have := HUN.out; simp only [List.length_singleton]; omega) (by simp) ?_)
          intro b7 c7 w7 ho7 hb7
          have hb7' : Below (bareW w6).heap.size (bareW w6) w7 := by rw [HF.out.size]; exact hb7
          have HB7 := hide hb7
          have HO7 := hide (HF.out.own.below hb7')
          have HCB7 := hide ho7.cells
          have HNC := hide ho7.nilcap
          have hs7 : w6.heap.size + 1 ≤ w7.heap.size := by have := hb7'.size; rw [HF.out.size] at this; omega
          have HUC : Hid (∀ u ∈ us ++ [.slice (some ⟨w6.heap.size, 0, none⟩) 1 1], u.oneCell' = true) := fun u hu => (HF.out.after hb7 (Below.refl _ _)).2.cell u (by rw [List.singleton_append]; exact List.mem_cons_of_mem _ hu)
          clear hb7 hb7' ho7
          go_wp2_with (at_builtin; refine wpList_append_trees rfl _ _ rfl (w6.heap.size + 1) _ [.slice (some ⟨w6.heap.size, 0, none⟩) 1 1] rfl HO7.out _ _ _ (us ++ [.slice (some ⟨w6.heap.size, 0, none⟩) 1 1]) rfl (by simp) HNC.out HCB7.out HUC.out (by have := HUN.out; simp only [List.length_singleton, List.length_append]; omega) hs7 ?_)
          intro b8 c8 w8 ho8 hb8
          obtain ⟨hbw, hho⟩ := HF.out.after HB7.out hb8
          have HT8 := hide (ho8.trs hho)
          have ok8 := ok6.next hbw
          have HO8 := hide (HO6.out.below hbw)
          have HOA8 := hide (HOA6.out.below hbw)
          clear hbw hho hb8 ho8 HB7 HO7 HCB7 HNC HUC HF HO6 HOA6 HV6
          go_wp2_with fail
          refine (of_ok _ _ ([ndRoot] :: (ts ++ [[ndRoot]])) w2 w8 ok8 HT8.out (bare_size HS.out) (bare_len HS.out) (bare_flat HS.out)).mono ?_
          rintro e w9 ⟨v9, cs, h9, rfl, ho9, hu9, ok9, hb9⟩
          obtain ⟨rfl, hcs⟩ := HBC.out cs h9 (by rw [List.take_append_drop]; exact hu9)
          rw [hcs] at ho9
          obtain ⟨a9, c9, e9⟩ := ho9.form
          rw [← HLA.out] at e9
          subst e9
          have HN9 := hide ho9.nods
          have HO9 := hide (HO8.out.below hb9)
          have HOA9 := hide (HOA8.out.below hb9)
          clear ho9 hu9 hcs hb9 HO8 HOA8 HT8 HBC
          go_wp2_with fail
          refine (sameN_any _ _ al al w9 HOA9.out HO9.out (by have := HAL.out; omega)).mono ?_
          rintro e w10 ⟨rfl, hb10⟩
          rw [show decide (al = al) = true from by simp]
          have ok10 := ok9.next hb10
          have HN10 := hide (HN9.out.below hb10)
          have HOA10 := hide (HOA9.out.below hb10)
          clear hb10 HN9 HO9 HOA9
          go_wp2_with fail
          refine (sameN_any _ _ al al w10 HOA10.out HN10.out (by have := HAL.out; omega)).mono ?_
          rintro e w11 ⟨rfl, hb11⟩
          rw [show decide (al = al) = true from by simp]
          have ok11 := ok10.next hb11
          clear hb11 HN10 HOA10
          go_wp2_with fail
          refine (awake4_ok w2 w11 ok11).mono ?_
          rintro e w12 ⟨rfl, ok12, hb12⟩
          go_wp2
          go_ret
          exact ⟨rfl, ok12.2⟩
        · obtain ⟨w5, hw5⟩ : ∃ w5, w5 = w4.alloc (.cells #[.slice a4 lb c4] 25) := ⟨_, rfl⟩
          have HTB : Hid (Trs w5 (.slice (some ⟨w4.heap.size, 0, none⟩) 1 1) (bl :: ts.drop n)) := by
            rw [drop_none HN.out (Nat.le_refl _), hw5]
            exact (OwnV.made w4 [.slice a4 lb c4] (by simp [maxLen])).trs ((Holds.one HOB4.out.nods).below (below_alloc _ _))
          have hb5 : Below w4.heap.size w4 w5 := by rw [hw5]; exact below_alloc _ _
          have ok5 := ok4.next hb5
          have HOA5 := hide (HOA4.out.below hb5)
          have HV5 := hide (HV4.out.below hb5)
          clear hb5 HOA4 HOB4 HV4
          go_wp2_with fail
          rw [← hw5]
          clear hw5
          refine (of_ok _ _ (bl :: ts.drop _) w2 w5 ok5 HTB.out (both_size HBG.out HS.out _) (both_len HS.out _) (both_flat HS.out HBL.out _)).mono ?_
          rintro e w6 ⟨v6, es, g1, rfl, ho6, hu6, ok6, hb6⟩
          obtain ⟨rfl, hes⟩ := HBB.out es g1 hu6
          rw [hes] at ho6
          obtain ⟨a6, c6, e6⟩ := ho6.form
          rw [← HLA.out] at e6
          subst e6
          have HO6 := hide ho6.nods
          have HOA6 := hide (HOA5.out.below hb6).nods
          have HV6 := hide (HV5.out.below hb6)
          clear ho6 hu6 hes hb6 HOA5 HV5 HTB HBB
          obtain ⟨HF⟩ : Nonempty (Hid (Barefacts w6 (some ad) n us ts)) := ⟨Barefacts.make HV6.out⟩
          have HUN : Hid (n = us.length) := HV6.out.len.symm
          go_wp2_with (at_builtin; refine wpList_append_full rfl _ _ rfl (some ad) n us rfl HUN.out HF.out.cells (w6.heap.size + 1 + 1 + 1) _ 1 1 [.slice (some ⟨w6.heap.size, 0, none⟩) 1 1] rfl rfl HF.out.bare (fun u hu => by simp at hu; rw [hu]; rfl) (by simp) (by have := HUN.out; simp only [List.length_singleton]; omega) (by simp) ?_)
          intro b7 c7 w7 ho7 hb7
          have hb7' : Below (bareW w6).heap.size (bareW w6) w7 := by rw [HF.out.size]; exact hb7
          have HB7 := hide hb7
          have HO7 := hide (HF.out.own.below hb7')
          have HCB7 := hide ho7.cells
          have HNC := hide ho7.nilcap
          have hs7 : w6.heap.size + 1 ≤ w7.heap.size := by have := hb7'.size; rw [HF.out.size] at this; omega
          have HUC : Hid (∀ u ∈ us ++ [.slice (some ⟨w6.heap.size, 0, none⟩) 1 1], u.oneCell' = true) := fun u hu => (HF.out.after hb7 (Below.refl _ _)).2.cell u (by rw [List.singleton_append]; exact List.mem_cons_of_mem _ hu)
          clear hb7 hb7' ho7
          go_wp2_with (at_builtin; refine wpList_append_trees rfl _ _ rfl (w6.heap.size + 1) _ [.slice (some ⟨w6.heap.size, 0, none⟩) 1 1] rfl HO7.out _ _ _ (us ++ [.slice (some ⟨w6.heap.size, 0, none⟩) 1 1]) rfl (by simp) HNC.out HCB7.out HUC.out (by have := HUN.out; simp only [List.length_singleton, List.length_append]; omega) hs7 ?_)
          intro b8 c8 w8 ho8 hb8
          obtain ⟨hbw, hho⟩ := HF.out.after HB7.out hb8
          have HT8 := hide (ho8.trs hho)
          have ok8 := ok6.next hbw
          have HO8 := hide (HO6.out.below hbw)
          have HOA8 := hide (HOA6.out.below hbw)
          clear hbw hho hb8 ho8 HB7 HO7 HCB7 HNC HUC HF HO6 HOA6 HV6
          go_wp2_with fail
          refine (of_ok _ _ ([ndRoot] :: (ts ++ [[ndRoot]])) w2 w8 ok8 HT8.out (bare_size HS.out) (bare_len HS.out) (bare_flat HS.out)).mono ?_
          rintro e w9 ⟨v9, cs, h9, rfl, ho9, hu9, ok9, hb9⟩
          obtain ⟨rfl, hcs⟩ := HBC.out cs h9 (by rw [List.take_append_drop]; exact hu9)
          rw [hcs] at ho9
          obtain ⟨a9, c9, e9⟩ := ho9.form
          rw [← HLA.out] at e9
          subst e9
          have HN9 := hide ho9.nods
          have HO9 := hide (HO8.out.below hb9)
          have HOA9 := hide (HOA8.out.below hb9)
          clear ho9 hu9 hcs hb9 HO8 HOA8 HT8 HBC
          go_wp2_with fail
          refine (sameN_any _ _ al al w9 HOA9.out HO9.out (by have := HAL.out; omega)).mono ?_
          rintro e w10 ⟨rfl, hb10⟩
          rw [show decide (al = al) = true from by simp]
          have ok10 := ok9.next hb10
          have HN10 := hide (HN9.out.below hb10)
          have HOA10 := hide (HOA9.out.below hb10)
          clear hb10 HN9 HO9 HOA9
          go_wp2_with fail
          refine (sameN_any _ _ al al w10 HOA10.out HN10.out (by have := HAL.out; omega)).mono ?_
          rintro e w11 ⟨rfl, hb11⟩
          rw [show decide (al = al) = true from by simp]
          have ok11 := ok10.next hb11
          clear hb11 HN10 HOA10
          go_wp2_with fail
          refine (awake4_ok w2 w11 ok11).mono ?_
          rintro e w12 ⟨rfl, ok12, hb12⟩
          go_wp2
          go_ret
          exact ⟨rfl, ok12.2⟩
        · have HCU : Hid (CellsV (w4.alloc (.cells #[.slice a4 lb c4] 25)) (some (ad.add r)) (us.drop r)) := (HV4.out.below (below_alloc _ _)).cut r
          have hul : us.length = n := HV4.out.len
          have HUL := hide hul
          have HUD : Hid (n - r = (us.drop r).length) := by show _ = _; rw [List.length_drop, hul]
          have HUC : Hid (∀ u ∈ us.drop r, u.oneCell' = true) := (HV4.out.holds.drop r).cell
          clear hul
          go_wp2_with (at_builtin; refine wpList_append_trees rfl _ _ rfl w4.heap.size _ [.slice a4 lb c4] rfl (OwnV.made w4 [.slice a4 lb c4] (by simp [maxLen])) _ _ _ (us.drop r) rfl HUD.out (fun e => by cases e) HCU.out HUC.out (by have := HUD.out; simp only [List.length_singleton]; omega) (by simp) ?_)
          intro b5 c5 w5 ho5 hb5
          have hb5' : Below w4.heap.size w4 w5 := (below_alloc w4 _).trans hb5
          have HTB : Hid (Trs w5 (.slice b5 (1 + (n - r)) c5) (bl :: ts.drop r)) := by
            have h1 := ho5.trs (((Holds.one HOB4.out.nods).app (HV4.out.holds.drop r)).below hb5')
            rw [HUL.out] at h1
            exact h1
          have ok5 := ok4.next hb5'
          have HOA5 := hide (HOA4.out.below hb5')
          have HV5 := hide (HV4.out.below hb5')
          rw [HUL.out]
          clear hb5 hb5' ho5 HOA4 HOB4 HV4 HCU HUC HUD HUL
          go_wp2_with fail
          refine (of_ok _ _ (bl :: ts.drop _) w2 w5 ok5 HTB.out (both_size HBG.out HS.out _) (both_len HS.out _) (both_flat HS.out HBL.out _)).mono ?_
          rintro e w6 ⟨v6, es, g1, rfl, ho6, hu6, ok6, hb6⟩
          obtain ⟨rfl, hes⟩ := HBB.out es g1 hu6
          rw [hes] at ho6
          obtain ⟨a6, c6, e6⟩ := ho6.form
          rw [← HLA.out] at e6
          subst e6
          have HO6 := hide ho6.nods
          have HOA6 := hide (HOA5.out.below hb6).nods
          have HV6 := hide (HV5.out.below hb6)
          clear ho6 hu6 hes hb6 HOA5 HV5 HTB HBB
          obtain ⟨HF⟩ : Nonempty (Hid (Barefacts w6 (some ad) n us ts)) := ⟨Barefacts.make HV6.out⟩
          have HUN : Hid (n = us.length) := HV6.out.len.symm
          go_wp2_with (at_builtin; refine wpList_append_full rfl _ _ rfl (some ad) n us rfl HUN.out HF.out.cells (w6.heap.size + 1 + 1 + 1) _ 1 1 [.slice (some ⟨w6.heap.size, 0, none⟩) 1 1] rfl rfl HF.out.bare (fun u hu => by simp at hu; rw [hu]; rfl) (by simp) (by have := HUN.out; simp only [List.length_singleton]; omega) (by simp) ?_)
          intro b7 c7 w7 ho7 hb7
          have hb7' : Below (bareW w6).heap.size (bareW w6) w7 := by rw [HF.out.size]; exact hb7
          have HB7 := hide hb7
          have HO7 := hide (HF.out.own.below hb7')
          have HCB7 := hide ho7.cells
          have HNC := hide ho7.nilcap
          have hs7 : w6.heap.size + 1 ≤ w7.heap.size := by have := hb7'.size; rw [HF.out.size] at this; omega
          have HUC : Hid (∀ u ∈ us ++ [.slice (some ⟨w6.heap.size, 0, none⟩) 1 1], u.oneCell' = true) := fun u hu => (HF.out.after hb7 (Below.refl _ _)).2.cell u (by rw [List.singleton_append]; exact List.mem_cons_of_mem _ hu)
          clear hb7 hb7' ho7
          go_wp2_with (at_builtin; refine wpList_append_trees rfl _ _ rfl (w6.heap.size + 1) _ [.slice (some ⟨w6.heap.size, 0, none⟩) 1 1] rfl HO7.out _ _ _ (us ++ [.slice (some ⟨w6.heap.size, 0, none⟩) 1 1]) rfl (by simp) HNC.out HCB7.out HUC.out (by have := HUN.out; simp only [List.length_singleton, List.length_append]; omega) hs7 ?_)
          intro b8 c8 w8 ho8 hb8
          obtain ⟨hbw, hho⟩ := HF.out.after HB7.out hb8
          have HT8 := hide (ho8.trs hho)
          have ok8 := ok6.next hbw
          have HO8 := hide (HO6.out.below hbw)
          have HOA8 := hide (HOA6.out.below hbw)
          clear hbw hho hb8 ho8 HB7 HO7 HCB7 HNC HUC HF HO6 HOA6 HV6
          go_wp2_with fail
          refine (of_ok _ _ ([ndRoot] :: (ts ++ [[ndRoot]])) w2 w8 ok8 HT8.out (bare_size HS.out) (bare_len HS.out) (bare_flat HS.out)).mono ?_
          rintro e w9 ⟨v9, cs, h9, rfl, ho9, hu9, ok9, hb9⟩
          obtain ⟨rfl, hcs⟩ := HBC.out cs h9 (by rw [List.take_append_drop]; exact hu9)
          rw [hcs] at ho9
          obtain ⟨a9, c9, e9⟩ := ho9.form
          rw [← HLA.out] at e9
          subst e9
          have HN9 := hide ho9.nods
          have HO9 := hide (HO8.out.below hb9)
          have HOA9 := hide (HOA8.out.below hb9)
          clear ho9 hu9 hcs hb9 HO8 HOA8 HT8 HBC
          go_wp2_with fail
          refine (sameN_any _ _ al al w9 HOA9.out HO9.out (by have := HAL.out; omega)).mono ?_
          rintro e w10 ⟨rfl, hb10⟩
          rw [show decide (al = al) = true from by simp]
          have ok10 := ok9.next hb10
          have HN10 := hide (HN9.out.below hb10)
          have HOA10 := hide (HOA9.out.below hb10)
          clear hb10 HN9 HO9 HOA9
          go_wp2_with fail
          refine (sameN_any _ _ al al w10 HOA10.out HN10.out (by have := HAL.out; omega)).mono ?_
          rintro e w11 ⟨rfl, hb11⟩
          rw [show decide (al = al) = true from by simp]
          have ok11 := ok10.next hb11
          clear hb11 HN10 HOA10
          go_wp2_with fail
          refine (awake4_ok w2 w11 ok11).mono ?_
          rintro e w12 ⟨rfl, ok12, hb12⟩
          go_wp2
          go_ret
          exact ⟨rfl, ok12.2⟩
end Go.Proofs.YteablfekfijnhaaDoor
