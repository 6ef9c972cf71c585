/- The walks of slices.Equal at texts, of item's Same, of the document's own SameTexts and Same. -/
import Derived.Test.YtggojmimodpfaaaDoorX5
namespace Go.Proofs.YtggojmimodpfaaaDoor
open Go.RowKit

theorem eqT_less (a b : Option Addr) (n m c d : Nat) (w : World) (h : n ≠ m) :
    Calls Tryd.prog 36 #[.slice a n c, .slice b m d] w fun e w' => e = .returned (.bool false) ∧ w' = w := by
  have h1 : ((n : Int) != (m : Int)) = true := by rw [bne_iff_ne]; omega
  go_enter Tryd.func36, Tryd.ntmps36
  go_wp2
  go_ret
  exact ⟨rfl, rfl⟩
theorem eqT_none (a b : Option Addr) (c d : Nat) (w : World) :
    Calls Tryd.prog 36 #[.slice a 0 c, .slice b 0 d] w fun e w' => e = .returned (.bool true) ∧ w' = w := by
  go_enter Tryd.func36, Tryd.ntmps36
  go_wp2
  go_loop [5, 13] (fun _ i => i = .int .i64 0) (fun _ _ => 0)
  case atStart => rfl
  case round =>
    subst hrel
    go_wp2
    go_ret
    exact ⟨rfl, rfl⟩
set_option maxHeartbeats 800000 in
theorem eqT_some (b o c b' o' c' n : Nat) (xs ys : List ByteArray) (w : World) (hn : n < 1000000) (hnx : n = xs.length) (hny : n = ys.length)
    (hb : b < w.heap.size) (hb' : b' < w.heap.size)
    (hx : ∀ (j : Nat) x, xs[j]? = some x → w.cell? ⟨b, o + j, none⟩ = some (.string x)) (hy : ∀ (j : Nat) x, ys[j]? = some x → w.cell? ⟨b', o' + j, none⟩ = some (.string x)) :
    Calls Tryd.prog 36 #[.slice (some ⟨b, o, none⟩) n c, .slice (some ⟨b', o', none⟩) n c'] w fun e w' => e = .returned (.bool (decide (xs = ys))) ∧ Below w.heap.size w w' := by
  have HX := hx
  have HCX : Hid (∀ (j : Nat) x, xs[j]? = some x → w.cell? ⟨b, o + j, none⟩ = some (.string x)) := hx
  have HCY : Hid (∀ (j : Nat) x, ys[j]? = some x → w.cell? ⟨b', o' + j, none⟩ = some (.string x)) := hy
  have HNX : Hid (n = xs.length) := hnx
  have HNY : Hid (n = ys.length) := hny
  clear hx hy hnx hny HX
  have hne : ((n : Int) != (n : Int)) = false := by simp
  go_enter Tryd.func36, Tryd.ntmps36
  go_wp2
  go_loopw [5, 13] (fun _ i wr => ∃ k : Nat, k ≤ n ∧ i = .int .i64 k ∧ Hid (xs.take k = ys.take k) ∧ Below w.heap.size w wr) (fun _ i _ => n - (intOf i).toNat)
  case atStart => exact ⟨0, Nat.zero_le _, rfl, rfl, Below.refl _ _⟩
  case round =>
    obtain ⟨k, hk, rfl, hsame, hbl⟩ := hrel
    by_cases hlt : k < n
    · obtain ⟨x, hx⟩ : ∃ x, xs[k]? = some x := ⟨xs[k]'(by have := HNX.out; omega), List.getElem?_eq_some_iff.2 ⟨_, rfl⟩⟩
      obtain ⟨y, hy⟩ : ∃ y, ys[k]? = some y := ⟨ys[k]'(by have := HNY.out; omega), List.getElem?_eq_some_iff.2 ⟨_, rfl⟩⟩
      have hcx : wr.cell? ⟨b, o + k, none⟩ = some (.string x) := (hbl.cell (p := ⟨b, o + k, none⟩) hb).trans (HCX.out k x hx)
      have hcy : wr.cell? ⟨b', o' + k, none⟩ = some (.string y) := (hbl.cell (p := ⟨b', o' + k, none⟩) hb').trans (HCY.out k y hy)
      have hki : (k : Int) < (n : Int) := by omega
      have HXK : Hid (xs[k]? = some x) := hx
      have HYK : Hid (ys[k]? = some y) := hy
      clear hx hy
      go_wp2
      go_quiet (fail)
      go_wp2
      · have hne : (!x.toList == y.toList) = true := by assumption
        go_ret
        refine ⟨ret_bool ?_, below_drewN hbl nq⟩
        symm
        rw [decide_eq_false_iff_not]
        intro e
        have h3 : x = y := Option.some.inj (HXK.out.symm.trans ((congrArg (fun l => l[k]?) e).trans HYK.out))
        rw [h3] at hne
        simp at hne
      · have heq : (!x.toList == y.toList) = false := by assumption
        have he : x = y := by
          have h3 : x.toList = y.toList := by simpa using heq
          rw [Lib.toList_data, Lib.toList_data] at h3
          rw [← Hog.data_mk x, ← Hog.data_mk y, h3]
        go_roundw
        case rel => exact ⟨k + 1, by omega, by go_num, take_same hsame.out HXK.out HYK.out he, below_drewN hbl nq⟩
        case measure => simp [intOf]; omega
    · go_wp2
      go_ret
      refine ⟨ret_bool ?_, hbl⟩
      have e : k = n := by omega
      have h1 := hsame.out
      rw [e] at h1
      have h2 : xs = ys := by
        rw [HNX.out] at h1
        have h3 := HNX.out.symm.trans HNY.out
        rw [List.take_length] at h1
        rw [h1, h3, List.take_length]
      rw [h2]; simp
theorem eqT_any (v u : Value) (xs ys : List ByteArray) (w : World) (hv : Txt w v xs) (hu : Txt w u ys) (hx : xs.length < 1000000) :
    Calls Tryd.prog 36 #[v, u] w fun e w' => e = .returned (.bool (decide (xs = ys))) ∧ Below w.heap.size w w' := by
  by_cases hl : xs.length = ys.length
  · rcases hv with ⟨rfl, a, c, rfl⟩ | ⟨b, o, c, rfl, hc, hb, hcell⟩
    · have hy : ys = [] := List.eq_nil_of_length_eq_zero hl.symm
      subst hy
      rcases hu with ⟨_, a', c', rfl⟩ | ⟨b', o', c', rfl, _, _, _⟩
      · refine (eqT_none a a' c c' w).mono ?_
        rintro e w' ⟨rfl, rfl⟩
        exact ⟨rfl, Below.refl _ _⟩
      · refine (eqT_none a (some ⟨b', o', none⟩) c c' w).mono ?_
        rintro e w' ⟨rfl, rfl⟩
        exact ⟨rfl, Below.refl _ _⟩
    · rcases hu with ⟨rfl, a', c', rfl⟩ | ⟨b', o', c', rfl, _, hb', hcell'⟩
      · have hx0 : xs = [] := List.eq_nil_of_length_eq_zero hl
        subst hx0
        refine (eqT_none (some ⟨b, o, none⟩) a' c c' w).mono ?_
        rintro e w' ⟨rfl, rfl⟩
        exact ⟨rfl, Below.refl _ _⟩
      · rw [← hl]
        exact eqT_some b o c b' o' c' xs.length xs ys w hx rfl hl hb hb' hcell hcell'
  · have he : decide (xs = ys) = false := by rw [decide_eq_false_iff_not]; intro e; exact hl (congrArg List.length e)
    rw [he]
    have hv' : ∃ a c, v = .slice a xs.length c := by
      rcases hv with ⟨rfl, a, c, rfl⟩ | ⟨b, o, c, rfl, _⟩
      · exact ⟨a, c, rfl⟩
      · exact ⟨_, c, rfl⟩
    have hu' : ∃ a c, u = .slice a ys.length c := by
      rcases hu with ⟨rfl, a, c, rfl⟩ | ⟨b, o, c, rfl, _⟩
      · exact ⟨a, c, rfl⟩
      · exact ⟨_, c, rfl⟩
    obtain ⟨a, c, rfl⟩ := hv'
    obtain ⟨a', c', rfl⟩ := hu'
    refine (eqT_less a a' xs.length ys.length c c' w hl).mono ?_
    rintro e w' ⟨rfl, rfl⟩
    exact ⟨rfl, Below.refl _ _⟩
theorem rsT_less (a b : Option Addr) (n m c d : Nat) (w : World) (h : n ≠ m) :
    Calls Tryd.prog 38 #[.slice a n c, .slice b m d] w fun e w' => e = .returned (.bool false) ∧ w' = w := by
  have h1 : ((n : Int) != (m : Int)) = true := by rw [bne_iff_ne]; omega
  go_enter Tryd.func38, Tryd.ntmps38
  go_wp2
  go_ret
  exact ⟨rfl, rfl⟩
theorem rsT_none (a b : Option Addr) (c d : Nat) (w : World) :
    Calls Tryd.prog 38 #[.slice a 0 c, .slice b 0 d] w fun e w' => e = .returned (.bool true) ∧ w' = w := by
  go_enter Tryd.func38, Tryd.ntmps38
  go_wp2
  go_loop [5] (fun i => i = .int .i64 0) (fun _ => 0)
  case atStart => rfl
  case round =>
    subst hrel
    go_wp2
    go_ret
    exact ⟨rfl, rfl⟩
set_option maxHeartbeats 800000 in
theorem rsT_some (b o c b' o' c' n : Nat) (xs ys : List ByteArray) (w : World) (hn : n < 1000000) (hnx : n = xs.length) (hny : n = ys.length)
    (hb : b < w.heap.size) (hb' : b' < w.heap.size)
    (hx : ∀ (j : Nat) x, xs[j]? = some x → w.cell? ⟨b, o + j, none⟩ = some (.string x)) (hy : ∀ (j : Nat) x, ys[j]? = some x → w.cell? ⟨b', o' + j, none⟩ = some (.string x)) :
    Calls Tryd.prog 38 #[.slice (some ⟨b, o, none⟩) n c, .slice (some ⟨b', o', none⟩) n c'] w fun e w' => e = .returned (.bool (decide (xs = ys))) ∧ Below w.heap.size w w' := by
  have HX := hx
  have HCX : Hid (∀ (j : Nat) x, xs[j]? = some x → w.cell? ⟨b, o + j, none⟩ = some (.string x)) := hx
  have HCY : Hid (∀ (j : Nat) x, ys[j]? = some x → w.cell? ⟨b', o' + j, none⟩ = some (.string x)) := hy
  have HNX : Hid (n = xs.length) := hnx
  have HNY : Hid (n = ys.length) := hny
  clear hx hy hnx hny HX
  have hne : ((n : Int) != (n : Int)) = false := by simp
  go_enter Tryd.func38, Tryd.ntmps38
  go_wp2
  go_loopw [5] (fun i wr => ∃ k : Nat, k ≤ n ∧ i = .int .i64 k ∧ Hid (xs.take k = ys.take k) ∧ Below w.heap.size w wr) (fun i _ => n - (intOf i).toNat)
  case atStart => exact ⟨0, Nat.zero_le _, rfl, rfl, Below.refl _ _⟩
  case round =>
    obtain ⟨k, hk, rfl, hsame, hbl⟩ := hrel
    by_cases hlt : k < n
    · obtain ⟨x, hx⟩ : ∃ x, xs[k]? = some x := ⟨xs[k]'(by have := HNX.out; omega), List.getElem?_eq_some_iff.2 ⟨_, rfl⟩⟩
      obtain ⟨y, hy⟩ : ∃ y, ys[k]? = some y := ⟨ys[k]'(by have := HNY.out; omega), List.getElem?_eq_some_iff.2 ⟨_, rfl⟩⟩
      have hcx : wr.cell? ⟨b, o + k, none⟩ = some (.string x) := (hbl.cell (p := ⟨b, o + k, none⟩) hb).trans (HCX.out k x hx)
      have hcy : wr.cell? ⟨b', o' + k, none⟩ = some (.string y) := (hbl.cell (p := ⟨b', o' + k, none⟩) hb').trans (HCY.out k y hy)
      have hki : (k : Int) < (n : Int) := by omega
      have HXK : Hid (xs[k]? = some x) := hx
      have HYK : Hid (ys[k]? = some y) := hy
      clear hx hy
      go_wp2
      go_quiet (fail)
      go_wp2
      · have hne : (!x.toList == y.toList) = true := by assumption
        go_ret
        refine ⟨ret_bool ?_, below_drewN hbl nq⟩
        symm
        rw [decide_eq_false_iff_not]
        intro e
        have h3 : x = y := Option.some.inj (HXK.out.symm.trans ((congrArg (fun l => l[k]?) e).trans HYK.out))
        rw [h3] at hne
        simp at hne
      · have heq : (!x.toList == y.toList) = false := by assumption
        have he : x = y := by
          have h3 : x.toList = y.toList := by simpa using heq
          rw [Lib.toList_data, Lib.toList_data] at h3
          rw [← Hog.data_mk x, ← Hog.data_mk y, h3]
        go_roundw
        case rel => exact ⟨k + 1, by omega, by go_num, take_same hsame.out HXK.out HYK.out he, below_drewN hbl nq⟩
        case measure => simp [intOf]; omega
    · go_wp2
      go_ret
      refine ⟨ret_bool ?_, hbl⟩
      have e : k = n := by omega
      have h1 := hsame.out
      rw [e] at h1
      have h2 : xs = ys := by
        rw [HNX.out] at h1
        have h3 := HNX.out.symm.trans HNY.out
        rw [List.take_length] at h1
        rw [h1, h3, List.take_length]
      rw [h2]; simp
theorem rsT_any (v u : Value) (xs ys : List ByteArray) (w : World) (hv : Txt w v xs) (hu : Txt w u ys) (hx : xs.length < 1000000) :
    Calls Tryd.prog 38 #[v, u] w fun e w' => e = .returned (.bool (decide (xs = ys))) ∧ Below w.heap.size w w' := by
  by_cases hl : xs.length = ys.length
  · rcases hv with ⟨rfl, a, c, rfl⟩ | ⟨b, o, c, rfl, hc, hb, hcell⟩
    · have hy : ys = [] := List.eq_nil_of_length_eq_zero hl.symm
      subst hy
      rcases hu with ⟨_, a', c', rfl⟩ | ⟨b', o', c', rfl, _, _, _⟩
      · refine (rsT_none a a' c c' w).mono ?_
        rintro e w' ⟨rfl, rfl⟩
        exact ⟨rfl, Below.refl _ _⟩
      · refine (rsT_none a (some ⟨b', o', none⟩) c c' w).mono ?_
        rintro e w' ⟨rfl, rfl⟩
        exact ⟨rfl, Below.refl _ _⟩
    · rcases hu with ⟨rfl, a', c', rfl⟩ | ⟨b', o', c', rfl, _, hb', hcell'⟩
      · have hx0 : xs = [] := List.eq_nil_of_length_eq_zero hl
        subst hx0
        refine (rsT_none (some ⟨b, o, none⟩) a' c c' w).mono ?_
        rintro e w' ⟨rfl, rfl⟩
        exact ⟨rfl, Below.refl _ _⟩
      · rw [← hl]
        exact rsT_some b o c b' o' c' xs.length xs ys w hx rfl hl hb hb' hcell hcell'
  · have he : decide (xs = ys) = false := by rw [decide_eq_false_iff_not]; intro e; exact hl (congrArg List.length e)
    rw [he]
    have hv' : ∃ a c, v = .slice a xs.length c := by
      rcases hv with ⟨rfl, a, c, rfl⟩ | ⟨b, o, c, rfl, _⟩
      · exact ⟨a, c, rfl⟩
      · exact ⟨_, c, rfl⟩
    have hu' : ∃ a c, u = .slice a ys.length c := by
      rcases hu with ⟨rfl, a, c, rfl⟩ | ⟨b, o, c, rfl, _⟩
      · exact ⟨a, c, rfl⟩
      · exact ⟨_, c, rfl⟩
    obtain ⟨a, c, rfl⟩ := hv'
    obtain ⟨a', c', rfl⟩ := hu'
    refine (rsT_less a a' xs.length ys.length c c' w hl).mono ?_
    rintro e w' ⟨rfl, rfl⟩
    exact ⟨rfl, Below.refl _ _⟩
set_option maxRecDepth 100000 in
set_option maxHeartbeats 1000000 in
theorem sameI_ok (a b : It) (ra : Option Addr) (rn rc : Nat) (ta : Option Addr) (tn tc : Nat) (ra' : Option Addr) (rn' rc' : Nat) (ta' : Option Addr) (tn' tc' : Nat) (r : Bool) (w : World) (hr : Txt w (.slice ra rn rc) a.2.1) (ht : Nods w (.slice ta tn tc) a.2.2)
    (hr' : Txt w (.slice ra' rn' rc') b.2.1) (ht' : Nods w (.slice ta' tn' tc') b.2.2) (h1 : a.2.1.length < 1000000) (h2 : a.2.2.length < 1000000) (hv : decide (a = b) = r) :
    Calls Tryd.prog 19 #[.agg #[.string a.1, .slice ra rn rc, .slice ta tn tc], .agg #[.string b.1, .slice ra' rn' rc', .slice ta' tn' tc']] w fun e w' => e = .returned (.bool r) ∧ Below w.heap.size w w' := by
  have HV := hide hv
  have HB0 := hide (below_two (below_box w (icells a.1 ra rn rc ta tn tc)) (below_box _ (icells b.1 ra' rn' rc' ta' tn' tc')))
  obtain ⟨W, hW⟩ : ∃ W, W = (w.alloc (icells a.1 ra rn rc ta tn tc)).alloc (icells b.1 ra' rn' rc' ta' tn' tc') := ⟨_, rfl⟩
  have HT := hide hr
  have HN := hide ht
  have HT' := hide hr'
  have HN' := hide ht'
  have c0 : W.cell? ⟨w.heap.size, 0, none⟩ = some (.string a.1) := by rw [hW]; simp [icells]
  have c1 : W.cell? ⟨w.heap.size, 1, none⟩ = some (.slice ra rn rc) := by rw [hW]; simp [icells]
  have c2 : W.cell? ⟨w.heap.size, 2, none⟩ = some (.slice ta tn tc) := by rw [hW]; simp [icells]
  have d0 : W.cell? ⟨w.heap.size + 1, 0, none⟩ = some (.string b.1) := by rw [hW]; simp [icells]
  have d1 : W.cell? ⟨w.heap.size + 1, 1, none⟩ = some (.slice ra' rn' rc') := by rw [hW]; simp [icells]
  have d2 : W.cell? ⟨w.heap.size + 1, 2, none⟩ = some (.slice ta' tn' tc') := by rw [hW]; simp [icells]
  have hsz : w.heap.size + 1 < W.heap.size := by rw [hW]; simp
  have hsz0 : w.heap.size < W.heap.size := by omega
  rw [← hW] at HB0
  have HW : Hid ((w.alloc (.cells #[.string a.1, .slice ra rn rc, .slice ta tn tc] 25)).alloc (.cells #[.string b.1, .slice ra' rn' rc', .slice ta' tn' tc'] 25) = W) := hW.symm
  have HC : Hid (∀ W', Below W.heap.size W W' → W'.cell? ⟨w.heap.size, 2, none⟩ = some (.slice ta tn tc) ∧ W'.cell? ⟨w.heap.size + 1, 2, none⟩ = some (.slice ta' tn' tc')) := fun W' hb => ⟨(hb.cell (p := ⟨w.heap.size, 2, none⟩) hsz0).trans c2, (hb.cell (p := ⟨w.heap.size + 1, 2, none⟩) hsz).trans d2⟩
  clear hv hr ht hr' ht' hW c2 d2
  by_cases h3 : a.1 = b.1
  · have t3 : (a.1.toList == b.1.toList) = true := by rw [h3]; simp
    have H3 := hide h3
    clear h3
    by_cases h4 : a.2.1 = b.2.1
    · have H4 := hide h4
      clear h4
      go_enter Tryd.func19, Tryd.ntmps19
      go_wp2_with fail
      rw [HW.out]
      refine (eqT_any _ _ a.2.1 b.2.1 W (HT.out.below HB0.out) (HT'.out.below HB0.out) h1).mono ?_
      rintro e w1 ⟨rfl, hb1⟩
      rw [decide_eq_true H4.out]
      obtain ⟨c2, d2⟩ := HC.out w1 hb1
      have HB1 := hide (below_two HB0.out hb1)
      clear hb1 c0 c1 d0 d1
      go_wp2_with fail
      refine (tsame_any _ _ a.2.2 b.2.2 w1 (HN.out.below HB1.out) (HN'.out.below HB1.out) h2).mono ?_
      rintro e w2 ⟨rfl, hb2⟩
      have HB2 := hide (below_two HB1.out hb2)
      clear hb2 c2 d2
      go_wp2
      go_ret
      refine ⟨ret_bool ?_, HB2.out⟩
      rw [← HV.out, Bool.eq_iff_iff, decide_eq_true_eq, decide_eq_true_eq]
      obtain ⟨x1, x2, x3⟩ := a
      obtain ⟨y1, y2, y3⟩ := b
      have e3 := H3.out
      have e4 := H4.out
      simp at e3 e4
      simp [e3, e4]
    · have H4 := hide h4
      clear h4
      go_enter Tryd.func19, Tryd.ntmps19
      go_wp2_with fail
      rw [HW.out]
      refine (eqT_any _ _ a.2.1 b.2.1 W (HT.out.below HB0.out) (HT'.out.below HB0.out) h1).mono ?_
      rintro e w1 ⟨rfl, hb1⟩
      rw [decide_eq_false H4.out]
      have HB1 := hide (below_two HB0.out hb1)
      clear hb1 c0 c1 d0 d1
      go_wp2
      go_ret
      refine ⟨ret_bool ?_, HB1.out⟩
      rw [← HV.out, decide_eq_false fun e => H4.out (by rw [e])]
  · have t3 : (a.1.toList == b.1.toList) = false := by rw [beq_eq_false_iff_ne]; exact fun e => h3 (bytes_eq.2 e)
    have H3 := hide h3
    clear h3
    go_enter Tryd.func19, Tryd.ntmps19
    go_wp2
    rw [HW.out]
    go_ret
    refine ⟨ret_bool ?_, HB0.out⟩
    rw [← HV.out, decide_eq_false fun e => H3.out (by rw [e])]
set_option maxRecDepth 100000 in
set_option maxHeartbeats 1000000 in
theorem rsameI_ok (a b : It) (ra : Option Addr) (rn rc : Nat) (ta : Option Addr) (tn tc : Nat) (ra' : Option Addr) (rn' rc' : Nat) (ta' : Option Addr) (tn' tc' : Nat) (r : Bool) (w : World) (hr : Txt w (.slice ra rn rc) a.2.1) (ht : Nods w (.slice ta tn tc) a.2.2)
    (hr' : Txt w (.slice ra' rn' rc') b.2.1) (ht' : Nods w (.slice ta' tn' tc') b.2.2) (h1 : a.2.1.length < 1000000) (h2 : a.2.2.length < 1000000) (hv : decide (a = b) = r) :
    Calls Tryd.prog 20 #[.agg #[.string a.1, .slice ra rn rc, .slice ta tn tc], .agg #[.string b.1, .slice ra' rn' rc', .slice ta' tn' tc']] w fun e w' => e = .returned (.bool r) ∧ Below w.heap.size w w' := by
  have HV := hide hv
  have HB0 := hide (below_two (below_box w (icells a.1 ra rn rc ta tn tc)) (below_box _ (icells b.1 ra' rn' rc' ta' tn' tc')))
  obtain ⟨W, hW⟩ : ∃ W, W = (w.alloc (icells a.1 ra rn rc ta tn tc)).alloc (icells b.1 ra' rn' rc' ta' tn' tc') := ⟨_, rfl⟩
  have HT := hide hr
  have HN := hide ht
  have HT' := hide hr'
  have HN' := hide ht'
  have c0 : W.cell? ⟨w.heap.size, 0, none⟩ = some (.string a.1) := by rw [hW]; simp [icells]
  have c1 : W.cell? ⟨w.heap.size, 1, none⟩ = some (.slice ra rn rc) := by rw [hW]; simp [icells]
  have c2 : W.cell? ⟨w.heap.size, 2, none⟩ = some (.slice ta tn tc) := by rw [hW]; simp [icells]
  have d0 : W.cell? ⟨w.heap.size + 1, 0, none⟩ = some (.string b.1) := by rw [hW]; simp [icells]
  have d1 : W.cell? ⟨w.heap.size + 1, 1, none⟩ = some (.slice ra' rn' rc') := by rw [hW]; simp [icells]
  have d2 : W.cell? ⟨w.heap.size + 1, 2, none⟩ = some (.slice ta' tn' tc') := by rw [hW]; simp [icells]
  have hsz : w.heap.size + 1 < W.heap.size := by rw [hW]; simp
  have hsz0 : w.heap.size < W.heap.size := by omega
  rw [← hW] at HB0
  have HW : Hid ((w.alloc (.cells #[.string a.1, .slice ra rn rc, .slice ta tn tc] 25)).alloc (.cells #[.string b.1, .slice ra' rn' rc', .slice ta' tn' tc'] 25) = W) := hW.symm
  have HC : Hid (∀ W', Below W.heap.size W W' → W'.cell? ⟨w.heap.size, 2, none⟩ = some (.slice ta tn tc) ∧ W'.cell? ⟨w.heap.size + 1, 2, none⟩ = some (.slice ta' tn' tc')) := fun W' hb => ⟨(hb.cell (p := ⟨w.heap.size, 2, none⟩) hsz0).trans c2, (hb.cell (p := ⟨w.heap.size + 1, 2, none⟩) hsz).trans d2⟩
  clear hv hr ht hr' ht' hW c2 d2
  by_cases h3 : a.1 = b.1
  · have t3 : (a.1.toList == b.1.toList) = true := by rw [h3]; simp
    have H3 := hide h3
    clear h3
    by_cases h4 : a.2.1 = b.2.1
    · have H4 := hide h4
      clear h4
      go_enter Tryd.func20, Tryd.ntmps20
      go_wp2_with fail
      rw [HW.out]
      refine (rsT_any _ _ a.2.1 b.2.1 W (HT.out.below HB0.out) (HT'.out.below HB0.out) h1).mono ?_
      rintro e w1 ⟨rfl, hb1⟩
      rw [decide_eq_true H4.out]
      obtain ⟨c2, d2⟩ := HC.out w1 hb1
      have HB1 := hide (below_two HB0.out hb1)
      clear hb1 c0 c1 d0 d1
      go_wp2_with fail
      refine (rsame_any _ _ a.2.2 b.2.2 w1 (HN.out.below HB1.out) (HN'.out.below HB1.out) h2).mono ?_
      rintro e w2 ⟨rfl, hb2⟩
      have HB2 := hide (below_two HB1.out hb2)
      clear hb2 c2 d2
      go_wp2
      go_ret
      refine ⟨ret_bool ?_, HB2.out⟩
      rw [← HV.out, Bool.eq_iff_iff, decide_eq_true_eq, decide_eq_true_eq]
      obtain ⟨x1, x2, x3⟩ := a
      obtain ⟨y1, y2, y3⟩ := b
      have e3 := H3.out
      have e4 := H4.out
      simp at e3 e4
      simp [e3, e4]
    · have H4 := hide h4
      clear h4
      go_enter Tryd.func20, Tryd.ntmps20
      go_wp2_with fail
      rw [HW.out]
      refine (rsT_any _ _ a.2.1 b.2.1 W (HT.out.below HB0.out) (HT'.out.below HB0.out) h1).mono ?_
      rintro e w1 ⟨rfl, hb1⟩
      rw [decide_eq_false H4.out]
      have HB1 := hide (below_two HB0.out hb1)
      clear hb1 c0 c1 d0 d1
      go_wp2
      go_ret
      refine ⟨ret_bool ?_, HB1.out⟩
      rw [← HV.out, decide_eq_false fun e => H4.out (by rw [e])]
  · have t3 : (a.1.toList == b.1.toList) = false := by rw [beq_eq_false_iff_ne]; exact fun e => h3 (bytes_eq.2 e)
    have H3 := hide h3
    clear h3
    go_enter Tryd.func20, Tryd.ntmps20
    go_wp2
    rw [HW.out]
    go_ret
    refine ⟨ret_bool ?_, HB0.out⟩
    rw [← HV.out, decide_eq_false fun e => H3.out (by rw [e])]
end Go.Proofs.YtggojmimodpfaaaDoor
