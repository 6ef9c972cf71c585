/- The walks of the document's own answer, chapter 7: Names, Own, May. -/
import Derived.Test.YtggojmimodpfaaaDoorXD
import Derived.Test.YtggojmimodpfaaaDoorJ5
namespace Go.Proofs.YtggojmimodpfaaaDoor
open Go.RowKit

set_option maxHeartbeats 400000 in
theorem rnames_many (a : Option Addr) (n c : Nat) (w : World) (h : 8 < n) (hm : n ≤ maxLen) :
    Calls Tryd.prog 34 #[.slice a n c] w fun e w' => e = .returned (.bool false) ∧ w' = w := by
  unfold maxLen at hm
  have h' : (8 : Int) < (n : Int) := by omega
  go_enter Tryd.func34, Tryd.ntmps34
  go_wp2
  go_loop [3] (fun i => i = .int .i64 0) (fun _ => 0)
  case atStart => rfl
  case round =>
    subst hrel
    have h2 : (0 : Int) < (n : Int) := by omega
    go_wp2
    go_ret
    exact ⟨ret_bool (decide_eq_false (by omega)), rfl⟩
set_option maxHeartbeats 400000 in
theorem rnames_none (a : Option Addr) (c : Nat) (w : World) :
    Calls Tryd.prog 34 #[.slice a 0 c] w fun e w' => e = .returned (.bool true) ∧ w' = w := by
  go_enter Tryd.func34, Tryd.ntmps34
  go_wp2
  go_loop [3] (fun i => i = .int .i64 0) (fun _ => 0)
  case atStart => rfl
  case round =>
    subst hrel
    go_wp2
    go_ret
    exact ⟨rfl, rfl⟩
set_option maxRecDepth 100000 in
set_option maxHeartbeats 1000000 in
theorem rnames_some (b o c n : Nat) (xs : List ByteArray) (w : World) (hn : n = xs.length) (h8 : n ≤ 8) (hb : b < w.heap.size) (hx : ∀ (j : Nat) x, xs[j]? = some x → w.cell? ⟨b, o + j, none⟩ = some (.string x)) (hz : ∀ x ∈ xs, x.size ≤ 9223372036854775807) :
    Calls Tryd.prog 34 #[.slice (some ⟨b, o, none⟩) n c] w fun e w' => e = .returned (.bool (refsB xs)) ∧ Below w.heap.size w w' := by
  have HN := hide hn
  have HC := hide hx
  have HZ := hide hz
  have h8' : (n : Int) ≤ 8 := by omega
  clear hn hx hz
  go_enter Tryd.func34, Tryd.ntmps34
  go_wp2
  go_loopw [3] (fun i wr => ∃ k : Nat, k ≤ n ∧ i = .int .i64 k ∧ Hid ((List.range k).all (refAt xs) = true) ∧ Below w.heap.size w wr) (fun i _ => n - (intOf i).toNat)
  case atStart => exact ⟨0, Nat.zero_le _, rfl, rfl, Below.refl _ _⟩
  case round =>
    obtain ⟨k, hk, rfl, hall, hbl⟩ := hrel
    by_cases hlt : k < n
    · obtain ⟨x, hx⟩ : ∃ x, xs[k]? = some x := ⟨xs[k]'(by have := HN.out; omega), List.getElem?_eq_some_iff.2 ⟨_, rfl⟩⟩
      have hc : wr.cell? ⟨b, o + k, none⟩ = some (.string x) := (hbl.cell (p := ⟨b, o + k, none⟩) hb).trans (HC.out k x hx)
      have hbr : b < wr.heap.size := Nat.lt_of_lt_of_le hb hbl.size
      have f0 : ∀ p : Later wr, p.w1.cell? ⟨b, o + k, none⟩ = some (.string x) := fun p => p.cell hbr hc
      have hxz := HZ.out x (List.mem_of_getElem? hx)
      have hki : (k : Int) < (n : Int) := by omega
      have HX := hide hx
      have hne := later_one wr
      obtain ⟨z, hz⟩ : ∃ z, Hog.nameL x.data.toList = z := ⟨_, rfl⟩
      have HNM := hide hz
      have HC1 : Hid (∀ p : Later wr, Calls Tryd.prog 14 #[.string x] p.w1 fun e w' => e = .returned (.bool z) ∧ Below p.w1.heap.size p.w1 w') := fun p =>
        (rname_ok x z p.w1 hxz hz).mono fun e w' ⟨q1, q2⟩ => ⟨q1, by rw [q2]; exact Below.refl _ _⟩
      clear hx hc hz
      cases z with
      | false =>
        cases k with
        | zero =>
          simp only [Nat.add_zero] at f0
          go_wp2
          refine wp_region_later (by kernel_rfl) (by kernel_rfl) ?_
          repeat (first
            | go_big_quiet_step ((go_at_call 14; exact Calls.later_of (HC1.out _)))
            | quiet_step ((go_at_call 14; exact Calls.later_of (HC1.out _))))
          refine wpQuiet_nil ?_
          intro W5 hw'
          have hbq := later_below hw'
          clear hw' f0 HC1
          go_wp2
          go_ret
          exact ⟨ret_bool (refs_fall (by rw [← HN.out]; exact hlt) (refAt_not HX.out HNM.out)).symm, below_two hbl hbq⟩
        | succ j =>
          go_wp2
          refine wp_region_later (by kernel_rfl) (by kernel_rfl) ?_
          repeat (first
            | go_big_quiet_step ((go_at_call 14; exact Calls.later_of (HC1.out _)))
            | quiet_step ((go_at_call 14; exact Calls.later_of (HC1.out _))))
          refine wpQuiet_nil ?_
          intro W5 hw'
          have hbq := later_below hw'
          clear hw' f0 HC1
          go_wp2
          go_ret
          exact ⟨ret_bool (refs_fall (by rw [← HN.out]; exact hlt) (refAt_not HX.out HNM.out)).symm, below_two hbl hbq⟩
      | true =>
        cases k with
        | zero =>
          simp only [Nat.add_zero] at f0
          go_wp2
          refine wp_region_later (by kernel_rfl) (by kernel_rfl) ?_
          repeat (first
            | go_big_quiet_step ((go_at_call 14; exact Calls.later_of (HC1.out _)))
            | quiet_step ((go_at_call 14; exact Calls.later_of (HC1.out _))))
          refine wpQuiet_nil ?_
          intro W5 hw'
          have hbq := later_below hw'
          clear hw' f0 HC1
          go_wp2
          go_roundw
          case rel => exact ⟨1, by omega, by go_num, refs_step hall.out (refAt_zero HX.out HNM.out), below_two hbl hbq⟩
          case measure => simp [intOf]; omega
        | succ j =>
          obtain ⟨y, hy⟩ : ∃ y, xs[j]? = some y := ⟨xs[j]'(by have := HN.out; omega), List.getElem?_eq_some_iff.2 ⟨_, rfl⟩⟩
          have HY := hide hy
          have hcy : wr.cell? ⟨b, o + j, none⟩ = some (.string y) := (hbl.cell (p := ⟨b, o + j, none⟩) hb).trans (HC.out j y hy)
          have f1 : ∀ p : Later wr, p.w1.cell? ⟨b, o + j, none⟩ = some (.string y) := fun p => p.cell hbr hcy
          have hj0 : (0 : Int) < (j : Int) + 1 := by omega
          obtain ⟨l, hl⟩ : ∃ l, Op.bytesLess y.toList x.toList = l := ⟨_, rfl⟩
          have HLS : Hid (Op.bytesLess y.data.toList x.data.toList = l) := by rw [Lib.toList_data, Lib.toList_data] at hl; exact hl
          clear hy hcy
          cases l with
          | true =>
            go_wp2
            refine wp_region_later (by kernel_rfl) (by kernel_rfl) ?_
            repeat (first
              | go_big_quiet_step ((go_at_call 14; exact Calls.later_of (HC1.out _)))
              | quiet_step ((go_at_call 14; exact Calls.later_of (HC1.out _))))
            refine wpQuiet_nil ?_
            intro W5 hw'
            have hbq := later_below hw'
            clear hw' f0 f1 HC1
            go_wp2
            go_roundw
            case rel => exact ⟨j + 2, by omega, by go_num, refs_step hall.out ((refAt_next HX.out HY.out HNM.out).trans HLS.out), below_two hbl hbq⟩
            case measure => simp [intOf]; omega
          | false =>
            go_wp2
            refine wp_region_later (by kernel_rfl) (by kernel_rfl) ?_
            repeat (first
              | go_big_quiet_step ((go_at_call 14; exact Calls.later_of (HC1.out _)))
              | quiet_step ((go_at_call 14; exact Calls.later_of (HC1.out _))))
            refine wpQuiet_nil ?_
            intro W5 hw'
            have hbq := later_below hw'
            clear hw' f0 f1 HC1
            go_wp2
            go_ret
            exact ⟨ret_bool (refs_fall (by rw [← HN.out]; exact hlt) ((refAt_next HX.out HY.out HNM.out).trans HLS.out)).symm, below_two hbl hbq⟩
    · go_wp2
      go_ret
      refine ⟨ret_bool ?_, hbl⟩
      have e : k = xs.length := by have := HN.out; omega
      have h1 := hall.out
      rw [e] at h1
      rw [refs_full (by rw [← HN.out]; exact h8) h1]
theorem rnames_ok (v : Value) (xs : List ByteArray) (r : Bool) (w : World) (h : Txt w v xs) (hm : xs.length ≤ maxLen) (hz : ∀ x ∈ xs, x.size ≤ 9223372036854775807) (hv : refsB xs = r) :
    Calls Tryd.prog 34 #[v] w fun e w' => e = .returned (.bool r) ∧ Below w.heap.size w w' := by
  subst hv
  by_cases h8 : 8 < xs.length
  · obtain ⟨a, c, rfl⟩ := h.form
    rw [refs_many h8]
    refine (rnames_many a xs.length c w h8 hm).mono ?_
    rintro e w' ⟨rfl, rfl⟩
    exact ⟨rfl, Below.refl _ _⟩
  · rcases h with ⟨rfl, a, c, rfl⟩ | ⟨b, o, c, rfl, _, hb, hcell⟩
    · refine (rnames_none a c w).mono ?_
      rintro e w' ⟨rfl, rfl⟩
      exact ⟨rfl, Below.refl _ _⟩
    · exact rnames_some b o c xs.length xs w rfl (by omega) hb hcell hz

set_option maxHeartbeats 400000 in
theorem rown_many (a : Option Addr) (n c : Nat) (w : World) (h : 24 < n) (hm : n ≤ maxLen) :
    Calls Tryd.prog 35 #[.slice a n c] w fun e w' => e = .returned (.bool false) ∧ w' = w := by
  unfold maxLen at hm
  have h' : (24 : Int) < (n : Int) := by omega
  go_enter Tryd.func35, Tryd.ntmps35
  go_wp2
  go_ret
  exact ⟨rfl, rfl⟩
set_option maxHeartbeats 400000 in
theorem rown_not (a : Option Addr) (n c : Nat) (ns : List Nd) (w0 w : World) (hn : n = ns.length) (hok : Ok w0 w) (h : n ≤ 24) (hv : Nods w (.slice a n c) ns) (hp : ∀ x ∈ ns, x.1.size < 900000 ∧ x.2.2.size < 900000) (hm : mayN ns = false) :
    Calls Tryd.prog 35 #[.slice a n c] w fun e w' => e = .returned (.bool false) ∧ Ok w0 w' ∧ Below w.heap.size w w' := by
  have h' : (n : Int) ≤ 24 := by omega
  have HV := hide hv
  have HN := hide hn
  have HP := hide hp
  have HM := hide hm
  clear hv hn hp hm
  go_enter Tryd.func35, Tryd.ntmps35
  go_wp2_with fail
  refine (rmayT_ok _ ns false w0 w hok HP.out HV.out (by have := HN.out; omega) HM.out).mono ?_
  rintro e w1 ⟨rfl, ok1, hb1⟩
  go_wp2
  go_ret
  exact ⟨rfl, ok1, hb1⟩
set_option maxRecDepth 100000 in
set_option maxHeartbeats 1000000 in
theorem rown_some (b o c n : Nat) (ns : List Nd) (w0 w : World) (hok : Ok w0 w) (hn : n = ns.length) (h24 : n ≤ 24) (hcap : n ≤ c) (hr : Run w b o ns) (hp : ∀ x ∈ ns, x.1.size < 900000 ∧ x.2.2.size < 900000) (hm : mayN ns = true) :
    Calls Tryd.prog 35 #[.slice (some ⟨b, o, none⟩) n c] w fun e w' => e = .returned (.bool (ownB ns)) ∧ Ok w0 w' ∧ Below w.heap.size w w' := by
  have h' : (n : Int) ≤ 24 := by omega
  have HR := hide hr
  have HN := hide hn
  have HP := hide hp
  have HM := hide hm
  clear hr hn hp hm
  go_enter Tryd.func35, Tryd.ntmps35
  go_wp2_with fail
  refine (rmayT_ok _ ns true w0 w hok HP.out (.inr ⟨b, o, c, by rw [HN.out], by rw [← HN.out]; exact hcap, HR.out⟩) (by have := HN.out; omega) HM.out).mono ?_
  rintro e w1 ⟨rfl, ok1, hb1⟩
  have HB1 := hide hb1
  clear hb1
  go_wp2
  go_loopw [3] (fun i wr => ∃ k : Nat, k ≤ n ∧ i = .int .i64 k ∧ Hid ((ns.take k).all innerB = true) ∧ Hid (Ok w0 wr) ∧ Hid (Below w.heap.size w wr)) (fun i _ => n - (intOf i).toNat)
  case atStart => exact ⟨0, Nat.zero_le _, rfl, rfl, ok1, HB1⟩
  case round =>
    obtain ⟨k, hk, rfl, hall, OKR, HBR⟩ := hrel
    by_cases hlt : k < n
    · obtain ⟨x, hx⟩ : ∃ x, ns[k]? = some x := ⟨ns[k]'(by have := HN.out; omega), List.getElem?_eq_some_iff.2 ⟨_, rfl⟩⟩
      obtain ⟨g1, g2, g3⟩ := (HR.out.2 k x hx).below HBR.out HR.out.1
      have hxz := (HP.out x (List.mem_of_getElem? hx)).1
      have hki : (k : Int) < (n : Int) := by omega
      have HX := hide hx
      clear hx
      by_cases h120 : 120 < x.1.size
      · have hq : (120 : Int) < (x.1.size : Int) := by omega
        go_wp2
        go_ret
        exact ⟨ret_bool (own_fall HX.out (by unfold innerB; rw [decide_eq_false (by omega)]; rfl)).symm, OKR.out, HBR.out⟩
      · have hq : (x.1.size : Int) ≤ 120 := by omega
        obtain ⟨l, hl⟩ : ∃ l, Hog.splitL x.1.data.toList = l := ⟨_, rfl⟩
        have HL := hide hl
        clear hl
        by_cases hl8 : 8 < l.length
        · have hl8' : (8 : Int) < (l.length : Int) := by omega
          go_wp2_with fail
          refine (rsplit_ok x.1 l w0 _ OKR.out hxz HL.out).mono ?_
          rintro e w2 ⟨a2, c2, rfl, _, ok2, hb2⟩
          have HB2 := hide (below_two HBR.out hb2)
          clear hb2
          go_wp2
          go_ret
          exact ⟨ret_bool (own_fall HX.out (by unfold innerB; rw [HL.out, decide_eq_false (show ¬ l.length ≤ 8 by omega)]; simp)).symm, ok2, HB2.out⟩
        · have hl8' : (l.length : Int) ≤ 8 := by omega
          go_wp2_with fail
          refine (rsplit_ok x.1 l w0 _ OKR.out hxz HL.out).mono ?_
          rintro e w2 ⟨a2, c2, rfl, _, ok2, hb2⟩
          have HB2 := hide (below_two HBR.out hb2)
          clear hb2
          go_wp2
          go_roundw
          case rel => exact ⟨k + 1, by omega, by go_num, inner_step HX.out (by unfold innerB; rw [HL.out, decide_eq_true (show l.length ≤ 8 by omega), decide_eq_true (show x.1.size ≤ 120 by omega)]; rfl) hall.out, ok2, HB2⟩
          case measure => simp [intOf]; omega
    · go_wp2
      go_ret
      refine ⟨ret_bool ?_, OKR.out, HBR.out⟩
      have e : k = ns.length := by have := HN.out; omega
      have h1 := hall.out
      rw [e, List.take_length] at h1
      exact (own_full (by rw [← HN.out]; exact h24) HM.out h1).symm
theorem rown_ok (v : Value) (ns : List Nd) (r : Bool) (w0 w : World) (hok : Ok w0 w) (h : Nods w v ns) (hm : ns.length ≤ maxLen) (hp : ∀ x ∈ ns, x.1.size < 900000 ∧ x.2.2.size < 900000) (hv : ownB ns = r) :
    Calls Tryd.prog 35 #[v] w fun e w' => e = .returned (.bool r) ∧ Ok w0 w' ∧ Below w.heap.size w w' := by
  subst hv
  by_cases h24 : 24 < ns.length
  · obtain ⟨a, c, rfl⟩ := h.form
    rw [own_many h24]
    refine (rown_many a ns.length c w h24 hm).mono ?_
    rintro e w' ⟨rfl, rfl⟩
    exact ⟨rfl, hok, Below.refl _ _⟩
  · cases hb : mayN ns with
    | false =>
      obtain ⟨a, c, rfl⟩ := h.form
      rw [own_not hb]
      exact rown_not a ns.length c ns w0 w rfl hok (by omega) h hp hb
    | true =>
      rcases h with ⟨rfl, a, c, rfl⟩ | ⟨b, o, c, rfl, hc, hr⟩
      · rw [may_nil] at hb; cases hb
      · exact rown_some b o c ns.length ns w0 w hok rfl (by omega) hc hr hp hb

set_option maxRecDepth 100000 in
set_option maxHeartbeats 1000000 in
theorem rmayI_ok (i : It) (ra : Option Addr) (rn rc : Nat) (ta : Option Addr) (tn tc : Nat) (r : Bool) (w0 w : World) (hok : Ok w0 w) (hf : Fair i) (hr : Txt w (.slice ra rn rc) i.2.1) (ht : Nods w (.slice ta tn tc) i.2.2) (hv : mayI i = r) :
    Calls Tryd.prog 18 #[.agg #[.string i.1, .slice ra rn rc, .slice ta tn tc]] w fun e w' => e = .returned (.bool r) ∧ Ok w0 w' ∧ Below w.heap.size w w' := by
  have HV := hide hv
  have hnm := hf.name
  have HF := hide hf
  obtain ⟨W, hW⟩ : ∃ W, W = w.alloc (icells i.1 ra rn rc ta tn tc) := ⟨_, rfl⟩
  have HB0 : Hid (Below w.heap.size w W) := by rw [hW]; exact below_box _ _
  have OK0 : Hid (Ok w0 W) := by rw [hW]; exact hok.alloc _
  have HT := hide hr
  have HN := hide ht
  have c0 : W.cell? ⟨w.heap.size, 0, none⟩ = some (.string i.1) := by rw [hW]; simp [icells]
  have c1 : W.cell? ⟨w.heap.size, 1, none⟩ = some (.slice ra rn rc) := by rw [hW]; simp [icells]
  have c2 : W.cell? ⟨w.heap.size, 2, none⟩ = some (.slice ta tn tc) := by rw [hW]; simp [icells]
  have hsz : w.heap.size < W.heap.size := by rw [hW]; simp
  have HW : Hid (w.alloc (.cells #[.string i.1, .slice ra rn rc, .slice ta tn tc] 25) = W) := hW.symm
  clear hv hf hr ht hW
  cases h1 : Hog.nameL i.1.data.toList with
  | false =>
    have H1 := hide h1
    clear h1
    go_enter Tryd.func18, Tryd.ntmps18
    go_wp2_with fail
    rw [HW.out]
    refine (rname_ok i.1 false W (by omega) H1.out).mono ?_
    rintro e w1 ⟨rfl, rfl⟩
    go_wp2
    go_ret
    exact ⟨ret_bool (by rw [← HV.out]; unfold mayI; rw [H1.out]; rfl), OK0.out, HB0.out⟩
  | true =>
    have H1 := hide h1
    clear h1
    cases h2 : refsB i.2.1 with
    | false =>
      have H2 := hide h2
      clear h2
      go_enter Tryd.func18, Tryd.ntmps18
      go_wp2_with fail
      rw [HW.out]
      refine (rname_ok i.1 true W (by omega) H1.out).mono ?_
      rintro e w1 ⟨rfl, rfl⟩
      go_wp2_with fail
      refine (rnames_ok _ i.2.1 false _ (HT.out.below HB0.out) (by have := HF.out.refs; unfold maxLen; omega) (fun x hx => by have := HF.out.ref x hx; omega) H2.out).mono ?_
      rintro e w2 ⟨rfl, hb2⟩
      go_wp2
      go_ret
      exact ⟨ret_bool (by rw [← HV.out]; unfold mayI; rw [H1.out, H2.out]; rfl), OK0.out.next hb2, below_two HB0.out hb2⟩
    | true =>
      have H2 := hide h2
      clear h2
      have H3 : Hid (ownB i.2.2 = r) := by
        rw [← HV.out]; unfold mayI; rw [H1.out, H2.out]; exact (Bool.true_and _).symm
      go_enter Tryd.func18, Tryd.ntmps18
      go_wp2_with fail
      rw [HW.out]
      refine (rname_ok i.1 true W (by omega) H1.out).mono ?_
      rintro e w1 ⟨rfl, rfl⟩
      go_wp2_with fail
      refine (rnames_ok _ i.2.1 true _ (HT.out.below HB0.out) (by have := HF.out.refs; unfold maxLen; omega) (fun x hx => by have := HF.out.ref x hx; omega) H2.out).mono ?_
      rintro e w2 ⟨rfl, hb2⟩
      have f2 := (hb2.cell (p := ⟨w.heap.size, 2, none⟩) hsz).trans c2
      have HB2 := hide (below_two HB0.out hb2)
      have OK2 := hide (OK0.out.next hb2)
      clear hb2 c0 c1 c2
      go_wp2_with fail
      refine (rown_ok _ i.2.2 r w0 _ OK2.out (HN.out.below HB2.out) (by have := HF.out.tree; unfold maxLen; omega) HF.out.path H3.out).mono ?_
      rintro e w3 ⟨rfl, ok3, hb3⟩
      go_wp2
      go_ret
      exact ⟨rfl, ok3, below_two HB2.out hb3⟩
end Go.Proofs.YtggojmimodpfaaaDoor
