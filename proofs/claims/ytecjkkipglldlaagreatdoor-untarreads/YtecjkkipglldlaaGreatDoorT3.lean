/- The walks of the document's own dir, Bad, May. -/
import Derived.Test.YtecjkkipglldlaaGreatDoorT2
import Derived.Test.YtecjkkipglldlaaGreatDoorPlainS
namespace Go.Proofs.YtecjkkipglldlaaGreatDoor
open Go.RowKit

theorem later_below {w w' : World} (h : ∃ p : Later w, w' = p.w1) : Below w.heap.size w w' := by
  obtain ⟨p, rfl⟩ := h
  exact p.below
theorem dirAt_step {ns : List Nd} {k : Nat} {m : Nd} {p : ByteArray} (hm : ns[k]? = some m) (h : dirAt (ns.take k) p = false) (hn : ¬ (m.1 = p ∧ m.2.1 = 1)) : dirAt (ns.take (k + 1)) p = false := by
  unfold dirAt at h ⊢
  refine anyN_step hm ?_ h
  rw [Bool.and_eq_false_iff]
  by_cases e : m.1 = p
  · exact .inr (decide_eq_false fun e2 => hn ⟨e, e2⟩)
  · exact .inl (decide_eq_false e)
theorem dirAt_hit {ns : List Nd} {k : Nat} {m : Nd} {p : ByteArray} (hm : ns[k]? = some m) (h1 : m.1 = p) (h2 : m.2.1 = 1) : dirAt ns p = true := by
  unfold dirAt
  exact List.any_eq_true.2 ⟨m, List.mem_of_getElem? hm, by rw [decide_eq_true h1, decide_eq_true h2]; rfl⟩

set_option maxHeartbeats 800000 in
theorem rdir_some (b o c : Nat) (ns : List Nd) (p : ByteArray) (w : World) (hr : Run w b o ns) (hl : ns.length < 1000000) :
    Calls Tryz.prog 67 #[.slice (some ⟨b, o, none⟩) ns.length c, .string p] w fun e w' => e = .returned (.bool (dirAt ns p)) ∧ w' = w := by
  obtain ⟨l, hm⟩ : ∃ l, l = ns.length := ⟨_, rfl⟩
  have HM := hide hm
  have HR := hide hr
  rw [← hm] at hl ⊢
  clear hm hr
  go_enter Tryz.func67, Tryz.ntmps67
  go_wp2
  go_loop [5] (fun i => ∃ k : Nat, k ≤ l ∧ i = .int .i64 k ∧ Hid (dirAt (ns.take k) p = false)) (fun i => l - (intOf i).toNat)
  case atStart => exact ⟨0, Nat.zero_le _, rfl, rfl⟩
  case round =>
    obtain ⟨k, hk, rfl, ha⟩ := hrel
    by_cases hlt : k < l
    · obtain ⟨m, hn⟩ : ∃ m, ns[k]? = some m := ⟨ns[k]'(by have := HM.out; omega), List.getElem?_eq_some_iff.2 ⟨_, rfl⟩⟩
      obtain ⟨g1, g2, g3⟩ := HR.out.2 k m hn
      have HN := hide hn
      clear hn
      by_cases he : m.1 = p
      · have hb : (m.1.toList == p.toList) = true := by rw [he]; simp
        by_cases h1 : m.2.1 = 1
        · have hb1 : (m.2.1 == 1) = true := by rw [h1]; rfl
          have HF := hide (dirAt_hit HN.out he h1)
          clear he h1
          go_wp2
          go_ret
          exact ⟨ret_bool HF.out.symm, rfl⟩
        · have hb1 : (m.2.1 == 1) = false := by rw [beq_eq_false_iff_ne]; exact h1
          have HF := hide (dirAt_step HN.out ha.out (fun e => h1 e.2))
          clear he h1
          go_wp2
          go_round
          case rel => exact ⟨k + 1, by omega, by go_num, HF⟩
          case measure => simp [intOf]; omega
      · have hb : (m.1.toList == p.toList) = false := by
          rw [beq_eq_false_iff_ne]
          intro e
          exact he (bytes_eq.2 e)
        have HF := hide (dirAt_step HN.out ha.out (fun e => he e.1))
        clear he
        go_wp2
        go_round
        case rel => exact ⟨k + 1, by omega, by go_num, HF⟩
        case measure => simp [intOf]; omega
    · go_wp2
      go_ret
      refine ⟨ret_bool ?_, rfl⟩
      have e : k = ns.length := by have := HM.out; omega
      have h2 := ha.out
      rw [e, List.take_length] at h2
      rw [h2]

set_option maxHeartbeats 400000 in
theorem rbad_none (a : Option Addr) (c : Nat) (w : World) :
    Calls Tryz.prog 52 #[.slice a 0 c] w fun e w' => e = .returned (.int .i64 0) ∧ w' = w := by
  go_enter Tryz.func52, Tryz.ntmps52
  go_wp2
  go_ret
  exact ⟨rfl, rfl⟩

set_option maxRecDepth 100000 in
set_option maxHeartbeats 2000000 in
theorem rbad_some (b o c : Nat) (t : List Nd) (w0 w : World) (h : Ok w0 w) (hp : ∀ n ∈ t, n.1.size < 900000 ∧ n.2.2.size < 900000) (hr : Run w b o t) (hne : t ≠ []) (hm : t.length ≤ 400) (hmc : t.length ≤ c) :
    Calls Tryz.prog 52 #[.slice (some ⟨b, o, none⟩) t.length c] w fun e w' => e = .returned (.int .i64 (badFrom [] t)) ∧ Ok w0 w' ∧ Below w.heap.size w w' := by
  have hz : ((t.length : Int) == 0) = false := by
    have := List.length_pos_iff.2 hne
    rw [beq_eq_false_iff_ne]; omega
  obtain ⟨m, hmt⟩ : ∃ m, m = t.length := ⟨_, rfl⟩
  have HMT := hide hmt
  have HR := hide hr
  have HP := hide hp
  rw [← hmt] at hz hm hmc ⊢
  clear hmt hr hp hne
  go_enter Tryz.func52, Tryz.ntmps52
  go_wp2
  go_loopw [3, 4, 5] (fun i _ _ wr => ∃ k : Nat, k ≤ m ∧ i = .int .i64 k ∧ Hid (badFrom (t.take k) (t.drop k) = badFrom [] t) ∧ Hid (Below w.heap.size w wr)) (fun i _ _ _ => m - (intOf i).toNat)
  case atStart => exact ⟨0, Nat.zero_le _, rfl, by simp [Hid], Below.refl _ _⟩
  case round =>
    obtain ⟨k, hk, rfl, HBF, HB⟩ := hrel
    have okr : Ok w0 wr := h.next HB.out
    by_cases hlt : k < m
    · obtain ⟨n, hn⟩ : ∃ n, t[k]? = some n := ⟨t[k]'(by have := HMT.out; omega), List.getElem?_eq_some_iff.2 ⟨_, rfl⟩⟩
      obtain ⟨g1, g2, g3⟩ := (HR.out.2 k n hn).below HB.out HR.out.1
      have hnp := HP.out n (List.mem_of_getElem? hn)
      have HN := hide hn
      have htk : (t.take k).length = k := by rw [List.length_take]; have := HMT.out; omega
      have HTK := hide htk
      have hk4 : (k : Int) < 400 := by omega
      have hk4b : decide ((400 : Int) ≤ (k : Int)) = false := by simp; omega
      clear hn htk
      go_wp2_with fail
      cases hg : goodB n with
      | false =>
        have HG := hide hg
        clear hg
        refine (rgood_ok n false w0 wr okr hnp.1 hnp.2 HG.out).mono ?_
        rintro e w1 ⟨rfl, ok1, hb1⟩
        have HB1 := hide (below_two HB.out hb1)
        clear hb1
        go_wp2
        go_ret
        exact ⟨ret_int (by rw [← HBF.out, badFrom_at HN.out (refusesB_bad HG.out)]), ok1, HB1.out⟩
      | true =>
        have HG := hide hg
        clear hg
        refine (rgood_ok n true w0 wr okr hnp.1 hnp.2 HG.out).mono ?_
        rintro e w1 ⟨rfl, ok1, hb1⟩
        have HB1 := hide (below_two HB.out hb1)
        clear hb1 g1 g2 g3 HB okr
        obtain ⟨g1, g2, g3⟩ := (HR.out.2 k n HN.out).below HB1.out HR.out.1
        cases k with
        | zero =>
          rw [Nat.zero_mul, Nat.add_zero] at g1
          cases he : n.1.toList.isEmpty with
          | true =>
            have HF : Hid (refusesB (t.take 0) n = false) := by
              rw [List.take_zero, refusesB_first HG.out]
              show (!dataEmpty n.1) = false
              unfold dataEmpty
              rw [he]
              rfl
            go_wp2
            go_roundw
            case rel => exact ⟨0 + 1, by omega, by go_num, hide ((badFrom_on HN.out HF.out).symm.trans HBF.out), HB1⟩
            case measure => simp [intOf]; omega
          | false =>
            have HF : Hid (refusesB (t.take 0) n = true) := by
              rw [List.take_zero, refusesB_first HG.out]
              show (!dataEmpty n.1) = true
              unfold dataEmpty
              rw [he]
              rfl
            go_wp2
            go_ret
            exact ⟨ret_int (by rw [← HBF.out, badFrom_at HN.out HF.out]; rfl), ok1, HB1.out⟩
        | succ q =>
          obtain ⟨z, hz2⟩ : ∃ z, t[q]? = some z := ⟨t[q]'(by have := HMT.out; omega), List.getElem?_eq_some_iff.2 ⟨_, rfl⟩⟩
          have HZ := hide hz2
          have h0 : ((q : Int) + 1 == 0) = false := by rw [beq_eq_false_iff_ne]; omega
          have HRF := hide (refusesB_next HG.out (by rw [HTK.out]; omega) (take_last HZ.out))
          clear hz2
          obtain ⟨pq, hpq⟩ : ∃ pq, Hog.parentL n.1.data.toList = pq := ⟨_, rfl⟩
          have HPQ := hide hpq
          clear hpq
          go_wp2_with fail
          cases hpo : Hog.parentOk n.1.data.toList with
          | false =>
            have HPO := hide hpo
            clear hpo
            refine (rparent_ok n.1 pq false w0 w1 ok1 hnp.1 HPQ.out HPO.out).mono ?_
            rintro e w2 ⟨rfl, ok2, hb2⟩
            have HB2 := hide (below_two HB1.out hb2)
            clear hb2 g1 g2 g3
            have hlb : b < w2.heap.size := Nat.lt_of_lt_of_le HR.out.1 HB2.out.size
            have hat := (HR.out.2 (q + 1) n HN.out).below HB2.out HR.out.1
            have haz := (HR.out.2 q z HZ.out).below HB2.out HR.out.1
            have f1 : ∀ p : Later w2, p.w1.cell? ⟨b, o + (q + 1) * 3, none⟩ = some (.string n.1) := fun p => p.cell hlb hat.path
            have f2 : ∀ p : Later w2, p.w1.cell? ⟨b, o + q * 3, none⟩ = some (.string z.1) := fun p => p.cell hlb haz.path
            have hne := later_one w2
            have HF : Hid (refusesB (t.take (q + 1)) n = true) := by
              rw [HRF.out]
              unfold standsB
              rw [HPO.out]
              show (!ltN z n || !(false && _)) = true
              simp
            clear hat haz
            cases hlt2 : ltN z n with
            | false =>
              have hle := ltN_not hlt2
              clear hlt2
              rcases hle with hle | hle
              all_goals
                go_wp2
                refine wp_region_later (by kernel_rfl) (by kernel_rfl) ?_
                repeat (first | go_big_quiet_step (fail) | quiet_step (fail))
                refine wpQuiet_nil ?_
                intro W4 hw'
                have hbq := later_below hw'
                clear hw'
                have HB4 := hide (below_two HB2.out hbq)
                have ok4 := ok2.next hbq
                clear hbq f1 f2 hne
                go_wp2
                go_ret
                exact ⟨ret_int (by rw [← HBF.out, badFrom_at HN.out HF.out]; omega), ok4, HB4.out⟩
            | true =>
              obtain ⟨hle1, hle2⟩ := ltN_yes hlt2
              have hle3 : (n.1.toList == z.1.toList) = false := by rw [beq_eq_false_iff_ne]; exact hle1
              clear hlt2
              go_wp2
              refine wp_region_later (by kernel_rfl) (by kernel_rfl) ?_
              repeat (first | go_big_quiet_step (fail) | quiet_step (fail))
              refine wpQuiet_nil ?_
              intro W4 hw'
              have hbq := later_below hw'
              clear hw'
              have HB4 := hide (below_two HB2.out hbq)
              have ok4 := ok2.next hbq
              clear hbq f1 f2 hne
              go_wp2
              go_ret
              exact ⟨ret_int (by rw [← HBF.out, badFrom_at HN.out HF.out]; omega), ok4, HB4.out⟩
          | true =>
            have HPO := hide hpo
            clear hpo
            refine (rparent_ok n.1 pq true w0 w1 ok1 hnp.1 HPQ.out HPO.out).mono ?_
            rintro e w2 ⟨rfl, ok2, hb2⟩
            have HB2 := hide (below_two HB1.out hb2)
            clear hb2 g1 g2 g3
            have hlb : b < w2.heap.size := Nat.lt_of_lt_of_le HR.out.1 HB2.out.size
            have hat := (HR.out.2 (q + 1) n HN.out).below HB2.out HR.out.1
            have haz := (HR.out.2 q z HZ.out).below HB2.out HR.out.1
            have f1 : ∀ p : Later w2, p.w1.cell? ⟨b, o + (q + 1) * 3, none⟩ = some (.string n.1) := fun p => p.cell hlb hat.path
            have f2 : ∀ p : Later w2, p.w1.cell? ⟨b, o + q * 3, none⟩ = some (.string z.1) := fun p => p.cell hlb haz.path
            have hne := later_one w2
            have HST : Hid (standsB n (t.take (q + 1)) = dirAt (t.take (q + 1)) (Hog.mk pq)) := by
              show _ = _
              unfold standsB parentP
              rw [HPO.out, HPQ.out]
              rfl
            have HC : Hid (∀ p : Later w2, Calls Tryz.prog 67 #[.slice (some ⟨b, o, none⟩) (q + 1) c, .string (Hog.mk pq)] p.w1 fun e w' => e = .returned (.bool (dirAt (t.take (q + 1)) (Hog.mk pq))) ∧ Below p.w1.heap.size p.w1 w') := fun p => by
              have h6 := rdir_some b o c (t.take (q + 1)) (Hog.mk pq) p.w1 ⟨Nat.lt_of_lt_of_le hlb p.below.size, fun j y hy => by
                rw [List.getElem?_take] at hy
                split at hy
                · exact ((HR.out.2 j y hy).below HB2.out HR.out.1).below p.below hlb
                · cases hy⟩ (by rw [HTK.out]; omega)
              rw [HTK.out] at h6
              exact h6.mono fun e w' ⟨h7, h8⟩ => ⟨h7, by rw [h8]; exact Below.refl _ _⟩
            clear hat haz
            cases hlt2 : ltN z n with
            | false =>
              have hle := ltN_not hlt2
              have HF : Hid (refusesB (t.take (q + 1)) n = true) := by rw [HRF.out, hlt2]; rfl
              clear hlt2
              rcases hle with hle | hle
              all_goals
                go_wp2
                refine wp_region_later (by kernel_rfl) (by kernel_rfl) ?_
                repeat (first | go_big_quiet_step (fail) | quiet_step (fail))
                refine wpQuiet_nil ?_
                intro W4 hw'
                have hbq := later_below hw'
                clear hw'
                have HB4 := hide (below_two HB2.out hbq)
                have ok4 := ok2.next hbq
                clear hbq f1 f2 hne
                go_wp2
                go_ret
                exact ⟨ret_int (by rw [← HBF.out, badFrom_at HN.out HF.out]; omega), ok4, HB4.out⟩
            | true =>
              obtain ⟨hle1, hle2⟩ := ltN_yes hlt2
              have hle3 : (n.1.toList == z.1.toList) = false := by rw [beq_eq_false_iff_ne]; exact hle1
              cases hd : dirAt (t.take (q + 1)) (Hog.mk pq) with
              | false =>
                have HF : Hid (refusesB (t.take (q + 1)) n = true) := by rw [HRF.out, HST.out, hd]; simp [Hid]
                rw [hd] at HC
                clear hlt2 hd
                go_wp2
                refine wp_region_later (by kernel_rfl) (by kernel_rfl) ?_
                repeat (first | go_big_quiet_step ((go_at_call 67; exact Calls.later_of (HC.out _))) | quiet_step ((go_at_call 67; exact Calls.later_of (HC.out _))))
                refine wpQuiet_nil ?_
                intro W4 hw'
                have hbq := later_below hw'
                clear hw'
                have HB4 := hide (below_two HB2.out hbq)
                have ok4 := ok2.next hbq
                clear hbq f1 f2 hne
                go_wp2
                go_ret
                exact ⟨ret_int (by rw [← HBF.out, badFrom_at HN.out HF.out]; omega), ok4, HB4.out⟩
              | true =>
                have HF : Hid (refusesB (t.take (q + 1)) n = false) := by rw [HRF.out, HST.out, hd, hlt2]; rfl
                rw [hd] at HC
                clear hlt2 hd
                go_wp2
                refine wp_region_later (by kernel_rfl) (by kernel_rfl) ?_
                repeat (first | go_big_quiet_step ((go_at_call 67; exact Calls.later_of (HC.out _))) | quiet_step ((go_at_call 67; exact Calls.later_of (HC.out _))))
                refine wpQuiet_nil ?_
                intro W4 hw'
                have hbq := later_below hw'
                clear hw'
                have HB4 := hide (below_two HB2.out hbq)
                have ok4 := ok2.next hbq
                clear hbq f1 f2 hne
                go_wp2
                go_roundw
                case rel => exact ⟨q + 1 + 1, by omega, by go_num, hide ((badFrom_on HN.out HF.out).symm.trans HBF.out), HB4⟩
                case measure => simp [intOf]; omega
    · go_wp2
      go_ret
      refine ⟨ret_int ?_, h.next HB.out, HB.out⟩
      have e : k = t.length := by have := HMT.out; omega
      rw [← HBF.out, e, badFrom_end]

theorem rbad_ok (v : Value) (t : List Nd) (r : Int) (w0 w : World) (h : Ok w0 w) (hp : ∀ n ∈ t, n.1.size < 900000 ∧ n.2.2.size < 900000) (hn : Nods w v t) (hm : t.length ≤ 400) (hv : badN t = r) :
    Calls Tryz.prog 52 #[v] w fun e w' => e = .returned (.int .i64 r) ∧ Ok w0 w' ∧ Below w.heap.size w w' := by
  subst hv
  cases t with
  | nil =>
    obtain ⟨a, c, rfl⟩ := hn.form
    refine (rbad_none a c w).mono ?_
    rintro e w' ⟨rfl, rfl⟩
    exact ⟨rfl, h, Below.refl _ _⟩
  | cons x r =>
    rcases hn with ⟨e, _⟩ | ⟨b, o, c, rfl, hc, hr⟩
    · cases e
    · exact rbad_some b o c (x :: r) w0 w h hp hr (by simp) hm hc
set_option maxHeartbeats 800000 in
theorem rmayT_ok (v : Value) (t : List Nd) (b : Bool) (w0 w : World) (h : Ok w0 w) (hp : ∀ n ∈ t, n.1.size < 900000 ∧ n.2.2.size < 900000) (hn : Nods w v t) (hm : t.length ≤ 400) (hv : mayN t = b) :
    Calls Tryz.prog 34 #[v] w fun e w' => e = .returned (.bool b) ∧ Ok w0 w' ∧ Below w.heap.size w w' := by
  have HP := hide hp
  have HN := hide hn
  have HV := hide hv
  obtain ⟨r, hr⟩ : ∃ r, r = badN t := ⟨_, rfl⟩
  have HR := hide hr
  clear hp hn hv hr
  go_enter Tryz.func34, Tryz.ntmps34
  go_wp2_with fail
  refine (rbad_ok v t r w0 w h HP.out HN.out hm HR.out.symm).mono ?_
  rintro e w1 ⟨rfl, ok1, hb1⟩
  go_wp2
  go_ret
  exact ⟨ret_bool (by rw [← HV.out, HR.out]; rfl), ok1, hb1⟩
end Go.Proofs.YtecjkkipglldlaaGreatDoor
