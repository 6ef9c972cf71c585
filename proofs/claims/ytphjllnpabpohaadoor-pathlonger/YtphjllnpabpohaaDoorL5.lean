/- The walk of the statement PathLonger: for every two texts it answers true. -/
import Derived.Test.YtphjllnpabpohaaDoorApd
namespace Go.Proofs.YtphjllnpabpohaaDoor
open Go.RowKit

set_option maxHeartbeats 400000 in
theorem longer_out (p q : ByteArray) (w : World) (hsh : w.ShapedOpen Tryd.prog) (h : ¬ (p.size ≤ 200 ∧ q.size ≤ 200 ∧ Hog.mayL p.data.toList = true ∧ Hog.mayL q.data.toList = true)) :
    Calls Tryd.prog 7 #[.string p, .string q] w fun e w' => e = .returned (.bool true) ∧ Below w.heap.size w w' := by
  have h0 : Ok w w := Ok.start hsh
  by_cases h1 : (p.size : Int) ≤ 200
  · by_cases h2 : (q.size : Int) ≤ 200
    · cases hm : Hog.mayL p.data.toList with
      | false =>
        have HM := hide hm
        clear h hm
        go_enter Tryd.func7, Tryd.ntmps7
        go_wp2_with fail
        refine (may_ok p false w w h0 (by omega) HM.out).mono ?_
        rintro e w1 ⟨rfl, ok1, _⟩
        go_wp2_with fail
        refine (awake_ok w w1 ok1).mono ?_
        rintro e w2 ⟨rfl, ok2, _⟩
        go_wp2_with fail
        go_ret
        exact ⟨rfl, ok2.2⟩
      | true =>
        have HM := hide hm
        have HQ : Hid (Hog.mayL q.data.toList = false) := by
          show Hog.mayL q.data.toList = false
          cases hq : Hog.mayL q.data.toList with
          | false => rfl
          | true => exact absurd ⟨by omega, by omega, hm, hq⟩ h
        clear h hm
        go_enter Tryd.func7, Tryd.ntmps7
        go_wp2_with fail
        refine (may_ok p true w w h0 (by omega) HM.out).mono ?_
        rintro e w1 ⟨rfl, ok1, _⟩
        go_wp2_with fail
        refine (may_ok q false w w1 ok1 (by omega) HQ.out).mono ?_
        rintro e w2 ⟨rfl, ok2, _⟩
        go_wp2_with fail
        refine (awake_ok w w2 ok2).mono ?_
        rintro e w3 ⟨rfl, ok3, _⟩
        go_wp2_with fail
        go_ret
        exact ⟨rfl, ok3.2⟩
    · clear h
      have h2' : (200 : Int) < (q.size : Int) := by omega
      clear h2
      go_enter Tryd.func7, Tryd.ntmps7
      go_wp2_with fail
      refine (awake_ok w w h0).mono ?_
      rintro e w3 ⟨rfl, ok3, _⟩
      go_wp2_with fail
      go_ret
      exact ⟨rfl, ok3.2⟩
  · clear h
    have h1' : (200 : Int) < (p.size : Int) := by omega
    clear h1
    go_enter Tryd.func7, Tryd.ntmps7
    go_wp2_with fail
    refine (awake_ok w w h0).mono ?_
    rintro e w3 ⟨rfl, ok3, _⟩
    go_wp2_with fail
    go_ret
    exact ⟨rfl, ok3.2⟩

/-- What two paths come to. -/
theorem longer_facts {p q : List UInt8} (hp : Hog.mayL p = true) (hq : Hog.mayL q = true) :
    ∃ lp lq : List (List UInt8), ∃ J : List UInt8, ∃ b : Bool, Hog.splitL p = lp ∧ Hog.splitL q = lq ∧ lp.length ≤ 10 ∧ lq.length ≤ 10 ∧ (∀ x ∈ lp ++ lq, x.length ≤ 60) ∧ (0 < lp.length ↔ p ≠ []) ∧ (0 < lq.length ↔ q ≠ []) ∧
      joinV (lp ++ lq) = (if b = true then J else []) ∧ Hog.joinOk (lp ++ lq) = b ∧ J.length = p.length + q.length + (if 0 < lp.length ∧ 0 < lq.length then 1 else 0) ∧
      b = (decide (lp.length + lq.length ≤ 10) && decide (J.length ≤ 200)) ∧ (b = true → Hog.underL J p = true ∧ Hog.splitL J = lp ++ lq) := by
  have sp : Hog.splitL p = Hog.cutC p := by unfold Hog.splitL; rw [if_pos hp]
  have sq : Hog.splitL q = Hog.cutC q := by unfold Hog.splitL; rw [if_pos hq]
  obtain ⟨h1, h2, h3⟩ := Hog.longer hp hq
  have pos : ∀ s : List UInt8, 0 < (Hog.cutC s).length ↔ s ≠ [] := by
    intro s
    unfold Hog.cutC
    by_cases hs : s = []
    · simp [hs]
    · rw [if_neg hs]
      have := List.length_pos_iff.2 (Hog.cut_ne s)
      simp [hs, this]
  have ite : (if p ≠ [] ∧ q ≠ [] then 1 else 0) = (if 0 < (Hog.cutC p).length ∧ 0 < (Hog.cutC q).length then 1 else 0 : Nat) := by
    simp only [pos]
  refine ⟨_, _, Hog.joinS (Hog.cutC p ++ Hog.cutC q), _, sp, sq, (Hog.may_parts hp).2.1, (Hog.may_parts hq).2.1, ?_, pos p, pos q, rfl, rfl, ?_, ?_, h3⟩
  · intro x hx
    rcases List.mem_append.1 hx with h | h
    · exact (Hog.part_parts (List.all_eq_true.1 (Hog.may_parts hp).2.2 x h)).2.1
    · exact (Hog.part_parts (List.all_eq_true.1 (Hog.may_parts hq).2.2 x h)).2.1
  · rw [h1, ite]
  · rw [h2, List.length_append, h1]

set_option maxRecDepth 100000 in
set_option maxHeartbeats 2000000 in
theorem longer_main (p q : ByteArray) (w : World) (hsh : w.ShapedOpen Tryd.prog) (h1 : (p.size : Int) ≤ 200) (h2 : (q.size : Int) ≤ 200) (HM : Hid (Hog.mayL p.data.toList = true)) (HQ : Hid (Hog.mayL q.data.toList = true)) :
    Calls Tryd.prog 7 #[.string p, .string q] w fun e w' => e = .returned (.bool true) ∧ Below w.heap.size w w' := by
  have h0 : Ok w w := Ok.start hsh
  have hml := Hog.mk_toList
  have hms := Hog.mk_size
  obtain ⟨lp, lq, J, b, e1, e2, hl1, hl2, e3, e4, e5, e6, e7, e8, e9, e10⟩ := longer_facts HM.out HQ.out
  have E1 := hide e1; have E2 := hide e2; have E3 := hide e3; have E4 := hide e4; have E5 := hide e5; have E6 := hide e6; have E7 := hide e7; have E8 := hide e8; have E9 := hide e9; have E10 := hide e10
  clear e1 e2 e3 e4 e5 e6 e7 e8 e9 e10
  go_enter Tryd.func7, Tryd.ntmps7
  go_wp2_with fail
  refine (may_ok p true w w h0 (by omega) HM.out).mono ?_
  rintro e w1 ⟨rfl, ok1, _⟩
  go_wp2_with fail
  refine (may_ok q true w w1 ok1 (by omega) HQ.out).mono ?_
  rintro e w2 ⟨rfl, ok2, _⟩
  go_wp2_with fail
  refine (split_ok p lp w w2 ok2 (by omega) E1.out).mono ?_
  rintro e w3 ⟨a3, c3, rfl, ho3, ok3, _⟩
  have HO3 := hide (ho3.base ok2.size)
  clear ho3
  go_wp2_with fail
  refine (split_ok q lq w w3 ok3 (by omega) E2.out).mono ?_
  rintro e w4 ⟨a4, c4, rfl, ho4, ok4, hb4⟩
  have HO4 := hide (ho4.base ok3.size)
  have HO34 := hide (HO3.out.below hb4)
  clear ho4 hb4
  go_wp2_with (at_builtin; refine wpList_append_texts rfl _ _ rfl w4.heap.size w.heap.size _ _ [] _ rfl (Own.nil _ _) rfl HO34.out (by simp; omega) (Nat.le_refl _) ?_)
  intro b5 c5 w5 ho5 hb5
  have ok5 := ok4.next hb5
  have HO5 := hide ho5
  have HO45 := hide (HO4.out.below hb5)
  have hs5 := hb5.size
  clear ho5 hb5
  go_wp2_with (at_builtin; refine wpList_append_texts rfl _ _ rfl w4.heap.size w.heap.size _ _ _ _ rfl HO5.out rfl HO45.out (by simp; omega) (by omega) ?_)
  intro b6 c6 w6 ho6 hb6
  have ok6 := ok5.step (hb6.mono ok4.size)
  have HT6 : Hid (Txt w6 (.slice b6 (lp.length + lq.length) c6) ((lp ++ lq).map Hog.mk)) := by
    show Txt w6 (.slice b6 (lp.length + lq.length) c6) ((lp ++ lq).map Hog.mk)
    rw [List.map_append]
    simpa using ho6.txt
  clear ho6 hb6 hs5
  go_wp2_with fail
  refine (join_ok _ (lp ++ lq) _ b w w6 ok6 HT6.out (by simp; omega) (fun x hx => by have := E3.out x hx; omega) E6.out E7.out).mono ?_
  rintro e w7 ⟨rfl, ok7, hb7⟩
  have HT7 := hide (HT6.out.below hb7)
  clear hb7
  have hJ : J.length = p.size + q.size + (if 0 < lp.length ∧ 0 < lq.length then 1 else 0) := by rw [E8.out, Hog.size_len, Hog.size_len]
  cases b with
  | true =>
    have h9 := E9.out
    have hc : lp.length + lq.length ≤ 10 ∧ J.length ≤ 200 := by simpa using h9.symm
    obtain ⟨hc1, hc2⟩ := hc
    have E11 := hide (E10.out rfl)
    clear h9
    have hc1' : (lp.length : Int) + (lq.length : Int) ≤ 10 := by omega
    rw [if_pos rfl]
    have three : ((0 : Int) < (lp.length : Int) ∧ (0 : Int) < (lq.length : Int) ∧ (p.size : Int) + (q.size : Int) + 1 ≤ 200 ∧ ((J.length : Int) == (p.size : Int) + (q.size : Int) + 1) = true) ∨
        ((0 : Int) < (lp.length : Int) ∧ (lq.length : Int) ≤ 0 ∧ (p.size : Int) + (q.size : Int) ≤ 200 ∧ ((J.length : Int) == (p.size : Int) + (q.size : Int)) = true) ∨
        ((lp.length : Int) ≤ 0 ∧ (0 : Int) ≤ (lq.length : Int) ∧ (p.size : Int) + (q.size : Int) ≤ 200 ∧ ((J.length : Int) == (p.size : Int) + (q.size : Int)) = true) := by
      simp only [beq_iff_eq]
      by_cases a0 : 0 < lp.length
      · by_cases b0 : 0 < lq.length
        · rw [if_pos ⟨a0, b0⟩] at hJ
          exact .inl (by omega)
        · rw [if_neg (fun h => b0 h.2)] at hJ
          exact .inr (.inl (by omega))
      · rw [if_neg (fun h => a0 h.1)] at hJ
        exact .inr (.inr (by omega))
    clear hJ
    rcases three with ⟨i1, i2, i3, i4⟩ | ⟨i1, i2, i3, i4⟩ | ⟨i1, i2, i3, i4⟩
    all_goals
      go_wp2_with fail
      refine (under_ok (Hog.mk J) p true w w7 ok7 (by rw [Hog.mk_size]; omega) (by omega) (by rw [Hog.mk_data]; exact E11.out.1)).mono ?_
      rintro e w8 ⟨rfl, ok8, hb8⟩
      have HT8 := hide (HT7.out.below hb8)
      clear hb8
      go_wp2_with fail
      refine (split_ok (Hog.mk J) (lp ++ lq) w w8 ok8 (by rw [Hog.mk_size]; omega) (by rw [Hog.mk_data]; exact E11.out.2)).mono ?_
      rintro e w9 ⟨a9, c9, rfl, ho9, ok9, hb9⟩
      rw [List.length_append] at ho9 ⊢
      have HT9 := hide (HT8.out.below hb9)
      have HV9 := hide ho9.txt
      clear hb9 ho9
      go_wp2_with fail
      refine (same_ok _ _ (lp ++ lq) (lp ++ lq) true w w9 ok9 HV9.out HT9.out (by simp; omega) (by simp)).mono ?_
      rintro e w10 ⟨rfl, ok10, _⟩
      go_wp2_with fail
      refine (awake_ok w w10 ok10).mono ?_
      rintro e w11 ⟨rfl, ok11, _⟩
      go_wp2_with fail
      go_ret
      exact ⟨rfl, ok11.2⟩
  | false =>
    have hc : 10 < lp.length + lq.length ∨ 200 < J.length := by
      have h9 := E9.out.symm
      rw [Bool.and_eq_false_iff] at h9
      rcases h9 with h | h
      · exact .inl (by simpa using h)
      · exact .inr (by simpa using h)
    rw [if_neg (by decide)]
    have four : ((0 : Int) < (lp.length : Int) ∧ (0 : Int) < (lq.length : Int) ∧ (10 : Int) < (lp.length : Int) + (lq.length : Int) ∧ (0 : Int) ≤ (p.size : Int) + (q.size : Int) + 1) ∨
        ((0 : Int) < (lp.length : Int) ∧ (0 : Int) < (lq.length : Int) ∧ (lp.length : Int) + (lq.length : Int) ≤ 10 ∧ (200 : Int) < (p.size : Int) + (q.size : Int) + 1) ∨
        ((0 : Int) < (lp.length : Int) ∧ (lq.length : Int) ≤ 0 ∧ (lp.length : Int) + (lq.length : Int) ≤ 10 ∧ (200 : Int) < (p.size : Int) + (q.size : Int)) ∨
        ((lp.length : Int) ≤ 0 ∧ (0 : Int) ≤ (lq.length : Int) ∧ (lp.length : Int) + (lq.length : Int) ≤ 10 ∧ (200 : Int) < (p.size : Int) + (q.size : Int)) := by
      by_cases a0 : 0 < lp.length
      · by_cases b0 : 0 < lq.length
        · rw [if_pos ⟨a0, b0⟩] at hJ
          omega
        · rw [if_neg (fun h => b0 h.2)] at hJ
          omega
      · rw [if_neg (fun h => a0 h.1)] at hJ
        omega
    clear hJ hc
    rcases four with ⟨i1, i2, i3, i4⟩ | ⟨i1, i2, i3, i4⟩ | ⟨i1, i2, i3, i4⟩ | ⟨i1, i2, i3, i4⟩
    all_goals
      go_wp2_with fail
      refine (awake_ok w w7 ok7).mono ?_
      rintro e w11 ⟨rfl, ok11, _⟩
      go_wp2_with fail
      go_ret
      exact ⟨rfl, ok11.2⟩

theorem longer_walk (p q : ByteArray) (w : World) (hsh : w.ShapedOpen Tryd.prog) :
    Calls Tryd.prog 7 #[.string p, .string q] w fun e w' => e = .returned (.bool true) ∧ Below w.heap.size w w' := by
  by_cases h : p.size ≤ 200 ∧ q.size ≤ 200 ∧ Hog.mayL p.data.toList = true ∧ Hog.mayL q.data.toList = true
  · exact longer_main p q w hsh (by omega) (by omega) h.2.2.1 h.2.2.2
  · exact longer_out p q w hsh h

end Go.Proofs.YtphjllnpabpohaaDoor
