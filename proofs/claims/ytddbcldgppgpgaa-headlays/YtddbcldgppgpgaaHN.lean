/- The walk of the statement HeadLays: for every name, kind, size and link it answers true. -/
import Derived.Test.YtddbcldgppgpgaaHL
namespace Go.Proofs.Ytddbcldgppgpgaa
open Go.RowKit Hog

set_option maxHeartbeats 2000000 in
theorem lays_great (s t : ByteArray) (k sz : Int) (w : World) (h : s.size > 120 ∨ t.size > 120) :
    Calls Try.prog 4 #[.string s, .int .i64 k, .int .i64 sz, .string t] w fun e w' => e = .returned (.bool true) ∧ Below w.heap.size w w' := by
  by_cases h1 : s.size > 120
  · have c1 : (s.size : Int) > 120 := by omega
    clear h h1
    go_enter Try.func4, Try.ntmps4
    go_wp2_with fail
    refine (awake12_ok w w (Ok.start w)).mono ?_
    rintro e w1 ⟨rfl, ok1, _⟩
    go_wp2_with fail
    go_ret
    exact ⟨rfl, ok1⟩
  · have c1 : ¬ ((s.size : Int) > 120) := by omega
    have c2 : (t.size : Int) > 120 := by omega
    clear h h1
    go_enter Try.func4, Try.ntmps4
    go_wp2_with fail
    refine (awake12_ok w w (Ok.start w)).mono ?_
    rintro e w1 ⟨rfl, ok1, _⟩
    go_wp2_with fail
    go_ret
    exact ⟨rfl, ok1⟩
set_option maxHeartbeats 4000000 in
theorem lays_walk (s : ByteArray) (k sz : Int) (t : ByteArray) (w : World) (hz : sz < 9223372036854775808) :
    Calls Try.prog 4 #[.string s, .int .i64 k, .int .i64 sz, .string t] w fun e w' => e = .returned (.bool true) ∧ Below w.heap.size w w' := by
  by_cases hg : s.size > 120 ∨ t.size > 120
  · exact lays_great s t k sz w hg
  · obtain ⟨nm, hs⟩ : ∃ nm, s.data.toList = nm := ⟨_, rfl⟩
    obtain ⟨lk, ht⟩ : ∃ lk, t.data.toList = lk := ⟨_, rfl⟩
    have c1 : ¬ ((s.size : Int) > 120) := by omega
    have c2 : ¬ ((t.size : Int) > 120) := by omega
    have HSS := hide (show s.size < 1000000 by omega)
    have HTS := hide (show t.size < 1000000 by omega)
    have HS := hide hs
    have HT := hide ht
    clear hg hs ht
    by_cases hmay : mayH nm k sz lk = true
    · have HM := hide (mayH_of hmay)
      clear hmay
      go_enter Try.func4, Try.ntmps4
      go_wp2_with fail
      refine (lay_good s t nm lk k sz w w (Ok.start w) HS.out HT.out HM.out).mono ?_
      rintro e w1 ⟨g1, rfl, hg1, hr1, ok1, hb1⟩
      have HR1 := hide hr1
      clear hr1 hb1
      go_wp2_with fail
      refine (rlay_good s t nm lk k sz w w1 ok1 HS.out HT.out HM.out).mono ?_
      rintro e w2 ⟨g2, rfl, hg2, hr2, ok2, hb2⟩
      have HR1b := hide (HR1.out.below hb2 HR1.out.lt)
      have HR2 := hide hr2
      have HNE : Hid (g1 ≠ g2) := hide (by have := HR1.out.lt; omega)
      clear hr2 hb2 ok1 HR1
      go_wp2_with fail
      refine (sameB_ok _ _ _ _ _ _ _ _ true w w2 ok2 (HR1b.out.arg (head_len HM.out) (Nat.le_refl _)) (HR2.out.arg (head_len HM.out) (Nat.le_refl _)) (by omega) (by simp)).mono ?_
      rintro e w3 ⟨rfl, ok3, hb3⟩
      have HR1c := hide (HR1b.out.below hb3 HR1b.out.lt)
      have HR2c := hide (HR2.out.below hb3 HR2.out.lt)
      clear hb3 ok2 HR1b HR2
      have HOW := hide (HR1c.out.own (base := w.heap.size) (head_len HM.out) hg1 (by unfold maxLen; omega))
      have hws : w.heap.size ≤ w3.heap.size := Ok.size ok3
      go_wp2_with fail
      refine (overB_ok _ _ w.heap.size w3 HOW.out hws (by rw [head_len HM.out]; omega)).mono ?_
      rintro e w4 ⟨rfl, hgr⟩
      have HGR := hide hgr
      have ok4 : Ok w w4 := ok3.trans (HOW.out.grownBelow hgr hws)
      have HR2d : Hid (RowH w4 g2 (headH nm k sz lk)) := by
        refine hide ?_
        unfold RowH
        rw [hgr.block g2 HR2c.out.lt (by intro e; injection e with e; exact HNE.out e.symm)]
        exact HR2c.out
      clear hgr HOW HR1c HR2c ok3 HGR hws
      go_wp2_with fail
      refine (lay_good s t nm lk k sz w w4 ok4 HS.out HT.out HM.out).mono ?_
      rintro e w5 ⟨g5, rfl, hg5, hr5, ok5, hb5⟩
      have HR5 := hide hr5
      have HR2e := hide (HR2d.out.below hb5 HR2d.out.lt)
      clear hr5 hb5 HR2d ok4
      go_wp2_with fail
      refine (sameB_ok _ _ _ _ _ _ _ _ true w w5 ok5 (HR5.out.arg (head_len HM.out) (Nat.le_refl _)) (HR2e.out.arg (head_len HM.out) (Nat.le_refl _)) (by omega) (by simp)).mono ?_
      rintro e w6 ⟨rfl, ok6, hb6⟩
      clear hb6
      go_wp2_with fail
      refine (awake12_ok w w6 ok6).mono ?_
      rintro e w7 ⟨rfl, ok7, _⟩
      go_wp2_with fail
      go_ret
      exact ⟨rfl, ok7⟩
    · have hno : mayH nm k sz lk = false := by cases h : mayH nm k sz lk <;> simp_all
      have HNO := hide hno
      clear hmay hno
      go_enter Try.func4, Try.ntmps4
      go_wp2_with fail
      refine (lay_bad s t nm lk k sz w w (Ok.start w) HS.out HT.out hz HNO.out).mono ?_
      rintro e w1 ⟨rfl, ok1, _⟩
      go_wp2_with fail
      refine (rlay_bad s t nm lk k sz w w1 ok1 HS.out HT.out HSS.out HTS.out hz HNO.out).mono ?_
      rintro e w2 ⟨rfl, ok2, _⟩
      go_wp2_with fail
      refine (sameB_ok none none 0 0 0 0 [] [] true w w2 ok2 (ArgB.nil _) (ArgB.nil _) (by omega) (by simp)).mono ?_
      rintro e w3 ⟨rfl, ok3, _⟩
      go_wp2_with fail
      refine (overB_ok _ [] w.heap.size w3 (OwnB.nil _ _) (Ok.size ok3) (by simp)).mono ?_
      rintro e w4 ⟨rfl, hgr⟩
      have ok4 : Ok w w4 := ok3.trans ((OwnB.nil w.heap.size w3).grownBelow hgr (Ok.size ok3))
      clear hgr
      go_wp2_with fail
      refine (lay_bad s t nm lk k sz w w4 ok4 HS.out HT.out hz HNO.out).mono ?_
      rintro e w5 ⟨rfl, ok5, _⟩
      go_wp2_with fail
      refine (sameB_ok none none 0 0 0 0 [] [] true w w5 ok5 (ArgB.nil _) (ArgB.nil _) (by omega) (by simp)).mono ?_
      rintro e w6 ⟨rfl, ok6, _⟩
      go_wp2_with fail
      refine (awake12_ok w w6 ok6).mono ?_
      rintro e w7 ⟨rfl, ok7, _⟩
      go_wp2_with fail
      go_ret
      exact ⟨rfl, ok7⟩
end Go.Proofs.Ytddbcldgppgpgaa
