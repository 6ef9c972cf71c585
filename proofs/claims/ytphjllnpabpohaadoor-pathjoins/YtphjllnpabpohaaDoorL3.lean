/- The walk of the statement PathBack: for every text it answers true. -/
import Derived.Test.YtphjllnpabpohaaDoorOkw
namespace Go.Proofs.YtphjllnpabpohaaDoor
open Go.RowKit

set_option maxHeartbeats 400000 in
theorem back_long (p : ByteArray) (w : World) (hsh : w.ShapedOpen Tryd.prog) (h : (300 : Int) < (p.size : Int)) :
    Calls Tryd.prog 5 #[.string p] w fun e w' => e = .returned (.bool true) ∧ Below w.heap.size w w' := by
  have h0 : Ok w w := Ok.start hsh
  go_enter Tryd.func5, Tryd.ntmps5
  go_wp2_with fail
  refine (awake_ok w w h0).mono ?_
  rintro e w1 ⟨rfl, ok1, _⟩
  go_wp2_with fail
  go_ret
  exact ⟨rfl, ok1.2⟩

set_option maxHeartbeats 800000 in
theorem back_none (p : ByteArray) (w : World) (hsh : w.ShapedOpen Tryd.prog) (h : (p.size : Int) ≤ 300) (hm : Hid (Hog.mayL p.data.toList = false)) :
    Calls Tryd.prog 5 #[.string p] w fun e w' => e = .returned (.bool true) ∧ Below w.heap.size w w' := by
  have h0 : Ok w w := Ok.start hsh
  have hp : p.size < 999999 := by omega
  have hml := Hog.mk_toList
  have HS : Hid (Hog.splitL p.data.toList = []) := by show Hog.splitL p.data.toList = []; unfold Hog.splitL; rw [if_neg (by rw [hm.out]; decide)]
  have HB : Hid (Hog.baseL p.data.toList = []) := by show Hog.baseL p.data.toList = []; unfold Hog.baseL; rw [if_neg (by rw [hm.out]; decide)]
  have HO : Hid (Hog.parentOk p.data.toList = false) := by show Hog.parentOk p.data.toList = false; unfold Hog.parentOk; rw [hm.out, Bool.and_false]
  go_enter Tryd.func5, Tryd.ntmps5
  go_wp2_with fail
  refine (may_ok p false w w h0 hp hm.out).mono ?_
  rintro e w1 ⟨rfl, ok1, _⟩
  go_wp2_with fail
  refine (parent_ok p _ false w w1 ok1 hp rfl HO.out).mono ?_
  rintro e w2 ⟨rfl, ok2, _⟩
  go_wp2_with fail
  refine (split_ok p [] w w2 ok2 hp HS.out).mono ?_
  rintro e w3 ⟨a, c, rfl, _, ok3, _⟩
  go_wp2_with fail
  refine (base_ok p [] w w3 ok3 hp HB.out).mono ?_
  rintro e w4 ⟨rfl, ok4, _⟩
  go_wp2_with fail
  refine (under_ok p ⟨#[]⟩ false w w4 ok4 hp (by decide) (Hog.under_not hm.out)).mono ?_
  rintro e w5 ⟨rfl, ok5, _⟩
  go_wp2_with fail
  refine (under_ok p p false w w5 ok5 hp hp (Hog.under_not hm.out)).mono ?_
  rintro e w6 ⟨rfl, ok6, _⟩
  go_wp2_with fail
  refine (awake_ok w w6 ok6).mono ?_
  rintro e w7 ⟨rfl, ok7, _⟩
  go_wp2_with fail
  go_ret
  exact ⟨rfl, ok7.2⟩

theorem br_split : Hog.splitL (ByteArray.mk #[]).data.toList = [] := by decide +kernel
theorem br_join : joinV [] = [] := by decide +kernel
theorem br_ok : Hog.joinOk [] = true := by decide +kernel
theorem br_under : Hog.underL (ByteArray.mk #[]).data.toList (ByteArray.mk #[]).data.toList = true := by decide +kernel
theorem br_parent : Hog.parentL (ByteArray.mk #[]).data.toList = [] := by decide +kernel
theorem br_parentOk : Hog.parentOk (ByteArray.mk #[]).data.toList = false := by decide +kernel
theorem br_base : Hog.baseL (ByteArray.mk #[]).data.toList = [] := by decide +kernel

set_option maxHeartbeats 800000 in
theorem back_root (w : World) (hsh : w.ShapedOpen Tryd.prog) :
    Calls Tryd.prog 5 #[.string ⟨#[]⟩] w fun e w' => e = .returned (.bool true) ∧ Below w.heap.size w w' := by
  have h0 : Ok w w := Ok.start hsh
  have hml := Hog.mk_toList
  go_enter Tryd.func5, Tryd.ntmps5
  go_wp2_with fail
  refine (may_ok ⟨#[]⟩ true w w h0 (by decide) aw_may).mono ?_
  rintro e w1 ⟨rfl, ok1, _⟩
  go_wp2_with fail
  refine (split_ok ⟨#[]⟩ [] w w1 ok1 (by decide) br_split).mono ?_
  rintro e w2 ⟨a, c, rfl, ho, ok2, _⟩
  have HT : Hid (Txt w2 (.slice a 0 c) ([].map Hog.mk)) := ho.txt
  clear ho
  go_wp2_with fail
  refine (join_ok _ [] [] true w w2 ok2 HT.out (by decide) (by simp) br_join br_ok).mono ?_
  rintro e w3 ⟨rfl, ok3, _⟩
  go_wp2_with fail
  refine (under_ok ⟨#[]⟩ ⟨#[]⟩ true w w3 ok3 (by decide) (by decide) br_under).mono ?_
  rintro e w4 ⟨rfl, ok4, _⟩
  go_wp2_with fail
  refine (under_ok ⟨#[]⟩ ⟨#[]⟩ true w w4 ok4 (by decide) (by decide) br_under).mono ?_
  rintro e w5 ⟨rfl, ok5, _⟩
  go_wp2_with fail
  refine (parent_ok ⟨#[]⟩ [] false w w5 ok5 (by decide) br_parent br_parentOk).mono ?_
  rintro e w6 ⟨rfl, ok6, _⟩
  go_wp2_with fail
  refine (base_ok ⟨#[]⟩ [] w w6 ok6 (by decide) br_base).mono ?_
  rintro e w7 ⟨rfl, ok7, _⟩
  go_wp2_with fail
  refine (awake_ok w w7 ok7).mono ?_
  rintro e w8 ⟨rfl, ok8, _⟩
  go_wp2_with fail
  go_ret
  exact ⟨rfl, ok8.2⟩

/-- What stands at a path that is not the root. -/
theorem back_facts {p : List UInt8} (hp : p ≠ []) (hm : Hog.mayL p = true) :
    ∃ q x : List UInt8, Hog.parentL p = q ∧ Hog.parentOk p = true ∧ Hog.baseL p = x ∧ Hog.mayL q = true ∧ Hog.partL x = true ∧ Hog.splitL p = Hog.splitL q ++ [x] ∧ joinV (Hog.splitL p) = p ∧ Hog.joinOk (Hog.splitL p) = true ∧
      Hog.underL p q = true ∧ Hog.underL q p = false ∧ Hog.underL p p = true ∧ Hog.underL p [] = true ∧ q.length ≤ 200 ∧ x.length ≤ 60 ∧ (Hog.splitL q).length ≤ 10 ∧ ∀ y ∈ Hog.splitL p, y.length ≤ 60 := by
  obtain ⟨q, x, h1, h2, h3, h4, h5⟩ := Hog.back_parts hp hm
  have sp : Hog.splitL p = Hog.cutC p := by unfold Hog.splitL; rw [if_pos hm]
  have sq : Hog.splitL q = Hog.cutC q := by unfold Hog.splitL; rw [if_pos h3]
  have hj := Hog.joinOk_cut hm
  have hu := Hog.under_parent hm h3 (Hog.part_parts h4).1 h5
  refine ⟨q, x, h1, ?_, h2, h3, h4, by rw [sp, sq, h5], ?_, by rw [sp]; exact hj, hu.1, hu.2, Hog.under_self hm, Hog.under_root hm, (Hog.may_parts h3).1, (Hog.part_parts h4).2.1, by rw [sq]; exact (Hog.may_parts h3).2.1, ?_⟩
  · unfold Hog.parentOk; rw [hm]; simpa using hp
  · unfold joinV; rw [sp, if_pos hj, Hog.join_cutC]
  · intro y hy
    rw [sp] at hy
    exact (Hog.part_parts (List.all_eq_true.1 (Hog.may_parts hm).2.2 y hy)).2.1

set_option maxHeartbeats 2000000 in
theorem back_some (p : ByteArray) (w : World) (hsh : w.ShapedOpen Tryd.prog) (h : (p.size : Int) ≤ 300) (hm : Hid (Hog.mayL p.data.toList = true)) (hne : Hid (p.data.toList ≠ [])) :
    Calls Tryd.prog 5 #[.string p] w fun e w' => e = .returned (.bool true) ∧ Below w.heap.size w w' := by
  have h0 : Ok w w := Ok.start hsh
  have hp : p.size < 999999 := by omega
  have hml := Hog.mk_toList
  have hmp : ∀ s : ByteArray, Hog.mk s.data.toList = s := Hog.data_mk
  have hpe : p.toList.isEmpty = false := by rw [Lib.toList_data]; simpa using hne.out
  obtain ⟨q, x, e1, e2, e3, e4, e5, e6, e7, e8, e9, e10, e11, e12, hq, hx, hlq, hys⟩ := back_facts hne.out hm.out
  obtain ⟨lp, hlp⟩ : ∃ lp, lp = Hog.splitL p.data.toList := ⟨_, rfl⟩
  obtain ⟨lq, hlq'⟩ : ∃ lq, lq = Hog.splitL q := ⟨_, rfl⟩
  rw [← hlp] at e6 e7 e8 hys
  rw [← hlq'] at e6 hlq
  have E1 := hide e1; have E2 := hide e2; have E3 := hide e3; have E4 := hide e4; have E5 := hide e5; have E6 := hide e6; have E7 := hide e7; have E8 := hide e8
  have E9 := hide e9; have E10 := hide e10; have E11 := hide e11; have E12 := hide e12; have HP := hide hlp; have HQ := hide hlq'; have HY := hide hys
  clear e1 e2 e3 e4 e5 e6 e7 e8 e9 e10 e11 e12 hlp hlq' hys
  go_enter Tryd.func5, Tryd.ntmps5
  go_wp2_with fail
  refine (may_ok p true w w h0 hp hm.out).mono ?_
  rintro e w1 ⟨rfl, ok1, _⟩
  go_wp2_with fail
  refine (split_ok p lp w w1 ok1 hp HP.out.symm).mono ?_
  rintro e w2 ⟨a, c, rfl, ho, ok2, _⟩
  have HT := hide ho.txt
  clear ho
  go_wp2_with fail
  refine (join_ok _ lp p.data.toList true w w2 ok2 HT.out (by rw [E6.out]; simp; omega) (fun y hy => by have := HY.out y hy; omega) E7.out E8.out).mono ?_
  rintro e w3 ⟨rfl, ok3, _⟩
  go_wp2_with fail
  refine (under_ok p ⟨#[]⟩ true w w3 ok3 hp (by decide) E12.out).mono ?_
  rintro e w4 ⟨rfl, ok4, _⟩
  go_wp2_with fail
  refine (under_ok p p true w w4 ok4 hp hp E11.out).mono ?_
  rintro e w5 ⟨rfl, ok5, _⟩
  go_wp2_with fail
  refine (parent_ok p q true w w5 ok5 hp E1.out E2.out).mono ?_
  rintro e w6 ⟨rfl, ok6, _⟩
  go_wp2_with fail
  refine (split_ok (Hog.mk q) lq w w6 ok6 (by rw [Hog.mk_size]; omega) (by rw [Hog.mk_data]; exact HQ.out.symm)).mono ?_
  rintro e w7 ⟨a7, c7, rfl, ho7, ok7, _⟩
  have HO7 := hide (ho7.base ok6.size)
  clear ho7
  go_wp2_with fail
  refine (base_ok p x w w7 ok7 hp E3.out).mono ?_
  rintro e w8 ⟨rfl, ok8, hb8⟩
  have HO8 := hide ((HO7.out.below hb8).alloc (.cells #[.string (Hog.mk x)] 9))
  clear hb8
  obtain ⟨i0, hi, hz0, hz1, hz2⟩ := info_parts A9
  go_wp2_with (at_builtin; refine wpList_append_own _ rfl _ _ 23 rfl w.heap.size 9 i0 (.string ByteArray.empty) 1 16 Tryd.underlying23 hi hz0 hz1 hz2 rfl (by decide) _ _ _ rfl HO8.out ⟨w8.heap.size, 0, none⟩ 1 1 [.string (Hog.mk x)] rfl rfl ?c1 ?c2 ?c3 ?c4 ?c5 ?_)
  case c1 => exact cell_one_new _ _ _
  case c2 => intro u hu; simp at hu; subst hu; rfl
  case c3 => unfold maxLen; simp; omega
  case c4 => simp; omega
  case c5 => have := ok8.size; simp; omega
  intro v9 w9 hown9 hgrow9 _
  have ok9 : Ok w w9 := (ok8.alloc _).step (Own.grownBelow HO8.out hgrow9 (by have := ok8.size; simp; omega))
  have HT9 : Hid (Txt w9 v9 (lp.map Hog.mk)) := by
    have h9 : Own w.heap.size w9 v9 (lq.map Hog.mk ++ [Hog.mk x]) := Own.joined (xs := lq.map Hog.mk) (ys := [Hog.mk x]) (n := lq.length + 1) (by rw [List.map_map]; exact hown9)
    show Txt w9 v9 (lp.map Hog.mk)
    rw [E6.out, List.map_append]
    exact h9.txt
  clear hown9 hgrow9
  go_wp2_with fail
  refine (join_ok _ lp p.data.toList true w w9 ok9 HT9.out (by rw [E6.out]; simp; omega) (fun y hy => by have := HY.out y hy; omega) E7.out E8.out).mono ?_
  rintro e w10 ⟨rfl, ok10, _⟩
  go_wp2_with fail
  refine (may_ok (Hog.mk q) true w w10 ok10 (by rw [Hog.mk_size]; omega) (by rw [Hog.mk_data]; exact E4.out)).mono ?_
  rintro e w11 ⟨rfl, ok11, _⟩
  go_wp2_with fail
  refine (under_ok p (Hog.mk q) true w w11 ok11 hp (by rw [Hog.mk_size]; omega) (by rw [Hog.mk_data]; exact E9.out)).mono ?_
  rintro e w12 ⟨rfl, ok12, _⟩
  go_wp2_with fail
  refine (under_ok (Hog.mk q) p false w w12 ok12 (by rw [Hog.mk_size]; omega) hp (by rw [Hog.mk_data]; exact E10.out)).mono ?_
  rintro e w13 ⟨rfl, ok13, _⟩
  go_wp2_with fail
  refine (base_ok p x w w13 ok13 hp E3.out).mono ?_
  rintro e w14 ⟨rfl, ok14, _⟩
  go_wp2_with fail
  refine (part_ok x true w14 (by omega) E5.out).mono ?_
  rintro e w15 ⟨rfl, rfl⟩
  go_wp2_with fail
  refine (split_ok p lp w _ ok14 hp HP.out.symm).mono ?_
  rintro e w16 ⟨a16, c16, rfl, _, ok16, _⟩
  go_wp2_with fail
  refine (split_ok (Hog.mk q) lq w w16 ok16 (by rw [Hog.mk_size]; omega) (by rw [Hog.mk_data]; exact HQ.out.symm)).mono ?_
  rintro e w17 ⟨a17, c17, rfl, _, ok17, _⟩
  have hlen : ((lp.length : Int) == (lq.length : Int) + 1) = true := by rw [E6.out]; simp
  go_wp2_with fail
  refine (awake_ok w w17 ok17).mono ?_
  rintro e w18 ⟨rfl, ok18, _⟩
  go_wp2_with fail
  go_ret
  exact ⟨rfl, ok18.2⟩

theorem back_walk (p : ByteArray) (w : World) (hsh : w.ShapedOpen Tryd.prog) :
    Calls Tryd.prog 5 #[.string p] w fun e w' => e = .returned (.bool true) ∧ Below w.heap.size w w' := by
  by_cases h : (p.size : Int) ≤ 300
  · cases hm : Hog.mayL p.data.toList with
    | false => exact back_none p w hsh h hm
    | true =>
      by_cases hne : p.data.toList = []
      · have e : p = ⟨#[]⟩ := by rw [← Hog.data_mk p, hne]; rfl
        rw [e]
        exact back_root w hsh
      · exact back_some p w hsh h hm hne
  · exact back_long p w hsh (by omega)

end Go.Proofs.YtphjllnpabpohaaDoor
