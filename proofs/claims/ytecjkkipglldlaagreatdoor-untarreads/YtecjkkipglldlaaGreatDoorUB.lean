/- The document's own answer, chapter 13: Parts. -/
import Derived.Test.YtecjkkipglldlaaGreatDoorUA
namespace Go.Proofs.YtecjkkipglldlaaGreatDoor
open Go.RowKit

theorem results_tmp4 {fn : Func} {t1 t2 t3 t4 : Tmp} (h : fn.results = #[.tmp t1, .tmp t2, .tmp t3, .tmp t4]) (tmps : Array Value) (P : Program) (w : World) :
    (results fn tmps).run P w = .ok (.tuple #[tmps.getD t1 undef, tmps.getD t2 undef, tmps.getD t3 undef, tmps.getD t4 undef]) w := by
  simp [results, h]
theorem ret_four {a b c d e : ByteArray} (h : d = e) : Ending.returned (.tuple #[.string a, .string b, .string c, .string d]) = .returned (.tuple #[.string a, .string b, .string c, .string e]) := by rw [h]
theorem recsE_of {x : Nd} {z z1 z2 ln ll : List UInt8} (hz : Hog.recsE (Hog.entE x) = z) (hn : (Hog.entE x).name = ln) (hl : (Hog.entE x).link = ll) (h1 : Hog.oneR Hog.pathK ln = z1) (h2 : Hog.oneR Hog.linkK ll = z2) : z1 ++ z2 = z := by
  rw [← hz, ← h1, ← h2]; unfold Hog.recsE; rw [hn, hl]
set_option maxRecDepth 100000 in
set_option maxHeartbeats 8000000 in
theorem rparts_ok (x : Nd) (s t d : ByteArray) (z : List UInt8) (w : World) (hs : (if x.1.data.toList = [] then ⟨#[46]⟩ else x.1) = s) (ht : (if x.2.1 = 4 then x.2.2 else ⟨#[]⟩) = t) (hd : (if x.2.1 = 4 then ⟨#[]⟩ else x.2.2) = d) (hf : Hog.Fits (Hog.entE x)) (hz : Hog.recsE (Hog.entE x) = z) :
    Calls Tryz.prog 35 #[.agg #[.string x.1, .int .i64 x.2.1, .string x.2.2]] w fun e w' => e = .returned (.tuple #[.string s, .string t, .string d, .string (Hog.mk z)]) ∧ Below w.heap.size w w' := by
  have hsn := entE_name x s hs
  have htn := entE_link x t ht
  have hn5 := hf.name
  have hl5 := hf.link
  obtain ⟨p, k, c⟩ := x
  simp only at hs ht hd ⊢
  obtain ⟨V, hV⟩ : ∃ V, V = w.alloc (.cells #[.string p, .int .i64 k, .string c] 38) := ⟨_, rfl⟩
  have hbV : Below w.heap.size w V := by rw [hV]; exact below_box _ _
  have c0 : V.cell? ⟨w.heap.size, 0, none⟩ = some (.string p) := by rw [hV]; simp
  have c1 : V.cell? ⟨w.heap.size, 1, none⟩ = some (.int .i64 k) := by rw [hV]; simp
  have c2 : V.cell? ⟨w.heap.size, 2, none⟩ = some (.string c) := by rw [hV]; simp
  have HV := hide hV.symm
  have HBV := hide hbV
  clear hV hbV
  have hss : s.size = (Hog.entE (p, k, c)).name.length := by rw [← hsn, Hog.size_len]
  have hts : t.size = (Hog.entE (p, k, c)).link.length := by rw [← htn, Hog.size_len]
  obtain ⟨z1, hz1⟩ : ∃ z1, Hog.oneR Hog.pathK (Hog.entE (p, k, c)).name = z1 := ⟨_, rfl⟩
  obtain ⟨z2, hz2⟩ : ∃ z2, Hog.oneR Hog.linkK (Hog.entE (p, k, c)).link = z2 := ⟨_, rfl⟩
  have HZZ := hide (recsE_of hz rfl rfl hz1 hz2)
  have HS := hide hsn
  have HT := hide htn
  have q1 : (Hog.mk z1).size ≤ 600 := oneR_small (by decide) (by omega) hz1
  have q2 : (Hog.mk z2).size ≤ 600 := oneR_small (by decide) hl5 hz2
  have hss5 : s.size ≤ 300 := by omega
  have hts5 : t.size ≤ 500 := by omega
  clear hf hz hsn htn hn5 hl5
  by_cases h1 : p.data.toList = []
  · have n1 := nil_yes (s := p) rfl h1
    rw [if_pos h1] at hs
    subst hs
    clear h1
    have hn0 : (⟨#[46]⟩ : ByteArray).size = 1 := rfl
    rw [hn0] at hss hss5
    by_cases h4 : k = 4
    · have k4 : (k == 4) = true := by rw [beq_iff_eq]; exact h4
      rw [if_pos h4] at ht hd
      subst ht hd
      clear h4
      by_cases hl : c.size ≤ 100
      · have l1 : ¬ ((c.size : Int) > 100) := by omega
        have HE : Hid (⟨#[]⟩ = Hog.mk z) := by
          have e1 : z1 = [] := by rw [← hz1, long_none (by omega)]
          have e2 : z2 = [] := by rw [← hz2, long_none (by omega)]
          rw [← HZZ.out, e1, e2]; exact hide rfl
        clear hz1 hz2 hss hts
        go_enter Tryz.func35, Tryz.ntmps35
        go_wp2_with fail
        rw [HV.out]
        go_quiet (fail)
        go_wp2_with fail
        (try simp only [Exit.inBlock, Exit.then]); refine bodyPost_ret (results_tmp4 rfl _ _ _) rfl ?_
        exact ⟨ret_four HE.out, below_drewN HBV.out nq⟩
      · have l1 : (c.size : Int) > 100 := by omega
        have HE : Hid (⟨#[]⟩ ++ Hog.mk z2 = Hog.mk z) := by
          have e1 : z1 = [] := by rw [← hz1, long_none (by omega)]
          rw [← HZZ.out, e1, List.nil_append, show (⟨#[]⟩ : ByteArray) = Hog.mk [] by rfl, mk_join, List.nil_append]; exact hide rfl
        have HC2 : Hid (∀ W : World, Calls Tryz.prog 53 #[.string ⟨#[108, 105, 110, 107, 112, 97, 116, 104]⟩, .string c] W fun e w' => e = .returned (.string (Hog.mk z2)) ∧ w' = W) := hide (fun W => rrec_ok ⟨#[108, 105, 110, 107, 112, 97, 116, 104]⟩ _ Hog.linkK _ z2 W rfl HT.out (by rw [show (⟨#[108, 105, 110, 107, 112, 97, 116, 104]⟩ : ByteArray).size = 8 by rfl]; omega) (by rw [← hz2, long_some (by omega)]))
        clear hz1 hz2 hss hts
        go_enter Tryz.func35, Tryz.ntmps35
        go_wp2_with fail
        rw [HV.out]
        go_quiet (fail)
        go_wp2_with fail
        refine (show Calls _ _ _ _ _ from HC2.out _).mono ?_
        rintro e _ ⟨rfl, rfl⟩
        go_wp2_with fail
        (try simp only [Exit.inBlock, Exit.then]); refine bodyPost_ret (results_tmp4 rfl _ _ _) rfl ?_
        exact ⟨ret_four HE.out, below_drewN HBV.out nq⟩
    · have k4 : (k == 4) = false := by rw [beq_eq_false_iff_ne]; exact h4
      rw [if_neg h4] at ht hd
      subst ht hd
      clear h4
      have hl0 : (⟨#[]⟩ : ByteArray).size = 0 := rfl
      rw [hl0] at hts
      have HE : Hid (⟨#[]⟩ = Hog.mk z) := by
        have e1 : z1 = [] := by rw [← hz1, long_none (by omega)]
        have e2 : z2 = [] := by rw [← hz2, long_none (by omega)]
        rw [← HZZ.out, e1, e2]; exact hide rfl
      clear hz1 hz2 hss hts
      go_enter Tryz.func35, Tryz.ntmps35
      go_wp2_with fail
      rw [HV.out]
      go_quiet (fail)
      go_wp2_with fail
      (try simp only [Exit.inBlock, Exit.then]); refine bodyPost_ret (results_tmp4 rfl _ _ _) rfl ?_
      exact ⟨ret_four HE.out, below_drewN HBV.out nq⟩
  · have n1 := nil_no (s := p) rfl h1
    rw [if_neg h1] at hs
    subst hs
    clear h1
    by_cases hn : p.size ≤ 100
    · have m1 : ¬ ((p.size : Int) > 100) := by omega
      by_cases h4 : k = 4
      · have k4 : (k == 4) = true := by rw [beq_iff_eq]; exact h4
        rw [if_pos h4] at ht hd
        subst ht hd
        clear h4
        by_cases hl : c.size ≤ 100
        · have l1 : ¬ ((c.size : Int) > 100) := by omega
          have HE : Hid (⟨#[]⟩ = Hog.mk z) := by
            have e1 : z1 = [] := by rw [← hz1, long_none (by omega)]
            have e2 : z2 = [] := by rw [← hz2, long_none (by omega)]
            rw [← HZZ.out, e1, e2]; exact hide rfl
          clear hz1 hz2 hss hts
          go_enter Tryz.func35, Tryz.ntmps35
          go_wp2_with fail
          rw [HV.out]
          go_quiet (fail)
          go_wp2_with fail
          (try simp only [Exit.inBlock, Exit.then]); refine bodyPost_ret (results_tmp4 rfl _ _ _) rfl ?_
          exact ⟨ret_four HE.out, below_drewN HBV.out nq⟩
        · have l1 : (c.size : Int) > 100 := by omega
          have HE : Hid (⟨#[]⟩ ++ Hog.mk z2 = Hog.mk z) := by
            have e1 : z1 = [] := by rw [← hz1, long_none (by omega)]
            rw [← HZZ.out, e1, List.nil_append, show (⟨#[]⟩ : ByteArray) = Hog.mk [] by rfl, mk_join, List.nil_append]; exact hide rfl
          have HC2 : Hid (∀ W : World, Calls Tryz.prog 53 #[.string ⟨#[108, 105, 110, 107, 112, 97, 116, 104]⟩, .string c] W fun e w' => e = .returned (.string (Hog.mk z2)) ∧ w' = W) := hide (fun W => rrec_ok ⟨#[108, 105, 110, 107, 112, 97, 116, 104]⟩ _ Hog.linkK _ z2 W rfl HT.out (by rw [show (⟨#[108, 105, 110, 107, 112, 97, 116, 104]⟩ : ByteArray).size = 8 by rfl]; omega) (by rw [← hz2, long_some (by omega)]))
          clear hz1 hz2 hss hts
          go_enter Tryz.func35, Tryz.ntmps35
          go_wp2_with fail
          rw [HV.out]
          go_quiet (fail)
          go_wp2_with fail
          refine (show Calls _ _ _ _ _ from HC2.out _).mono ?_
          rintro e _ ⟨rfl, rfl⟩
          go_wp2_with fail
          (try simp only [Exit.inBlock, Exit.then]); refine bodyPost_ret (results_tmp4 rfl _ _ _) rfl ?_
          exact ⟨ret_four HE.out, below_drewN HBV.out nq⟩
      · have k4 : (k == 4) = false := by rw [beq_eq_false_iff_ne]; exact h4
        rw [if_neg h4] at ht hd
        subst ht hd
        clear h4
        have hl0 : (⟨#[]⟩ : ByteArray).size = 0 := rfl
        rw [hl0] at hts
        have HE : Hid (⟨#[]⟩ = Hog.mk z) := by
          have e1 : z1 = [] := by rw [← hz1, long_none (by omega)]
          have e2 : z2 = [] := by rw [← hz2, long_none (by omega)]
          rw [← HZZ.out, e1, e2]; exact hide rfl
        clear hz1 hz2 hss hts
        go_enter Tryz.func35, Tryz.ntmps35
        go_wp2_with fail
        rw [HV.out]
        go_quiet (fail)
        go_wp2_with fail
        (try simp only [Exit.inBlock, Exit.then]); refine bodyPost_ret (results_tmp4 rfl _ _ _) rfl ?_
        exact ⟨ret_four HE.out, below_drewN HBV.out nq⟩
    · have m1 : (p.size : Int) > 100 := by omega
      by_cases h4 : k = 4
      · have k4 : (k == 4) = true := by rw [beq_iff_eq]; exact h4
        rw [if_pos h4] at ht hd
        subst ht hd
        clear h4
        by_cases hl : c.size ≤ 100
        · have l1 : ¬ ((c.size : Int) > 100) := by omega
          have HE : Hid (Hog.mk z1 = Hog.mk z) := by
            have e1 : Hog.recL Hog.pathK (Hog.entE (p, k, c)).name = z1 := by rw [← hz1, long_some (by omega)]
            have e2 : z2 = [] := by rw [← hz2, long_none (by omega)]
            rw [← HZZ.out, e2, List.append_nil]; exact hide rfl
          have HC1 : Hid (∀ W : World, Calls Tryz.prog 53 #[.string ⟨#[112, 97, 116, 104]⟩, .string p] W fun e w' => e = .returned (.string (Hog.mk z1)) ∧ w' = W) := hide (fun W => rrec_ok ⟨#[112, 97, 116, 104]⟩ _ Hog.pathK _ z1 W rfl HS.out (by rw [show (⟨#[112, 97, 116, 104]⟩ : ByteArray).size = 4 by rfl]; omega) (by rw [← hz1, long_some (by omega)]))
          clear hz1 hz2 hss hts
          go_enter Tryz.func35, Tryz.ntmps35
          go_wp2_with fail
          rw [HV.out]
          go_quiet (fail)
          go_wp2_with fail
          refine (show Calls _ _ _ _ _ from HC1.out _).mono ?_
          rintro e _ ⟨rfl, rfl⟩
          go_wp2_with fail
          (try simp only [Exit.inBlock, Exit.then]); refine bodyPost_ret (results_tmp4 rfl _ _ _) rfl ?_
          exact ⟨ret_four HE.out, below_drewN HBV.out nq⟩
        · have l1 : (c.size : Int) > 100 := by omega
          have HE : Hid (Hog.mk z1 ++ Hog.mk z2 = Hog.mk z) := by
            have e1 : Hog.recL Hog.pathK (Hog.entE (p, k, c)).name = z1 := by rw [← hz1, long_some (by omega)]
            rw [mk_join, HZZ.out]; exact hide rfl
          have HC1 : Hid (∀ W : World, Calls Tryz.prog 53 #[.string ⟨#[112, 97, 116, 104]⟩, .string p] W fun e w' => e = .returned (.string (Hog.mk z1)) ∧ w' = W) := hide (fun W => rrec_ok ⟨#[112, 97, 116, 104]⟩ _ Hog.pathK _ z1 W rfl HS.out (by rw [show (⟨#[112, 97, 116, 104]⟩ : ByteArray).size = 4 by rfl]; omega) (by rw [← hz1, long_some (by omega)]))
          have HC2 : Hid (∀ W : World, Calls Tryz.prog 53 #[.string ⟨#[108, 105, 110, 107, 112, 97, 116, 104]⟩, .string c] W fun e w' => e = .returned (.string (Hog.mk z2)) ∧ w' = W) := hide (fun W => rrec_ok ⟨#[108, 105, 110, 107, 112, 97, 116, 104]⟩ _ Hog.linkK _ z2 W rfl HT.out (by rw [show (⟨#[108, 105, 110, 107, 112, 97, 116, 104]⟩ : ByteArray).size = 8 by rfl]; omega) (by rw [← hz2, long_some (by omega)]))
          clear hz1 hz2 hss hts
          go_enter Tryz.func35, Tryz.ntmps35
          go_wp2_with fail
          rw [HV.out]
          go_quiet (fail)
          go_wp2_with fail
          refine (show Calls _ _ _ _ _ from HC1.out _).mono ?_
          rintro e _ ⟨rfl, rfl⟩
          go_wp2_with fail
          refine (show Calls _ _ _ _ _ from HC2.out _).mono ?_
          rintro e _ ⟨rfl, rfl⟩
          go_wp2_with fail
          (try simp only [Exit.inBlock, Exit.then]); refine bodyPost_ret (results_tmp4 rfl _ _ _) rfl ?_
          exact ⟨ret_four HE.out, below_drewN HBV.out nq⟩
      · have k4 : (k == 4) = false := by rw [beq_eq_false_iff_ne]; exact h4
        rw [if_neg h4] at ht hd
        subst ht hd
        clear h4
        have hl0 : (⟨#[]⟩ : ByteArray).size = 0 := rfl
        rw [hl0] at hts
        have HE : Hid (Hog.mk z1 = Hog.mk z) := by
          have e1 : Hog.recL Hog.pathK (Hog.entE (p, k, c)).name = z1 := by rw [← hz1, long_some (by omega)]
          have e2 : z2 = [] := by rw [← hz2, long_none (by omega)]
          rw [← HZZ.out, e2, List.append_nil]; exact hide rfl
        have HC1 : Hid (∀ W : World, Calls Tryz.prog 53 #[.string ⟨#[112, 97, 116, 104]⟩, .string p] W fun e w' => e = .returned (.string (Hog.mk z1)) ∧ w' = W) := hide (fun W => rrec_ok ⟨#[112, 97, 116, 104]⟩ _ Hog.pathK _ z1 W rfl HS.out (by rw [show (⟨#[112, 97, 116, 104]⟩ : ByteArray).size = 4 by rfl]; omega) (by rw [← hz1, long_some (by omega)]))
        clear hz1 hz2 hss hts
        go_enter Tryz.func35, Tryz.ntmps35
        go_wp2_with fail
        rw [HV.out]
        go_quiet (fail)
        go_wp2_with fail
        refine (show Calls _ _ _ _ _ from HC1.out _).mono ?_
        rintro e _ ⟨rfl, rfl⟩
        go_wp2_with fail
        (try simp only [Exit.inBlock, Exit.then]); refine bodyPost_ret (results_tmp4 rfl _ _ _) rfl ?_
        exact ⟨ret_four HE.out, below_drewN HBV.out nq⟩
end Go.Proofs.YtecjkkipglldlaaGreatDoor
