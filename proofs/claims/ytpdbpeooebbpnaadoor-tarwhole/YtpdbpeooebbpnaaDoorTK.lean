/- The walk of TarSizes. -/
import Derived.Test.YtpdbpeooebbpnaaDoorTI
import Derived.Test.YtpdbpeooebbpnaaDoorPlainQ
import Derived.Test.YtpdbpeooebbpnaaDoorJ3
namespace Go.Proofs.YtpdbpeooebbpnaaDoor
open Go.RowKit

theorem short_of {t : List Nd} {m : Int} (hm : m ≤ 1000) (h : greatN m t = false) : ShortT t := by
  obtain ⟨h1, h2⟩ := greatN_not h
  exact ⟨by omega, fun n hn => by have := h2 n hn; omega⟩
theorem tdiv512 (n : Nat) : Int.tdiv ((n : Int) + 511) 512 = (((n + 511) / 512 : Nat) : Int) := by rw [Int.tdiv_eq_ediv_of_nonneg (by omega)]; omega

set_option maxRecDepth 100000 in
set_option maxHeartbeats 8000000 in
theorem tsizes_walk (ao : Option Addr) (n c : Nat) (t : List Nd) (w : World) (hsh : w.ShapedOpen Tryd.prog) (hp : Pow w) (ha : ArgN w ao n c t) (hn : n ≤ maxLen) :
    Calls Tryd.prog 5 #[.slice ao n c] w fun e w' => e = .returned (.bool true) ∧ Below w.heap.size w w' := by
  have ok := Ok.start hsh
  have HP := hide hp
  have HND := hide ha.nods
  have HL := hide ha.len
  have hn' : t.length ≤ maxLen := by rw [ha.len]; exact hn
  obtain ⟨y, hy⟩ : ∃ y, greatN 60 t = y := ⟨_, rfl⟩
  have HY := hide hy
  clear ha hy hsh hp
  go_enter Tryd.func5, Tryd.ntmps5
  go_wp2_with fail
  refine (greatN_ok _ 60 t y w HND.out hn' (by decide) (by decide) HY.out).mono ?_
  rintro e w1 ⟨rfl, rfl⟩
  cases y with
  | true =>
    go_wp2_with fail
    refine (awake13_ok w1 w1 HP.out ok).mono ?_
    rintro e w2 ⟨rfl, ok2, hb2⟩
    go_wp2
    go_ret
    exact ⟨rfl, hb2⟩
  | false =>
    have HS := hide (short_of (by decide) HY.out)
    obtain ⟨x, hx⟩ : ∃ x, mayN t = x := ⟨_, rfl⟩
    have HX := hide hx
    clear hx
    cases x with
    | false =>
      go_wp2_with fail
      refine (mayT_ok _ t false w1 w1 ok HS.out.path HND.out (by have := HS.out.1; omega) HX.out).mono ?_
      rintro e w2 ⟨rfl, ok2, hb2⟩
      go_wp2_with fail
      refine (awake13_ok w1 w2 HP.out ok2).mono ?_
      rintro e w3 ⟨rfl, ok3, hb3⟩
      have HB3 := hide (below_two hb2 hb3)
      clear hb2 hb3
      go_wp2
      go_ret
      exact ⟨rfl, HB3.out⟩
    | true =>
      obtain ⟨z, hz⟩ : ∃ z, Hog.tarL t = z := ⟨_, rfl⟩
      obtain ⟨m, hm⟩ : ∃ m, z.length = m := ⟨_, rfl⟩
      have HZ := hide hz
      have HM := hide hm
      have HMT : Hid (m = (Hog.treeT t).length + 1024) := by rw [← hm, ← hz]; unfold Hog.tarL; rw [List.length_append, Hog.zeros_len]; exact hide rfl
      have HG := hide (Hog.tree_node HX.out)
      clear hz hm
      have hn60 : n ≤ 60 := by have := (greatN_not HY.out).1; have := HL.out; omega
      rcases id HND.out with ⟨e, _⟩ | ⟨b, o, c', e, hcc, hr⟩
      · exact absurd e (tree_ne HX.out)
      obtain ⟨rfl, hnt, rfl⟩ : ao = some ⟨b, o, none⟩ ∧ n = t.length ∧ c = c' := by simpa using e
      have HR := hide hr
      clear e hcc hr hnt
      go_wp2_with fail
      refine (mayT_ok _ t true w1 w1 ok HS.out.path HND.out (by have := HS.out.1; omega) HX.out).mono ?_
      rintro e w2 ⟨rfl, ok2, hb2⟩
      have HR2 := hide (HR.out.below hb2 HR.out.1)
      have HB2 := hide hb2
      clear hb2
      go_wp2
      go_loopw [3, 4, 5] (fun h v i wr => ∃ (k p q : Nat), k ≤ n ∧ p ≤ 2 * k ∧ q ≤ 10 * k + 2 ∧ i = .int .i64 k ∧ h = .int .i64 p ∧ v = .int .i64 q ∧ Hid (p = Hog.countT (t.take k)) ∧ Hid (512 * (p + q) = (Hog.treeT (t.take k)).length + 1024) ∧ Below w2.heap.size w2 wr) (fun _ _ i _ => n - (intOf i).toNat)
      case atStart => exact ⟨0, 0, 2, by omega, by omega, by omega, rfl, rfl, rfl, by simp [Hid, Hog.countT], by simp [Hid, Hog.treeT], Below.refl _ _⟩
      case round =>
        obtain ⟨k, p, q, hk, hpk, hqk, rfl, rfl, rfl, HPK, HQK, hbl⟩ := hrel
        by_cases hlt : k < n
        · obtain ⟨x, hx⟩ : ∃ x, t[k]? = some x := ⟨t[k]'(by have := HL.out; omega), List.getElem?_eq_some_iff.2 ⟨_, rfl⟩⟩
          obtain ⟨g1, g2, g3⟩ := (HR2.out.2 k x hx).below hbl HR2.out.1
          have hki : (k : Int) < (n : Int) := by omega
          have HCS := hide (Hog.countT_step hx)
          have HTS := hide (Hog.treeT_step hx)
          have HXG := hide (HG.out x (List.mem_of_getElem? hx))
          have hds : x.2.2.size ≤ 400 := by rw [Hog.size_len]; exact HXG.out.data
          have hps : x.1.size ≤ 200 := by rw [Hog.size_len]; exact HXG.out.path
          have HBW := hide hbl
          clear hx hbl
          by_cases k4 : x.2.1 = 4
          · have d4 : (x.2.1 == 4) = true := by rw [beq_iff_eq]; exact k4
            have HOB : Hid (Hog.ownB x = 0) := by unfold Hog.ownB; rw [if_pos k4]; exact hide rfl
            by_cases h1 : x.1.size ≤ 100
            · have c1 : ¬ ((x.1.size : Int) > 100) := by omega
              by_cases h2 : x.2.2.size ≤ 100
              · have c2 : ¬ ((x.2.2.size : Int) > 100) := by omega
                have HNS := hide (Hog.node_short HXG.out h1 (fun _ => h2))
                clear k4
                go_wp2
                go_quiet (fail)
                go_wp2
                go_roundw
                case rel =>
                  refine ⟨k + 1, p + 1, q + (0), by omega, by omega, by omega, by go_num, by go_num, by go_num, ?_, ?_, below_drewN HBW.out nq⟩
                  · rw [HCS.out, ← HPK.out, HNS.out.1]; exact hide rfl
                  · rw [HTS.out, List.length_append, HNS.out.2, HOB.out]; have := HQK.out; refine hide ?_; omega
                case measure => simp [intOf]; omega
              · have c2 : (x.2.2.size : Int) > 100 := by omega
                have c1' : decide ((100 : Int) < (x.1.size : Int)) = false := by rw [decide_eq_false_iff_not]; omega
                have HNS := hide (Hog.node_link HXG.out k4 h1 (by omega))
                clear k4
                go_wp2
                go_quiet (fail)
                go_wp2
                go_roundw
                case rel =>
                  refine ⟨k + 1, p + 2, q + (1), by omega, by omega, by omega, by go_num, by go_num, by go_num, ?_, ?_, below_drewN HBW.out nq⟩
                  · rw [HCS.out, ← HPK.out, HNS.out.1]; exact hide rfl
                  · rw [HTS.out, List.length_append, HNS.out.2]; have := HQK.out; refine hide ?_; omega
                case measure => simp [intOf]; omega
            · have c1 : (x.1.size : Int) > 100 := by omega
              have h1b : 100 < x.1.size := by omega
              obtain ⟨z1, hz1⟩ : ∃ z, Hog.recL Hog.pathK x.1.data.toList = z := ⟨_, rfl⟩
              obtain ⟨z2, hz2⟩ : ∃ z, Hog.recL Hog.linkK x.2.2.data.toList = z := ⟨_, rfl⟩
              obtain ⟨s1, hs1⟩ : ∃ s, Hog.mk z1 = s := ⟨_, rfl⟩
              obtain ⟨s2, hs2⟩ : ∃ s, Hog.mk z2 = s := ⟨_, rfl⟩
              have hl1 : s1.size = z1.length := by rw [← hs1, Hog.mk_size]
              have hl2 : s2.size = z2.length := by rw [← hs2, Hog.mk_size]
              have hb1 : s1.size ≤ x.1.size + 16 := by rw [hl1, ← hz1, Hog.size_len]; exact Hog.rec_small (by decide) (by rw [← Hog.size_len]; omega)
              have hb2 : s2.size ≤ x.2.2.size + 16 := by rw [hl2, ← hz2, Hog.size_len]; exact Hog.rec_small (by decide) (by rw [← Hog.size_len]; omega)
              have hwr := HBW.out.size
              have hbr : b < wr.heap.size := Nat.lt_of_lt_of_le HR2.out.1 hwr
              have f1 : ∀ p : Later wr, p.w1.cell? ⟨b, o + k * 3, none⟩ = some (.string x.1) := fun p => p.cell hbr g1
              have f2 : ∀ p : Later wr, p.w1.cell? ⟨b, o + k * 3 + 1, none⟩ = some (.int .i64 x.2.1) := fun p => p.cell hbr g2
              have f3 : ∀ p : Later wr, p.w1.cell? ⟨b, o + k * 3 + 2, none⟩ = some (.string x.2.2) := fun p => p.cell hbr g3
              have HC1 : Hid (∀ p : Later wr, Calls Tryd.prog 7 #[.string ⟨#[112, 97, 116, 104]⟩, .string x.1] p.w1 fun e w' => e = .returned (.string s1) ∧ Below p.w1.heap.size p.w1 w') := by
                intro p
                refine (recordR_ok ⟨#[112, 97, 116, 104]⟩ x.1 Hog.pathK _ z1 w1 p.w1 HP.out ((ok2.next HBW.out).next p.below) rfl rfl (by rw [show (⟨#[112, 97, 116, 104]⟩ : ByteArray).size = 4 by rfl]; omega) hz1).mono ?_
                rintro e w' ⟨q1, _, q2⟩
                exact ⟨by rw [q1, hs1], q2⟩
              have HC2 : Hid (∀ p : Later wr, Calls Tryd.prog 7 #[.string ⟨#[108, 105, 110, 107, 112, 97, 116, 104]⟩, .string x.2.2] p.w1 fun e w' => e = .returned (.string s2) ∧ Below p.w1.heap.size p.w1 w') := by
                intro p
                refine (recordR_ok ⟨#[108, 105, 110, 107, 112, 97, 116, 104]⟩ x.2.2 Hog.linkK _ z2 w1 p.w1 HP.out ((ok2.next HBW.out).next p.below) rfl rfl (by rw [show (⟨#[108, 105, 110, 107, 112, 97, 116, 104]⟩ : ByteArray).size = 8 by rfl]; omega) hz2).mono ?_
                rintro e w' ⟨q1, _, q2⟩
                exact ⟨by rw [q1, hs2], q2⟩
              have hne := later_one wr
              have HZ1 : Hid ((Hog.recL Hog.pathK x.1.data.toList).length = s1.size) := by rw [hl1, hz1]; exact hide rfl
              have HZ2 : Hid ((Hog.recL Hog.linkK x.2.2.data.toList).length = s2.size) := by rw [hl2, hz2]; exact hide rfl
              clear hz1 hz2 hs1 hs2 hl1 hl2 hwr h1
              by_cases h2 : x.2.2.size ≤ 100
              · have dS : decide ((512 : Int) < (s1.size : Int) + (s2.size : Int)) = false := by rw [decide_eq_false_iff_not]; omega
                have HNS := hide (Hog.node_name HXG.out h1b (fun _ => h2))
                clear k4 h1b
                go_wp2
                refine wp_region_later (by kernel_rfl) (by kernel_rfl) ?_
                repeat (first
                  | go_big_quiet_step ((first
                    | (go_at_call 7; with_reducible exact Calls.later_of (HC1.out _))
                    | (go_at_call 7; with_reducible exact Calls.later_of (HC2.out _))))
                  | quiet_step ((first
                    | (go_at_call 7; with_reducible exact Calls.later_of (HC1.out _))
                    | (go_at_call 7; with_reducible exact Calls.later_of (HC2.out _)))))
                refine wpQuiet_nil ?_
                intro wq hw'
                have HBQ := hide (later_to hw')
                clear hw' hne HC1 HC2 f1 f2 f3
                go_wp2
                go_roundw
                case rel =>
                  refine ⟨k + 1, p + 2, q + (1), by omega, by omega, by omega, by go_num, by go_num, by go_num, ?_, ?_, below_two HBW.out HBQ.out⟩
                  · rw [HCS.out, ← HPK.out, HNS.out.1]; exact hide rfl
                  · rw [HTS.out, List.length_append, HNS.out.2, HOB.out]; have := HQK.out; refine hide ?_; omega
                case measure => simp [intOf]; omega
              · have HNB := hide (Hog.node_both HXG.out k4 h1b (by omega) _ _ HZ1.out HZ2.out)
                have c2 : decide ((100 : Int) < (x.2.2.size : Int)) = true := by rw [decide_eq_true_eq]; omega
                clear k4 h1b
                by_cases h5 : 512 < s1.size + s2.size
                · have dS : decide ((512 : Int) < (s1.size : Int) + (s2.size : Int)) = true := by rw [decide_eq_true_eq]; omega
                  have HNS := HNB.out
                  rw [if_pos h5] at HNS
                  have HNS := hide HNS
                  go_wp2
                  refine wp_region_later (by kernel_rfl) (by kernel_rfl) ?_
                  repeat (first
                    | go_big_quiet_step ((first
                      | (go_at_call 7; with_reducible exact Calls.later_of (HC1.out _))
                      | (go_at_call 7; with_reducible exact Calls.later_of (HC2.out _))))
                    | quiet_step ((first
                      | (go_at_call 7; with_reducible exact Calls.later_of (HC1.out _))
                      | (go_at_call 7; with_reducible exact Calls.later_of (HC2.out _)))))
                  refine wpQuiet_nil ?_
                  intro wq hw'
                  have HBQ := hide (later_to hw')
                  clear hw' hne HC1 HC2 f1 f2 f3
                  go_wp2
                  go_roundw
                  case rel =>
                    refine ⟨k + 1, p + 2, q + (2), by omega, by omega, by omega, by go_num, by go_num, by go_num, ?_, ?_, below_two HBW.out HBQ.out⟩
                    · rw [HCS.out, ← HPK.out, HNS.out.1]; exact hide rfl
                    · rw [HTS.out, List.length_append, HNS.out.2]; have := HQK.out; refine hide ?_; omega
                  case measure => simp [intOf]; omega
                · have dS : decide ((512 : Int) < (s1.size : Int) + (s2.size : Int)) = false := by rw [decide_eq_false_iff_not]; omega
                  have HNS := HNB.out
                  rw [if_neg h5] at HNS
                  have HNS := hide HNS
                  go_wp2
                  refine wp_region_later (by kernel_rfl) (by kernel_rfl) ?_
                  repeat (first
                    | go_big_quiet_step ((first
                      | (go_at_call 7; with_reducible exact Calls.later_of (HC1.out _))
                      | (go_at_call 7; with_reducible exact Calls.later_of (HC2.out _))))
                    | quiet_step ((first
                      | (go_at_call 7; with_reducible exact Calls.later_of (HC1.out _))
                      | (go_at_call 7; with_reducible exact Calls.later_of (HC2.out _)))))
                  refine wpQuiet_nil ?_
                  intro wq hw'
                  have HBQ := hide (later_to hw')
                  clear hw' hne HC1 HC2 f1 f2 f3
                  go_wp2
                  go_roundw
                  case rel =>
                    refine ⟨k + 1, p + 2, q + (1), by omega, by omega, by omega, by go_num, by go_num, by go_num, ?_, ?_, below_two HBW.out HBQ.out⟩
                    · rw [HCS.out, ← HPK.out, HNS.out.1]; exact hide rfl
                    · rw [HTS.out, List.length_append, HNS.out.2]; have := HQK.out; refine hide ?_; omega
                  case measure => simp [intOf]; omega
          · have d4 : (x.2.1 == 4) = false := by rw [beq_eq_false_iff_ne]; exact k4
            have hdv := tdiv512 x.2.2.size
            have HOB : Hid (Hog.ownB x = (x.2.2.size + 511) / 512) := by unfold Hog.ownB; rw [if_neg k4]; exact hide rfl
            by_cases h1 : x.1.size ≤ 100
            · have c1 : ¬ ((x.1.size : Int) > 100) := by omega
              have HNS := hide (Hog.node_short HXG.out h1 (fun e => absurd e k4))
              clear k4
              go_wp2
              go_quiet (fail)
              go_wp2
              go_roundw
              case rel =>
                refine ⟨k + 1, p + 1, q + ((x.2.2.size + 511) / 512), by omega, by omega, by omega, by go_num, by go_num, by go_num, ?_, ?_, below_drewN HBW.out nq⟩
                · rw [HCS.out, ← HPK.out, HNS.out.1]; exact hide rfl
                · rw [HTS.out, List.length_append, HNS.out.2, HOB.out]; have := HQK.out; refine hide ?_; omega
              case measure => simp [intOf]; omega
            · have c1 : (x.1.size : Int) > 100 := by omega
              have HNS := hide (Hog.node_name HXG.out (by omega) (fun e => absurd e k4))
              clear k4
              go_wp2
              go_quiet (fail)
              go_wp2
              go_roundw
              case rel =>
                refine ⟨k + 1, p + 2, q + ((x.2.2.size + 511) / 512 + 1), by omega, by omega, by omega, by go_num, by go_num, by go_num, ?_, ?_, below_drewN HBW.out nq⟩
                · rw [HCS.out, ← HPK.out, HNS.out.1]; exact hide rfl
                · rw [HTS.out, List.length_append, HNS.out.2, HOB.out]; have := HQK.out; refine hide ?_; omega
              case measure => simp [intOf]; omega
        · obtain rfl : k = n := by omega
          have hcp : Hog.countT t = p := by rw [HPK.out, ← HL.out, List.take_length]
          have hmq : m = 512 * (p + q) := by rw [HQK.out, ← HL.out, List.take_length]; exact HMT.out
          have dM : ((m : Int) == 512 * ((p : Int) + (q : Int))) = true := by rw [beq_iff_eq]; omega
          have HCP := hide hcp
          have HBR := hide (below_two HB2.out hbl)
          have HOKR := hide (ok2.next hbl)
          have HNR := hide (HND.out.below HBR.out)
          clear hcp hmq hbl
          go_wp2_with fail
          refine (tlay_good _ t z m w1 wr HP.out HOKR.out HNR.out HS.out HX.out HZ.out HM.out).mono ?_
          rintro e w3 ⟨b3, c3, rfl, _, ok3, hb3⟩
          have HB3 := hide (below_two HBR.out hb3)
          have HN3 := hide (HNR.out.below hb3)
          clear hb3
          go_wp2_with fail
          refine (entries_good _ t p w1 w3 HP.out ok3 HN3.out HS.out HX.out HCP.out).mono ?_
          rintro e w4 ⟨rfl, ok4, hb4⟩
          have HB4 := hide (below_two HB3.out hb4)
          clear hb4
          go_wp2_with fail
          refine (awake13_ok w1 w4 HP.out ok4).mono ?_
          rintro e w5 ⟨rfl, ok5, hb5⟩
          have HB5 := hide (below_two HB4.out hb5)
          clear hb5
          go_wp2
          go_ret
          exact ⟨rfl, HB5.out⟩
end Go.Proofs.YtpdbpeooebbpnaaDoor
