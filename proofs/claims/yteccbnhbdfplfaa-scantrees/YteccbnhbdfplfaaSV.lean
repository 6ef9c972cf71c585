/- The walk of ScanTrees. -/
import Derived.Test.YteccbnhbdfplfaaSU
import Derived.Deep.DeepCutAuto
namespace Go.Proofs.Yteccbnhbdfplfaa
open Go.RowKit

theorem str_eq {x y : ByteArray} (h : x = y) : (x.toList == y.toList) = true := by rw [h]; exact beq_self_eq_true _
theorem str_ne {x y : ByteArray} (h : ¬ x = y) : (x.toList == y.toList) = false := by
  rw [beq_eq_false_iff_ne]
  exact fun e => h (bytes_eq.2 e)

theorem wpList_clone_N {w : World} {ops : Array Oper} {rest : List Oper} {o : Oper} {a : Act} {Q : Exit → Act → World → Prop} (hgd : o.guard = none) (s x : Operand)
    (ho : o.op = .call { callee := .builtin .append, args := #[s, x], argTypes := #[23, 23] })
    (hs : a.eval s = .slice none 0 0) (ao : Option Addr) (m c : Nat) (ys : List Nd) (hx : a.eval x = .slice ao m c) (hu : ArgN w ao m c ys) (hm : 0 < m) (hlen : m < 1000000)
    (h : ∀ g c w', OwnN w.heap.size w' (.slice (some ⟨g, 0, none⟩) m c) ys → Below w.heap.size w w' → wpList Try.prog ops Q rest (a.put o.dst (.slice (some ⟨g, 0, none⟩) m c)) w') : wpList Try.prog ops Q (o :: rest) a w := by
  refine wpList_append_nodes hgd s x ho w.heap.size _ [] hs (OwnN.nil _ _) ao m c ys hx hu (by rw [hu.len]; simpa using hlen) (Nat.le_refl _) ?_
  intro b c' w' h1 h2
  rw [List.length_nil, Nat.zero_add, hu.len] at h1 ⊢
  rw [List.nil_append] at h1
  have h3 := h1.2
  rcases h3 with ⟨e, h0⟩ | ⟨g, cap, cur, e, _⟩
  · have h4 : ys.length = m := hu.len
    omega
  · obtain ⟨rfl, _, rfl⟩ : b = some ⟨g, 0, none⟩ ∧ m = ys.length ∧ c' = cap := by simpa using e
    exact h g c' w' h1 h2

set_option maxRecDepth 100000 in
set_option maxHeartbeats 8000000 in
theorem trees_walk (bo : Option Addr) (m d : Nat) (ns : List Nd) (ao : Option Addr) (n c : Nat) (xs : List ByteArray) (kk at' : Int) (w : World)
    (hb : ArgN w bo m d ns) (hm : m ≤ maxLen) (ha : Arg w ao n c xs) (hn : n ≤ maxLen) (hz : ∀ x ∈ xs, x.size ≤ maxLen) :
    Calls Try.prog 5 #[.slice bo m d, .slice ao n c, .int .i64 kk, .int .i64 at'] w fun e w' => e = .returned (.bool true) ∧ Below w.heap.size w w' := by
  have HA := hide ha
  have HB := hide hb
  have HZ := hide hz
  have HAN := hide ha.len
  have HBM := hide hb.len
  have HAM : Hid (xs.length ≤ maxLen) := by rw [ha.len]; exact hn
  have HNM : Hid (ns.length ≤ maxLen) := by rw [hb.len]; exact hm
  have HAW := hide (awake8_ok)
  have hni : (n : Int) ≤ 9223372036854775807 := by unfold maxLen at hn; omega
  have hmi : (m : Int) ≤ 9223372036854775807 := by unfold maxLen at hm; omega
  clear ha hb hz hn hm
  obtain ⟨g3, hg3⟩ : ∃ g, greatT 8 100 xs = g := ⟨_, rfl⟩
  have HG3 := hide hg3
  obtain ⟨g4, hg4⟩ : ∃ g, greatN 30 ns = g := ⟨_, rfl⟩
  have HG4 := hide hg4
  clear hg3 hg4
  go_enter Try.func5, Try.ntmps5
  go_wp2_with fail
  refine (greatN_ok _ 30 ns g4 w HB.out.nods HNM.out (by decide) (by decide) HG4.out).mono ?_
  rintro e w0 ⟨rfl, hw0⟩
  obtain rfl := hw0
  cases g4 with
  | true =>
    go_wp2_with fail
    refine (HAW.out _).mono ?_
    rintro e w1 ⟨rfl, hb1⟩
    have HB1 := hide hb1
    clear hb1
    go_wp2
    go_ret
    exact ⟨rfl, HB1.out⟩
  | false =>
  go_wp2_with fail
  refine (greatT_ok _ 8 100 xs g3 w0 HA.out.txt HAM.out (by decide) (by decide) HG3.out).mono ?_
  rintro e w9 ⟨rfl, hw9⟩
  obtain rfl := hw9
  cases g3 with
  | true =>
    go_wp2_with fail
    refine (HAW.out _).mono ?_
    rintro e w1 ⟨rfl, hb1⟩
    have HB1 := hide hb1
    clear hb1
    go_wp2
    go_ret
    exact ⟨rfl, HB1.out⟩
  | false =>
  rename World => w
  by_cases hm0 : m = 0
  · have hm0i : ((m : Int) == 0) = true := by rw [hm0]; rfl
    clear hm0
    go_wp2_with fail
    refine (HAW.out _).mono ?_
    rintro e w1 ⟨rfl, hb1⟩
    have HB1 := hide hb1
    clear hb1
    go_wp2
    go_ret
    exact ⟨rfl, HB1.out⟩
  have hm0i : ((m : Int) == 0) = false := by rw [beq_eq_false_iff_ne]; omega
  by_cases hn0 : n = 0
  · have hn0i : ((n : Int) == 0) = true := by rw [hn0]; rfl
    clear hn0 hm0
    go_wp2_with fail
    refine (HAW.out _).mono ?_
    rintro e w1 ⟨rfl, hb1⟩
    have HB1 := hide hb1
    clear hb1
    go_wp2
    go_ret
    exact ⟨rfl, HB1.out⟩
  have hn0i : ((n : Int) == 0) = false := by rw [beq_eq_false_iff_ne]; omega
  have hn8 : n ≤ 8 := by have := (greatT_not HG3.out).1; rw [HAN.out] at this; omega
  have hm30 : m ≤ 30 := by have := (greatN_not HG4.out).1; rw [HBM.out] at this; omega
  have HD5 : Hid (∀ x ∈ ns, x.2.2.size ≤ 500) := fun x hx => ((greatN_not HG4.out).2 x hx).2
  have hn1 : 0 < n := by omega
  have hm1 : 0 < m := by omega
  clear hn0 hm0 hni hmi
  obtain ⟨R, hR⟩ : ∃ R, toldT (hitN ns) xs = R := ⟨_, rfl⟩
  have HR := hide hR
  have HRL : Hid ((firstsT (hitN ns) xs n).length = R.length) := by rw [← hR, ← HAN.out]; exact hide (firsts_len _ _)
  clear hR
  -- where they lie
  rcases id HA.out.txt with ⟨e, _⟩ | ⟨g, o, c', e, _, hg, hcell⟩
  · have := HAN.out
    rw [e] at this
    simp at this
    omega
  obtain ⟨rfl, hzz, rfl⟩ : ao = some ⟨g, o, none⟩ ∧ n = xs.length ∧ c = c' := by simpa using e
  have HCX := hide hcell
  clear hzz e hcell
  rcases id HB.out.nods with ⟨e, _⟩ | ⟨gu, ou, c', e, _, hru⟩
  · have := HBM.out
    rw [e] at this
    simp at this
    omega
  obtain ⟨rfl, hzz, rfl⟩ : bo = some ⟨gu, ou, none⟩ ∧ m = ns.length ∧ d = c' := by simpa using e
  have HRU := hide hru
  have hgu := hru.1
  clear hzz e hru
  have hn8i : (n : Int) ≤ 8 := by omega
  have hm30i : (m : Int) ≤ 30 := by omega
  go_wp2_with fail
  refine (tree_ok _ ns _ xs R w HB.out.nods (by rw [HBM.out]; omega) (fun x hx => by have := HD5.out x hx; omega) HA.out.txt (by rw [HAN.out]; omega) HZ.out HR.out).mono ?_
  rintro e w1 ⟨a1, c1, rfl, ho1, hb1⟩
  have HT1 := hide ho1.txt
  have HB1 := hide hb1
  clear ho1 hb1
  have HRN : Hid (R.length ≤ 8) := by rw [← HRL.out]; exact Nat.le_trans (firsts_le _ _ n (by rw [HAN.out]; exact Nat.le_refl _)) hn8
  go_wp2
  go_loopw [10, 11] (fun v i wr => ∃ i0 q : Nat, i0 ≤ n ∧ q ≤ i0 ∧ v = .int .i64 q ∧ i = .int .i64 i0 ∧ Hid ((firstsT (hitN ns) xs i0).length = q) ∧ Hid (Below w1.heap.size w1 wr)) (fun _ i _ => n - (intOf i).toNat)
  case atStart => exact ⟨0, 0, Nat.zero_le _, Nat.le_refl _, rfl, rfl, (by unfold firstsT; exact rfl), Below.refl _ _⟩
  case round =>
    obtain ⟨i, q, hi, hq, rfl, rfl, hcnt, hbl⟩ := hrel
    by_cases hlt : i < n
    case pos =>
      obtain ⟨y, hy⟩ : ∃ x, xs[i]? = some x := ⟨xs[i]'(by have := HAN.out; omega), List.getElem?_eq_some_iff.2 ⟨_, rfl⟩⟩
      obtain ⟨h, hh⟩ : ∃ h, hashT y = h := ⟨_, rfl⟩
      have hii : (i : Int) < (n : Int) := by omega
      have hyz := HZ.out y (List.mem_of_getElem? hy)
      have hh8 : h.size ≤ 8 := by rw [← hh]; exact hash_less y
      have HY := hide hy
      have HH := hide hh
      have HYZ := hide hyz
      clear hy hh hyz
      rename World => wo
      go_wp2
      go_loopw [12, 14] (fun b v wr => ∃ k : Nat, k ≤ m ∧ b = .bool (hitN (ns.take k) h) ∧ v = .int .i64 k ∧ Hid (Below w1.heap.size w1 wr)) (fun _ v _ => m - (intOf v).toNat)
      case atStart => exact ⟨0, Nat.zero_le _, rfl, rfl, hbl⟩
      case round =>
        obtain ⟨k, hk, rfl, rfl, hbx⟩ := hrel
        by_cases hkm : k < m
        case pos =>
          obtain ⟨nd, hnd⟩ : ∃ x, ns[k]? = some x := ⟨ns[k]'(by have := HBM.out; omega), List.getElem?_eq_some_iff.2 ⟨_, rfl⟩⟩
          have hki : (k : Int) < (m : Int) := by omega
          have HST := hide (hitN_step hnd h)
          have hnz := HD5.out nd (List.mem_of_getElem? hnd)
          have HND := hide hnd
          clear hnd
          cases hcur : hitN (ns.take k) h with
          | true =>
            have HC : Hid (hitN (ns.take (k + 1)) h = true) := by rw [HST.out, hcur, Bool.true_or]; exact hide rfl
            clear hcur
            go_wp2
            go_quiet (fail)
            go_wp2
            go_roundw
            case rel => exact ⟨k + 1, by omega, by rw [HC.out], by go_num, hide (below_draw hbx.out nq)⟩
            case measure => simp [intOf]; omega
          | false =>
            obtain ⟨b, hb⟩ : ∃ b, Hog.hasL h.data.toList nd.2.2.data.toList = b := ⟨_, rfl⟩
            have HC : Hid (hitN (ns.take (k + 1)) h = b) := by
              rw [HST.out, hcur, Bool.false_or, ← HH.out, hit_has, HH.out, hb]
              exact hide rfl
            rename World => wx
            have hgx : g < wx.heap.size := Nat.lt_of_lt_of_le hg (below_two HB1.out hbx.out).size
            have hux : gu < wx.heap.size := Nat.lt_of_lt_of_le hgu (below_two HB1.out hbx.out).size
            have f1 : ∀ p : Later wx, p.w1.cell? ⟨g, o + i, none⟩ = some (.string y) := fun p => p.cell hgx (((below_two HB1.out hbx.out).cell (p := ⟨g, o + i, none⟩) hg).trans (HCX.out i y HY.out))
            have f2 : ∀ p : Later wx, p.w1.cell? ⟨gu, ou + k * 3 + 2, none⟩ = some (.string nd.2.2) := fun p => p.cell hux (((below_two HB1.out hbx.out).cell (p := ⟨gu, ou + k * 3 + 2, none⟩) hgu).trans (HRU.out.2 k nd HND.out).data)
            have HC1 : Hid (∀ p : Later wx, Calls Try.prog 23 #[.string y] p.w1 fun e w' => e = .returned (.string h) ∧ Below p.w1.heap.size p.w1 w') := fun p => hash_ok y h p.w1 (by have := HYZ.out; unfold maxLen at this; omega) HH.out
            have HC2 : Hid (∀ p : Later wx, Calls Try.prog 19 #[.string nd.2.2, .string h] p.w1 fun e w' => e = .returned (.bool b) ∧ Below p.w1.heap.size p.w1 w') := fun p => has_ok nd.2.2 h b p.w1 (by omega) (by omega) hb
            have hne := later_one wx
            clear hcur hb
            go_wp2
            refine wp_region_later (by kernel_rfl) (by kernel_rfl) ?_
            repeat (first
              | go_big_quiet_step ((first
                | (go_at_call 23; exact Calls.later_of (HC1.out _))
                | (go_at_call 19; exact Calls.later_of (HC2.out _))))
              | quiet_step ((first
                | (go_at_call 23; exact Calls.later_of (HC1.out _))
                | (go_at_call 19; exact Calls.later_of (HC2.out _)))))
            refine wpQuiet_nil ?_
            intro W5 hw'
            have HQ := hide (below_two hbx.out (later_below hw'))
            clear hw' f1 f2 HC1 HC2 hne
            go_wp2
            go_roundw
            case rel => exact ⟨k + 1, by omega, by rw [HC.out], by go_num, HQ⟩
            case measure => simp [intOf]; omega
        case neg =>
          have hkd : decide (k < m) = false := by rw [decide_eq_false_iff_not]; omega
          have HALL : Hid (hitN (ns.take k) h = hitN ns h) := by rw [show k = ns.length by have := HBM.out; omega, List.take_length]; exact hide rfl
          rw [HALL.out]
          obtain ⟨bi, hbi⟩ : ∃ b, hitN ns h = b := ⟨_, rfl⟩
          rw [hbi]
          have HBI := hide hbi
          clear hkm hk HALL hbi
          rename World => wx
          go_wp2
          go_loopw [13, 15] (fun b v wr => ∃ j : Nat, j ≤ i ∧ b = .bool (memB (xs.take j) y) ∧ v = .int .i64 j ∧ Hid (Below w1.heap.size w1 wr)) (fun _ v _ => i - (intOf v).toNat)
          case atStart => exact ⟨0, Nat.zero_le _, rfl, rfl, hbx⟩
          case round =>
            obtain ⟨j, hj, rfl, rfl, hby⟩ := hrel
            by_cases hji : j < i
            case pos =>
              obtain ⟨z, hz⟩ : ∃ x, xs[j]? = some x := ⟨xs[j]'(by have := HAN.out; omega), List.getElem?_eq_some_iff.2 ⟨_, rfl⟩⟩
              have hjl : (j : Int) < (i : Int) := by omega
              have hjn : (j : Int) < (n : Int) := by omega
              have HST := hide (memB_step hz y)
              have q1 := ((below_two HB1.out hby.out).cell (p := ⟨g, o + j, none⟩) hg).trans (HCX.out j z hz)
              have q2 := ((below_two HB1.out hby.out).cell (p := ⟨g, o + i, none⟩) hg).trans (HCX.out i y HY.out)
              clear hz
              cases hcur : memB (xs.take j) y with
              | true =>
                have HC : Hid (memB (xs.take (j + 1)) y = true) := by rw [HST.out, hcur, Bool.true_or]; exact hide rfl
                clear hcur
                go_wp2
                go_quiet (fail)
                go_wp2
                go_roundw
                case rel => exact ⟨j + 1, by omega, by rw [HC.out], by go_num, hide (below_draw hby.out nq)⟩
                case measure => simp [intOf]; omega
              | false =>
                by_cases hzy : z = y
                · have hcmp := str_eq hzy
                  have HC : Hid (memB (xs.take (j + 1)) y = true) := by rw [HST.out, hcur, decide_eq_true hzy]; exact hide rfl
                  clear hcur hzy
                  go_wp2
                  go_quiet (fail)
                  go_wp2
                  go_roundw
                  case rel => exact ⟨j + 1, by omega, by rw [HC.out], by go_num, hide (below_draw hby.out nq)⟩
                  case measure => simp [intOf]; omega
                · have hcmp := str_ne hzy
                  have HC : Hid (memB (xs.take (j + 1)) y = false) := by rw [HST.out, hcur, decide_eq_false hzy]; exact hide rfl
                  clear hcur hzy
                  go_wp2
                  go_quiet (fail)
                  go_wp2
                  go_roundw
                  case rel => exact ⟨j + 1, by omega, by rw [HC.out], by go_num, hide (below_draw hby.out nq)⟩
                  case measure => simp [intOf]; omega
            case neg =>
              have hjd : decide (j < i) = false := by rw [decide_eq_false_iff_not]; omega
              obtain rfl : j = i := by omega
              obtain ⟨bd, hbd⟩ : ∃ b, memB (xs.take j) y = b := ⟨_, rfl⟩
              rw [hbd]
              have HBD := hide hbd
              clear hbd hji hj
              cases bi with
              | false =>
                have HF : Hid ((firstsT (hitN ns) xs (j + 1)).length = q) := by
                  rw [firsts_out HY.out (fun e => by rw [HH.out, HBI.out] at e; exact absurd e.1 (by decide))]
                  exact hcnt
                go_wp2
                go_roundw
                case rel => exact ⟨j + 1, q, by omega, by omega, rfl, by go_num, HF, hby⟩
                case measure => simp [intOf]; omega
              | true =>
                cases bd with
                | true =>
                  have HF : Hid ((firstsT (hitN ns) xs (j + 1)).length = q) := by
                    rw [firsts_out HY.out (fun e => e.2 (memB_iff.1 HBD.out))]
                    exact hcnt
                  go_wp2
                  go_roundw
                  case rel => exact ⟨j + 1, q, by omega, by omega, rfl, by go_num, HF, hby⟩
                  case measure => simp [intOf]; omega
                | false =>
                  have HF : Hid ((firstsT (hitN ns) xs (j + 1)).length = q + 1) := by
                    rw [firsts_in HY.out (by rw [HH.out]; exact HBI.out) (memB_no.1 HBD.out), List.length_append, hcnt.out]
                    exact hide rfl
                  go_wp2
                  go_roundw
                  case rel => exact ⟨j + 1, q + 1, by omega, by omega, by go_num, by go_num, HF, hby⟩
                  case measure => simp [intOf]; omega
    case neg =>
      have hid : decide (i < n) = false := by rw [decide_eq_false_iff_not]; omega
      obtain rfl : i = n := by omega
      obtain ⟨rl, hrl⟩ : ∃ r, R.length = r := ⟨_, rfl⟩
      rw [hrl]
      obtain rfl : q = rl := by rw [← hcnt.out, HRL.out, hrl]
      have HRQ := hide hrl
      rw [hrl] at HT1
      have hne : ((q : Int) != (q : Int)) = false := by simp
      clear hrl hlt hi
      have HBW := hide (below_two HB1.out hbl.out)
      have HTW := hide (HT1.out.below hbl.out)
      have HNB := hide (HB.out.below HBW.out)
      rename World => wo
      go_wp2_with (at_builtin; refine wpList_clone_N rfl _ _ rfl rfl (some ⟨gu, ou, none⟩) m d ns rfl HNB.out ?c1 ?c2 ?_)
      case c1 => exact hm1
      case c2 => omega
      intro ga ca w2 ho2 hb2
      have HO2 := hide ho2
      have HB2 := hide hb2
      clear ho2 hb2
      go_wp2
      obtain ⟨y, hy⟩ : ∃ x, xs[0]? = some x := ⟨xs[0]'(by have := HAN.out; omega), List.getElem?_eq_some_iff.2 ⟨_, rfl⟩⟩
      obtain ⟨h, hh⟩ : ∃ h, hashT y = h := ⟨_, rfl⟩
      have HY := hide hy
      have HH := hide hh
      have HYZ := hide (HZ.out y (List.mem_of_getElem? hy))
      clear hy hh
      go_loopw [17] (fun v wr => ∃ k : Nat, k ≤ m ∧ v = .int .i64 k ∧ Hid (∃ us, OwnN wo.heap.size wr (.slice (some ⟨ga, 0, none⟩) m ca) us ∧ us.length = m ∧ datas us = datas ns) ∧ Hid (Below wo.heap.size wo wr)) (fun v _ => m - (intOf v).toNat)
      case atStart => exact ⟨0, Nat.zero_le _, rfl, ⟨ns, HO2.out, HBM.out, rfl⟩, HB2⟩
      case round =>
        obtain ⟨k, hk, rfl, hex, hbx⟩ := hrel
        rename World => wx
        by_cases hkm : k < m
        case pos =>
          have hki : (k : Int) < (m : Int) := by omega
          obtain ⟨us, h1, h2, h3⟩ := hex.out
          have HO := hide h1
          have HL := hide h2
          have HDS := hide h3
          clear h1 h2 h3 hex
          have q1 := ((below_two HBW.out hbx.out).cell (p := ⟨g, o + 0, none⟩) hg).trans (HCX.out 0 y HY.out)
          rw [Nat.add_zero] at q1
          have hi0 : (0 : Int) < (i : Int) := by omega
          go_wp2_with fail
          refine (hash_ok y h wx (by have := HYZ.out; unfold maxLen at this; omega) HH.out).mono ?_
          rintro e w4 ⟨rfl, hb4⟩
          obtain ⟨u, hu⟩ : ∃ x, us[k]? = some x := ⟨us[k]'(by have := HL.out; omega), List.getElem?_eq_some_iff.2 ⟨_, rfl⟩⟩
          have HO4 := hide (HO.out.below hb4)
          have HB4 := hide (below_two hbx.out hb4)
          have q2 := (HO4.out.pathAt hu).1
          have q3 := HO4.out.free (k * 3)
          have HU := hide hu
          have hga : Hid (wo.heap.size ≤ ga) := (HO4.out.lt ga rfl).1
          clear hu hb4 q1 HO hbx
          go_wp2
          go_roundw
          case rel => exact ⟨k + 1, by omega, by go_num, hide ⟨_, HO4.out.putPath HU.out h, by rw [List.length_set]; exact HL.out, by rw [datas_path HU.out]; exact HDS.out⟩, hide (HB4.out.setCell hga.out _)⟩
          case measure => simp [intOf]; omega
        case neg =>
          have hkd : decide (k < m) = false := by rw [decide_eq_false_iff_not]; omega
          obtain ⟨us, h1, h2, h3⟩ := hex.out
          have HO := hide h1
          have HL := hide h2
          have HDS := hide h3
          have HBX := hide (below_two HBW.out hbx.out)
          have HTX := hide (HTW.out.below hbx.out)
          clear h1 h2 h3 hex hkm hk
          go_wp2_with fail
          refine (tree_ok _ us _ xs R wx HO.out.nods (by rw [HL.out]; omega) (fun x hx => by have := datas_all (P := fun s => s.size ≤ 500) HDS.out HD5.out x hx; omega) (HA.out.txt.below HBX.out) (by rw [HAN.out]; omega) HZ.out (by rw [hit_same HDS.out]; exact HR.out)).mono ?_
          rintro e w5 ⟨a5, c5, rfl, ho5, hb5⟩
          rw [HRQ.out] at ho5 ⊢
          have HT5 := hide ho5.txt
          have HX5 := hide hb5
          clear ho5 hb5
          go_wp2_with fail
          refine (same_any _ _ R R w5 HT5.out (HTX.out.below HX5.out) (by rw [HRQ.out]; omega)).mono ?_
          rintro e w6 ⟨rfl, hb6⟩
          rw [decide_eq_true rfl]
          have HX6 := hide (below_two HX5.out hb6)
          clear hb6 HT5 HX5
          have hi1 : (0 : Int) < (i : Int) := by omega
          have hi9 : (i : Int) ≤ 1000000 := by omega
          go_wp2_with fail
          refine (low_any kk i w6 hi1 hi9).mono ?_
          rintro e w7 ⟨r, rfl, hr, hw7⟩
          obtain rfl := hw7
          obtain ⟨name, hname⟩ : ∃ x, xs[r]? = some x := ⟨xs[r]'(by have := HAN.out; omega), List.getElem?_eq_some_iff.2 ⟨_, rfl⟩⟩
          have HB7 := hide (below_two HBX.out HX6.out)
          have HO7 := hide (HO.out.below HX6.out)
          have q1 := (HB7.out.cell (p := ⟨g, o + r, none⟩) hg).trans (HCX.out r name hname)
          have HNA := hide hname
          have HNZ := hide (HZ.out name (List.mem_of_getElem? hname))
          obtain ⟨f, hf⟩ : ∃ h, hashT name = h := ⟨_, rfl⟩
          have HF := hide hf
          clear hname hf HBX HTX HO HX6
          go_wp2_with fail
          refine (hash_ok name f _ (by have := HNZ.out; unfold maxLen at this; omega) HF.out).mono ?_
          rintro e w8 ⟨rfl, hb8⟩
          have HB8 := hide (below_two HB7.out hb8)
          have HO8 := hide (HO7.out.below hb8)
          clear hb8 HB7 HO7 q1
          by_cases hf0 : f.data.toList = []
          · have hfe : f.toList.isEmpty = true := by rw [Lib.toList_data, hf0]; rfl
            clear hf0
            go_wp2_with fail
            refine (HAW.out w8).mono ?_
            rintro e w9 ⟨rfl, hb9⟩
            have HB9 := hide (below_two HB8.out hb9)
            clear hb9
            go_wp2
            go_ret
            exact ⟨rfl, HB9.out⟩
          have hfe : f.toList.isEmpty = false := by
            rw [Lib.toList_data]
            cases e : f.data.toList with
            | nil => exact absurd e hf0
            | cons a r => rfl
          have HF8 : Hid (f.size = 8) := by
            rcases hash_eight name with e | e
            · rw [HF.out, ← Hog.size_len] at e
              exact e
            · rw [HF.out] at e
              exact absurd e hf0
          have hf8 : f.size ≤ 8 := by rw [HF8.out]; exact Nat.le_refl _
          clear hf0
          obtain ⟨n0, hn0⟩ : ∃ x, ns[0]? = some x := ⟨ns[0]'(by have := HBM.out; omega), List.getElem?_eq_some_iff.2 ⟨_, rfl⟩⟩
          obtain ⟨u0, hu0⟩ : ∃ x, us[0]? = some x := ⟨us[0]'(by have := HL.out; omega), List.getElem?_eq_some_iff.2 ⟨_, rfl⟩⟩
          have q4 := (HB8.out.cell (p := ⟨gu, ou + 0 * 3 + 2, none⟩) hgu).trans (HRU.out.2 0 n0 hn0).data
          rw [Nat.zero_mul, Nat.add_zero] at q4
          have hm0 : (0 : Int) < (m : Int) := by omega
          obtain ⟨d0, hd0⟩ : ∃ x, n0.2.2 = x := ⟨_, rfl⟩
          rw [hd0] at q4
          have hdz : d0.size ≤ 500 := by rw [← hd0]; exact HD5.out n0 (List.mem_of_getElem? hn0)
          have hdi : (d0.size : Int) ≤ 500 := by omega
          have HU0 := hide hu0
          clear hn0 hu0 hd0
          go_wp2_with fail
          refine (low_any at' ((d0.size : Int) + 1) w8 (by omega) (by omega)).mono ?_
          rintro e w9 ⟨r2, rfl, hr2, hw9⟩
          have HB9 : Hid (Below w.heap.size w w9) := by rw [hw9]; exact HB8
          have HO9 : Hid (OwnN wo.heap.size w9 (.slice (some ⟨ga, 0, none⟩) m ca) us) := by rw [hw9]; exact HO8
          have hr3 : (r2 : Int) ≤ (d0.size : Int) := by omega
          have hr0 : (0 : Int) ≤ (r2 : Int) := by omega
          clear hw9 hr2 q4 HB8 HO8
          go_wp2_with fail
          have HDW := hide (Below.refl w9.heap.size w9).drew
          refine wp_region_any (by kernel_rfl) ?_
          change wpAny _ _ _ _ _ _ _ (World.drew _)
          refine wpAny_take (i := 0) (v := .slice (some ⟨ga, 0, none⟩) m ca) rfl (by kernel_rfl) (by kernel_rfl) (by kernel_rfl) (fun _ _ _ h => h) (Or.inl ⟨by kernel_rfl, ?_⟩) ?_
          · intro w; go_simp
          refine wpAny_take (i := 1) (v := .string d0) rfl (by kernel_rfl) (by kernel_rfl) (by kernel_rfl) (fun _ _ _ h => h) (Or.inl ⟨by kernel_rfl, ?_⟩) ?_
          · intro w; go_simp
          refine wpAny_take (i := 2) (v := .int .i64 r2) rfl (by kernel_rfl) (by kernel_rfl) (by kernel_rfl) (fun _ _ _ h => h) (Or.inl ⟨by kernel_rfl, ?_⟩) ?_
          · intro w; go_simp
          refine wpAny_take (i := 3) (v := .string (d0.extract 0 r2)) rfl (by kernel_rfl) (by kernel_rfl) (by kernel_rfl) (fun _ _ _ h => h) (Or.inl ⟨by kernel_rfl, ?_⟩) ?_
          · intro w; go_simp
          refine wpAny_take (i := 4) (v := .string name) rfl (by kernel_rfl) (by kernel_rfl) (by kernel_rfl) (fun _ _ _ h => h) (Or.inl ⟨by kernel_rfl, ?_⟩) ?_
          · intro w; go_simp
          refine wpAny_take (i := 7) (v := .string d0) rfl (by kernel_rfl) (by kernel_rfl) (by kernel_rfl) (fun _ _ _ h => h) (Or.inl ⟨by kernel_rfl, ?_⟩) ?_
          · intro w; go_simp
          refine wpAny_take (i := 8) (v := .int .i64 r2) rfl (by kernel_rfl) (by kernel_rfl) (by kernel_rfl) (fun _ _ _ h => h) (Or.inl ⟨by kernel_rfl, ?_⟩) ?_
          · intro w; go_simp
          refine wpAny_take (i := 9) (v := .string (d0.extract r2 d0.size)) rfl (by kernel_rfl) (by kernel_rfl) (by kernel_rfl) (fun _ _ _ h => h) (Or.inl ⟨by kernel_rfl, ?_⟩) ?_
          · intro w; go_simp
          refine wpAny_ready (rs := [5]) (by kernel_rfl) (by simp) (AllReady.cons rfl ?_ AllReady.nil)
          intro K hK
          go_simp
          refine (hash_ok name f w9.drew (by have := HNZ.out; unfold maxLen at this; omega) HF.out).mono ?_
          rintro e w10 ⟨rfl, hb10⟩
          refine hK _ _ ?_
          clear hK K
          have HB10 := hide (below_two (below_two HB9.out HDW.out) hb10)
          have HO10 := hide (HO9.out.below (below_two HDW.out hb10))
          have q5 := (HO10.out.pathAt HU0.out).2
          have q6 := HO10.out.free 2
          rw [Nat.zero_mul, Nat.zero_add] at q5
          have hga : wo.heap.size ≤ ga := (HO10.out.lt ga rfl).1
          have HPD : Hid (OwnN wo.heap.size (w10.setCell ⟨ga, 2, none⟩ (.string (d0.extract 0 r2 ++ f ++ d0.extract r2 d0.size))) (.slice (some ⟨ga, 0, none⟩) m ca) (us.set 0 (u0.1, u0.2.1, d0.extract 0 r2 ++ f ++ d0.extract r2 d0.size))) := by
            have h1 := HO10.out.putData HU0.out (d0.extract 0 r2 ++ f ++ d0.extract r2 d0.size)
            rwa [Nat.zero_mul, Nat.zero_add] at h1
          have HBD : Hid (Below w.heap.size w (w10.setCell ⟨ga, 2, none⟩ (.string (d0.extract 0 r2 ++ f ++ d0.extract r2 d0.size)))) := HB10.out.setCell (Nat.le_trans HBW.out.size hga) _
          clear hb10 HB9 HO9 HDW HB10 HO10
          have hs1 : min r2 d0.size + f.size ≤ 9223372036854775807 := by omega
          have hs2 : min r2 d0.size + f.size + (d0.size - r2) ≤ 9223372036854775807 := by omega
          refine wpAny_take (i := 6) (v := .string (d0.extract 0 r2 ++ f)) rfl (by kernel_rfl) (by kernel_rfl) (by kernel_rfl) (fun _ _ _ h => h) (Or.inl ⟨by kernel_rfl, ?_⟩) ?_
          · intro w; go_simp
          refine wpAny_take (i := 10) (v := .string (d0.extract 0 r2 ++ f ++ d0.extract r2 d0.size)) rfl (by kernel_rfl) (by kernel_rfl) (by kernel_rfl) (fun _ _ _ h => h) (Or.inl ⟨by kernel_rfl, ?_⟩) ?_
          · intro w; go_simp
          refine wpAny_take (i := 11) (v := .pointer (some ⟨ga, 0, none⟩)) rfl (by kernel_rfl) (by kernel_rfl) (by kernel_rfl) (fun _ _ _ h => h) (Or.inl ⟨by kernel_rfl, ?_⟩) ?_
          · intro w; go_simp
          refine wpAny_take (i := 12) (v := .pointer (some ⟨ga, 2, none⟩)) rfl (by kernel_rfl) (by kernel_rfl) (by kernel_rfl) (fun _ _ _ h => h) (Or.inl ⟨by kernel_rfl, ?_⟩) ?_
          · intro w; go_simp
          refine wpAny_ready (rs := [13]) (by kernel_rfl) (by simp) (AllReady.cons rfl ?_ AllReady.nil)
          intro K hK
          go_simp
          refine hK _ _ ?_
          clear hK K
          refine wpAny_done (by kernel_rfl) ?_ _
          obtain ⟨w11, hw11⟩ : ∃ x, x = w10.setCell ⟨ga, 2, none⟩ (.string (d0.extract 0 r2 ++ f ++ d0.extract r2 d0.size)) := ⟨_, rfl⟩
          rw [← hw11] at HPD HBD ⊢
          obtain ⟨D, hD⟩ : ∃ x, x = d0.extract 0 r2 ++ f ++ d0.extract r2 d0.size := ⟨_, rfl⟩
          rw [← hD] at HPD ⊢
          obtain ⟨vs, hvs⟩ : ∃ x, x = us.set 0 (u0.1, u0.2.1, D) := ⟨_, rfl⟩
          rw [← hvs] at HPD
          obtain ⟨R3, hR3⟩ : ∃ x, toldT (hitN vs) xs = x := ⟨_, rfl⟩
          have HVL : Hid (vs.length = m) := by rw [hvs, List.length_set]; exact HL
          have HVD : Hid (∀ x ∈ vs, x.2.2.size < 1000000) := by
            intro x hx
            rw [hvs] at hx
            rcases List.mem_or_eq_of_mem_set hx with hx | hx
            · have := datas_all (P := fun s => s.size ≤ 500) HDS.out HD5.out x hx
              omega
            · rw [hx]
              show D.size < _
              rw [hD, ByteArray.size_append, ByteArray.size_append, ByteArray.size_extract, ByteArray.size_extract]
              omega
          have HIN : Hid (memB R3 name = true) := by
            refine memB_iff.2 ?_
            rw [← hR3, told_mem]
            refine ⟨List.mem_of_getElem? HNA.out, ?_⟩
            rw [HF.out]
            unfold hitN
            refine List.any_eq_true.2 ⟨(u0.1, u0.2.1, D), ?_, ?_⟩
            · rw [hvs]
              exact List.mem_set (by rw [HL.out]; exact hm1) _
            · refine hit_in (d0.extract 0 r2).data.toList (d0.extract r2 d0.size).data.toList HF8.out ?_
              rw [hD, app_data, app_data, List.append_assoc]
          have HR3 := hide hR3
          have HR3L : Hid (R3.length ≤ 8) := by rw [← hR3, ← firsts_len]; exact Nat.le_trans (firsts_le _ _ _ (Nat.le_refl _)) (by rw [HAN.out]; exact hn8)
          clear hw11 hD hvs hR3 hs1 hs2 q5 q6
          go_wp2_with fail
          refine (tree_ok _ vs _ xs R3 w11 HPD.out.nods (by rw [HVL.out]; omega) HVD.out (HA.out.txt.below HBD.out) (by rw [HAN.out]; omega) HZ.out HR3.out).mono ?_
          rintro e w12 ⟨a12, c12, rfl, ho12, hb12⟩
          have HT12 := hide ho12.txt
          have HB12 := hide (below_two HBD.out hb12)
          obtain ⟨l3, hl3⟩ : ∃ l, R3.length = l := ⟨_, rfl⟩
          have HL3 := hide hl3
          rw [hl3] at HT12 ⊢
          have hl8 : l3 ≤ 8 := by rw [← hl3]; exact HR3L.out
          have hl8i : (l3 : Int) ≤ 8 := by omega
          clear ho12 hb12 hl3
          go_wp2
          go_loopw [21, 23] (fun b v wr => ∃ k : Nat, k ≤ l3 ∧ b = .bool (memB (R3.take k) name) ∧ v = .int .i64 k ∧ Hid (Below w12.heap.size w12 wr)) (fun _ v _ => l3 - (intOf v).toNat)
          case atStart => exact ⟨0, Nat.zero_le _, rfl, rfl, Below.refl _ _⟩
          case round =>
            obtain ⟨k, hk, rfl, rfl, hbz⟩ := hrel
            by_cases hkl : k < l3
            case pos =>
              obtain ⟨z, hz⟩ : ∃ x, R3[k]? = some x := ⟨R3[k]'(by have := HL3.out; omega), List.getElem?_eq_some_iff.2 ⟨_, rfl⟩⟩
              rcases id HT12.out with ⟨e, _⟩ | ⟨gr, og, c', e, _, hgr, hcell⟩
              · rw [e] at hz
                simp at hz
              obtain ⟨rfl, hzz, rfl⟩ : a12 = some ⟨gr, og, none⟩ ∧ l3 = R3.length ∧ c12 = c' := by simpa using e
              have hki : (k : Int) < (l3 : Int) := by omega
              have HST := hide (memB_step hz name)
              have q1 := (hbz.out.cell (p := ⟨gr, og + k, none⟩) hgr).trans (hcell k z hz)
              clear hz e hzz hcell
              cases hcur : memB (R3.take k) name with
              | true =>
                have HC : Hid (memB (R3.take (k + 1)) name = true) := by rw [HST.out, hcur, Bool.true_or]; exact hide rfl
                clear hcur
                go_wp2
                go_roundw
                case rel => exact ⟨k + 1, by omega, by rw [HC.out], by go_num, hbz⟩
                case measure => simp [intOf]; omega
              | false =>
                by_cases hzy : z = name
                · have hcmp := str_eq hzy
                  have HC : Hid (memB (R3.take (k + 1)) name = true) := by rw [HST.out, hcur, decide_eq_true hzy]; exact hide rfl
                  clear hcur hzy
                  go_wp2
                  go_roundw
                  case rel => exact ⟨k + 1, by omega, by rw [HC.out], by go_num, hbz⟩
                  case measure => simp [intOf]; omega
                · have hcmp := str_ne hzy
                  have HC : Hid (memB (R3.take (k + 1)) name = false) := by rw [HST.out, hcur, decide_eq_false hzy]; exact hide rfl
                  clear hcur hzy
                  go_wp2
                  go_roundw
                  case rel => exact ⟨k + 1, by omega, by rw [HC.out], by go_num, hbz⟩
                  case measure => simp [intOf]; omega
            case neg =>
              have hkd : decide (k < l3) = false := by rw [decide_eq_false_iff_not]; omega
              have HALL : Hid (memB (R3.take k) name = true) := by rw [show k = R3.length by have := HL3.out; omega, List.take_length]; exact HIN
              rw [HALL.out]
              have HB13 := hide (below_two HB12.out hbz.out)
              clear hkl hk HALL
              go_wp2_with fail
              refine (HAW.out _).mono ?_
              rintro e w14 ⟨rfl, hb14⟩
              have HB14 := hide (below_two HB13.out hb14)
              clear hb14
              go_wp2
              go_ret
              exact ⟨rfl, HB14.out⟩
end Go.Proofs.Yteccbnhbdfplfaa
