/- The document's union: Of. -/
import Derived.Test.YteablfekfijnhaaDoorQ1
import Derived.Test.YteablfekfijnhaaDoorP5
import Derived.Test.YteablfekfijnhaaDoorT3
import Derived.Test.YteablfekfijnhaaDoorT5
namespace Go.Proofs.YteablfekfijnhaaDoor
open Go.RowKit

theorem rooted_nil {t : List Nd} (h : mayN t = false) : rootedB t = false := by unfold rootedB; rw [h]; rfl
theorem split_node {ts : List (List Nd)} {k j : Nat} {t : List Nd} {x : Nd} (ht : ts[k]? = some t) (hx : t[j]? = some x) : ∃ ys, ts.flatten = ((ts.take k).flatten ++ t.take j) ++ x :: ys := by
  obtain ⟨hk, rfl⟩ := List.getElem?_eq_some_iff.1 ht
  obtain ⟨hj, rfl⟩ := List.getElem?_eq_some_iff.1 hx
  refine ⟨ts[k].drop (j + 1) ++ (ts.drop (k + 1)).flatten, ?_⟩
  have e1 : ts.flatten = (ts.take k).flatten ++ (ts[k] ++ (ts.drop (k + 1)).flatten) := by
    rw [← List.flatten_cons, ← List.drop_eq_getElem_cons hk, ← List.flatten_append, List.take_append_drop]
  have e2 : ts[k] = ts[k].take j ++ ts[k][j] :: ts[k].drop (j + 1) := by rw [← List.drop_eq_getElem_cons hj, List.take_append_drop]
  rw [e1, List.append_assoc]
  congr 1
  conv => lhs; rw [e2]
  rw [List.append_assoc, List.cons_append]
theorem flag_off {xs ys : List Nd} (h : (layAll [ndRoot] true xs).2 = false) : (layAll [ndRoot] true (xs ++ ys)).2 = false := by
  rw [layAll_app, h]
  cases k : (layAll (layAll [ndRoot] true xs).1 false ys).2 with
  | false => rfl
  | true => cases layAll_down k

set_option maxRecDepth 100000 in
set_option maxHeartbeats 1000000 in
theorem rof_arg (policy : Int) (v : Value) (ts : List (List Nd)) (w0 w : World) (ok : Ok w0 w) (hp : policy ≠ 0 ∧ policy ≠ 1) : Calls Tryd.prog 10 #[.int .i64 policy, v] w (OfPost policy ts w0 w) := by
  obtain ⟨h0, h1⟩ := hp
  have d0 : (policy != 0) = true := by simpa using h0
  have d1 : (policy != 1) = true := by simpa using h1
  have H01 := hide (And.intro h0 h1)
  clear h0 h1
  go_enter Tryd.func10, Tryd.ntmps10
  go_wp2
  go_ret2
  exact ⟨_, [], 2, rfl, OwnN.nil _ _, union_arg H01.out, ok, Below.refl _ _⟩

set_option maxRecDepth 100000 in
set_option maxHeartbeats 8000000 in
theorem rof_first (v : Value) (ts : List (List Nd)) (w0 w : World) (ok : Ok w0 w) (hT : Trs w v ts) (hz : ∀ t ∈ ts, t.length ≤ 300 ∧ ∀ n ∈ t, n.1.size < 900000 ∧ n.2.2.size < 900000) (hl : ts.length < 1000) (hf : ts.flatten.length < 800) :
    Calls Tryd.prog 10 #[.int .i64 1, v] w (OfPost 1 ts w0 w) := by
  obtain ⟨ao, c, rfl, hA⟩ := hT.open
  obtain ⟨n, hn⟩ : ∃ n, n = ts.length := ⟨_, rfl⟩
  rw [← hn] at hl ⊢
  have HN := hide hn
  have HA := hide hA
  have HZ := hide hz
  have HSH := hide ok.shape
  have HOK0 := hide ok
  clear hT hA hz hn ok
  go_enter Tryd.func10, Tryd.ntmps10
  go_wp2
  go_loopw [6] (fun i wr => ∃ k : Nat, k ≤ n ∧ i = .int .i64 k ∧ Hid (∀ x ∈ ts.take k, rootedB x = true) ∧ Hid (Ok w wr)) (fun i _ => n - (intOf i).toNat)
  case atStart => exact ⟨0, Nat.zero_le _, rfl, fun x hx => by simp at hx, Ok.start HSH.out⟩
  case round =>
    obtain ⟨k, hk, rfl, HR, HOK⟩ := hrel
    by_cases hlt : k < n
    · obtain ⟨t, ht⟩ : ∃ t, ts[k]? = some t := ⟨ts[k]'(by have := HN.out; omega), List.getElem?_eq_some_iff.2 ⟨_, rfl⟩⟩
      obtain ⟨b, o, u, rfl, hbs, hcell, hnods⟩ := HA.out k t ht
      have hc1 := (HOK.out.2.cell (p := ⟨b, o + k, none⟩) hbs).trans hcell
      have HC := hide hcell
      have HN1 := hide (hnods.below HOK.out.2)
      have HTK := hide ht
      obtain ⟨y, hy⟩ : ∃ y, mayN t = y := ⟨_, rfl⟩
      have HY := hide hy
      have hkn : (k : Int) < (n : Int) := by omega
      clear hcell hnods ht hy
      go_wp2_with fail
      refine (rmayT_ok u t y w wr HOK.out (HZ.out t (List.mem_of_getElem? HTK.out)).2 HN1.out (HZ.out t (List.mem_of_getElem? HTK.out)).1 HY.out).mono ?_
      rintro e w1 ⟨rfl, ok1, hb1⟩
      have HN2 := hide (HN1.out.below hb1)
      clear hb1 hc1 HN1
      cases y with
      | false =>
        go_wp2
        go_ret2
        exact ⟨_, [], 7, rfl, OwnN.nil _ _, union_no (by decide) (List.mem_of_getElem? HTK.out) (rooted_nil HY.out), HOK0.out.next ok1.2, ok1.2⟩
      | true =>
        have hc2 := (ok1.2.cell (p := ⟨b, o + k, none⟩) hbs).trans HC.out
        cases t with
        | nil => exact absurd HY.out (by decide +kernel)
        | cons n0 r =>
          obtain ⟨b0, o0, c0, rfl, hc0, hat, hl0⟩ := HN2.out.at0
          have hkd := hat.kind
          have hi0 : (0 : Int) < ((r.length + 1 : Nat) : Int) := by omega
          obtain ⟨z, hz⟩ : ∃ z, (n0.2.1 != 1) = z := ⟨_, rfl⟩
          have HKZ := hide hz
          clear hat
          cases z with
          | true =>
            go_wp2
            go_ret2
            refine ⟨_, [], 7, rfl, OwnN.nil _ _, union_no (by decide) (List.mem_of_getElem? HTK.out) ?_, HOK0.out.next ok1.2, ok1.2⟩
            unfold rootedB
            rw [HY.out, Bool.true_and]
            have := HKZ.out
            simpa using this
          | false =>
            have HRT : Hid (rootedB (n0 :: r) = true) := by
              show _ = _
              unfold rootedB
              rw [HY.out, Bool.true_and]
              have := HKZ.out
              simpa using this
            go_wp2
            go_roundw
            case rel => exact ⟨k + 1, by omega, by go_num, all_take HR.out HTK.out HRT.out, ok1⟩
            case measure => simp [intOf]; omega
    · have hkn : k = n := by omega
      have hkd : decide ((k : Int) < (n : Int)) = false := by simp; omega
      have HRA : Hid (∀ x ∈ ts, rootedB x = true) := by
        have h1 := HR.out
        rw [hkn, HN.out, List.take_length] at h1
        exact h1
      have HAH := hide (rooted_ahead (List.all_eq_true.2 HRA.out))
      have HOS : Hid (OwnN w.heap.size (wr.alloc (.cells #[.string ⟨#[]⟩, .int .i64 1, .string ⟨#[]⟩] 37)) (.slice (some ⟨wr.heap.size, 0, none⟩) 1 1) [ndRoot]) := (OwnN.made wr [ndRoot] (by simp [maxLen])).base HOK.out.size
      have okS := HOK.out.alloc (.cells #[.string ⟨#[]⟩, .int .i64 1, .string ⟨#[]⟩] 37)
      clear HR hkn
      have hgd := guard_node
      go_wp2
      go_loopw [7, 8, 9, 10, 11, 12] (fun s i _ _ _ _ wr => ∃ (k : Nat) (P : List Nd) (a : Bool) (a' : Option Addr) (c' : Nat), k ≤ n ∧ i = .int .i64 k ∧ s = .slice a' P.length c' ∧ Hid (layAll [ndRoot] true (ts.take k).flatten = (P, a)) ∧ Hid (OwnN w.heap.size wr (.slice a' P.length c') P) ∧ Hid (Ok w wr)) (fun _ i _ _ _ _ _ => n - (intOf i).toNat)
      case atStart => exact ⟨0, [ndRoot], true, _, _, Nat.zero_le _, rfl, rfl, rfl, HOS, okS⟩
      case round =>
        obtain ⟨k, P0, a0, s0, d0, hk, rfl, rfl, HL0, HO0, HK0⟩ := hrel
        by_cases hlt : k < n
        · obtain ⟨t, ht⟩ : ∃ t, ts[k]? = some t := ⟨ts[k]'(by have := HN.out; omega), List.getElem?_eq_some_iff.2 ⟨_, rfl⟩⟩
          obtain ⟨b, o, u, rfl, hbs, hcell, hnods⟩ := HA.out k t ht
          obtain ⟨a2, c2, rfl, hB⟩ := hnods.open
          obtain ⟨q, hq⟩ : ∃ q, q = t.length := ⟨_, rfl⟩
          rw [← hq] at hcell
          have HQ := hide hq
          have HTK := hide ht
          have HBB := hide hB
          have HC := hide hcell
          have hkn : (k : Int) < (n : Int) := by omega
          have hq3 : q ≤ 300 := by have := (HZ.out t (List.mem_of_getElem? ht)).1; omega
          clear hcell hnods hq ht hB
          go_wp2
          go_loopw [7, 9, 10, 11, 12] (fun s i _ _ _ wr => ∃ (j : Nat) (P : List Nd) (a : Bool) (a' : Option Addr) (c' : Nat), j ≤ q ∧ i = .int .i64 j ∧ s = .slice a' P.length c' ∧ Hid (layAll [ndRoot] true ((ts.take k).flatten ++ t.take j) = (P, a)) ∧ Hid (OwnN w.heap.size wr (.slice a' P.length c') P) ∧ Hid (Ok w wr)) (fun _ i _ _ _ _ => q - (intOf i).toNat)
          case atStart => exact ⟨0, P0, a0, _, _, Nat.zero_le _, rfl, rfl, by rw [List.take_zero, List.append_nil]; exact HL0, HO0, HK0⟩
          case round =>
            obtain ⟨j, P, a, s1, d1, hj, rfl, rfl, HL, HO, HKR⟩ := hrel
            have hc1 := (HKR.out.2.cell (p := ⟨b, o + k, none⟩) hbs).trans HC.out
            by_cases hjl : j < q
            · obtain ⟨x, hx⟩ : ∃ x, t[j]? = some x := ⟨t[j]'(by have := HQ.out; omega), List.getElem?_eq_some_iff.2 ⟨_, rfl⟩⟩
              obtain ⟨b2, o2, rfl, hb2, hat⟩ := HBB.out j x hx
              obtain ⟨g1, g2, g3⟩ := hat.below HKR.out.2 hb2
              have hjq : (j : Int) < (q : Int) := by omega
              have hxz := (HZ.out t (List.mem_of_getElem? HTK.out)).2 x (List.mem_of_getElem? hx)
              obtain ⟨ys, hys⟩ := split_node HTK.out hx
              have hah := HAH.out
              rw [hys] at hah
              obtain ⟨hPil, hgood, hsome, hnone⟩ := ref_at hah HL.out
              have HYS := hide hys
              have hPl : P.length ≤ 800 := by
                have h1 := layAll_len [ndRoot] true ((ts.take k).flatten ++ t.take j)
                rw [HL.out] at h1
                have h2 := flat_le HTK.out j
                simp only [List.length_singleton] at h1
                omega
              have HPZ : Hid (∀ n ∈ P, n.1.size < 999999) := fun n hn => by
                have h1 := good_may (hPil.good n hn)
                unfold Hog.mayL at h1
                rw [Bool.and_eq_true, decide_eq_true_iff] at h1
                have := Hog.size_len n.1
                unfold key at h1
                omega
              have HTJ := hide (takeN_step hx)
              have HSM := hide hsome
              have HNO := hide hnone
              obtain ⟨W, hW⟩ : ∃ W, W = wr.alloc (.cells #[.string x.1, .int .i64 x.2.1, .string x.2.2] 37) := ⟨_, rfl⟩
              have hbW : Below wr.heap.size wr W := by rw [hW]; exact below_alloc _ _
              have okW := HKR.out.next hbW
              have HOW := hide (HO.out.below hbW)
              have hBW : Blk W wr.heap.size x := by rw [hW]; exact Blk.made wr x
              obtain ⟨⟨x1, x2, x3⟩, _, hbx⟩ := hBW.facts
              have HWE := hide hW
              have HBX := hide hBW
              clear hat hah hys hPil hgood hsome hnone hbW hBW hW HO HKR
              go_wp2_with fail
              rw [← HWE.out]
              refine (at_ok _ P x.1 W HOW.out.nods (by omega)).mono ?_
              rintro e w2 ⟨r, rfl, hr, rfl⟩
              obtain ⟨stop, hstop⟩ : ∃ stop, P.any (blk1 x.1) = stop := ⟨_, rfl⟩
              have HST := hide hstop
              clear hstop
              clear g1 g2 g3 hc1
              go_wp2_with fail
              refine (blocked_ok _ P x.1 stop w2 HOW.out.nods (by omega) HPZ.out HST.out).mono ?_
              rintro e w3 ⟨rfl, rfl⟩
              rcases hr with ⟨rfl, hlook⟩ | ⟨jj, z, rfl, hjj, hlook⟩
              · have hsv := HNO.out hlook
                rw [HST.out] at hsv
                have HLK := hide hlook
                cases hh : housesB x P with
                | true =>
                  rw [hh] at hsv
                  obtain rfl : stop = false := hsv
                  have HNX := hide (lay_new hlook hh)
                  clear hlook hh
                  have HRN := hide ((Run.one w3 x).arg (c := 1) (by simp))
                  have HOX := hide (HOW.out.alloc (.cells #[.string x.1, .int .i64 x.2.1, .string x.2.2] 37))
                  have hsz := okW.size
                  go_wp2
                  go_quiet (fail)
                  have HRNQ : Hid (ArgN ((w3.drewN nq).alloc (.cells #[.string x.1, .int .i64 x.2.1, .string x.2.2] 37)) (some ⟨w3.heap.size, 0, none⟩) 1 1 [x]) := (Run.one (w3.drewN nq) x).arg (c := 1) (by simp)
                  have HOXQ : Hid (OwnN w.heap.size ((w3.drewN nq).alloc (.cells #[.string x.1, .int .i64 x.2.1, .string x.2.2] 37)) (.slice s1 P.length d1) P) := OwnN.alloc (OwnN.below HOW.out (below_drewN (Below.refl _ _) nq)) _
                  go_wp2_with (at_builtin; refine wpList_append_nodes rfl _ _ rfl w.heap.size _ P rfl HOXQ.out _ _ _ [x] rfl HRNQ.out (by simp; omega) (by simp; omega) ?_)
                  intro b6 c6 w6 ho6 hb6
                  have HO6 : Hid (OwnN w.heap.size w6 (.slice b6 (P ++ [x]).length c6) (P ++ [x])) := by
                    show OwnN _ _ _ _
                    rw [List.length_append]
                    exact ho6
                  have ok6 : Ok w w6 := ((okW.next (below_drewN (Below.refl _ _) nq)).alloc _).step hb6
                  clear ho6 hb6
                  go_wp2
                  go_roundw
                  case rel => exact ⟨j + 1, P ++ [x], a, b6, c6, by omega, by go_num, by simp, by rw [HTJ.out, ← List.append_assoc, lay_next HL.out HNX.out, Bool.true_and]; exact rfl, HO6, ok6⟩
                  case measure => simp [intOf]; omega
                | false =>
                  rw [hh] at hsv
                  obtain rfl : stop = true := hsv
                  have HNX := hide (lay_not hlook hh)
                  clear hlook hh
                  go_wp2
                  go_quiet (fail)
                  have HOQ : Hid (OwnN w.heap.size (w3.drewN nq) (.slice s1 P.length d1) P) := OwnN.below HOW.out (below_drewN (Below.refl _ _) nq)
                  have okQ := okW.next (below_drewN (Below.refl _ w3) nq)
                  go_wp2
                  go_roundw
                  case rel => exact ⟨j + 1, P, false && a, s1, d1, by omega, by go_num, rfl, by rw [HTJ.out, ← List.append_assoc]; exact lay_next HL.out HNX.out, HOQ, okQ⟩
                  case measure => simp [intOf]; omega
              · have hsv := HSM.out z hlook
                rw [HST.out] at hsv
                obtain rfl : stop = false := hsv
                obtain ⟨b7, o7, e7, hb7, ⟨y1, y2, y3⟩⟩ : ∃ b7 o7, s1 = some ⟨b7, o7, none⟩ ∧ b7 < w3.heap.size ∧ At w3 b7 (o7 + jj * 3) z := by
                  obtain ⟨a8, c8, e8, h8⟩ := HOW.out.nods.open
                  obtain ⟨b7, o7, e9, h9⟩ := h8 jj z hjj
                  simp only [Value.slice.injEq] at e8
                  exact ⟨b7, o7, by rw [e8.1]; exact e9, h9⟩
                subst e7
                have hjP : jj < P.length := (List.getElem?_eq_some_iff.1 hjj).1
                have hji : (jj : Int) < (P.length : Int) := by omega
                have hj0 : (0 : Int) ≤ (jj : Int) := by omega
                have hj0d : decide ((jj : Int) < 0) = false := by simp
                have HNX := hide (lay_found hlook)
                clear hlook hjj
                go_wp2
                go_quiet (fail)
                have HOQ : Hid (OwnN w.heap.size (w3.drewN nq) (.slice (some ⟨b7, o7, none⟩) P.length d1) P) := OwnN.below HOW.out (below_drewN (Below.refl _ _) nq)
                have okQ := okW.next (below_drewN (Below.refl _ w3) nq)
                go_wp2
                go_roundw
                case rel => exact ⟨j + 1, P, decide (x = z) && a, _, d1, by omega, by go_num, rfl, by rw [HTJ.out, ← List.append_assoc]; exact lay_next HL.out HNX.out, HOQ, okQ⟩
                case measure => simp [intOf]; omega
            · have hjq : j = q := by omega
              have hjd : decide ((j : Int) < (q : Int)) = false := by simp; omega
              have HLE : Hid (layAll [ndRoot] true (ts.take (k + 1)).flatten = (P, a)) := by
                have h1 := HL.out
                rw [hjq, HQ.out, List.take_length, ← flat_step HTK.out] at h1
                exact h1
              clear hjq
              go_wp2
              go_roundw
              case rel => exact ⟨k + 1, P, a, s1, d1, by omega, by go_num, rfl, HLE, HO, HKR⟩
              case measure => simp [intOf]; omega
        · have hkn : k = n := by omega
          have hkd2 : decide ((k : Int) < (n : Int)) = false := by simp; omega
          have HLE : Hid (layAll [ndRoot] true ts.flatten = (P0, a0)) := by
            have h1 := HL0.out
            rw [hkn, HN.out, List.take_length] at h1
            exact h1
          have hPl : P0.length ≤ 801 := by
            have h1 := layAll_len [ndRoot] true ts.flatten
            rw [HLE.out] at h1
            simp only [List.length_singleton] at h1
            omega
          clear hkn
          by_cases h400 : 400 < P0.length
          · have hi : (400 : Int) < (P0.length : Int) := by omega
            go_wp2
            go_ret2
            exact ⟨_, [], 3, rfl, OwnN.nil _ _, union_full (by decide) HRA.out HLE.out (by simp) h400, HOK0.out.next HK0.out.2, HK0.out.2⟩
          · have hi : (P0.length : Int) ≤ (400 : Int) := by omega
            have hid : decide ((400 : Int) < (P0.length : Int)) = false := by simp; omega
            go_wp2_with fail
            refine (rsort_any _ P0 wr HO0.out.nods (by omega)).mono ?_
            rintro e w5 ⟨v5, es, rfl, ho5, hs5, hal5, hb5⟩
            have HO5 := hide (ho5.base HK0.out.size)
            have HS5 := hide (Sorted.mk hs5 hal5)
            have ok5 := HK0.out.next hb5
            clear ho5 hs5 hal5 hb5
            go_wp2
            go_ret2
            exact ⟨_, es, 0, rfl, HO5.out, union_done (by decide) HRA.out HLE.out (by simp) h400 HS5.out, HOK0.out.next ok5.2, ok5.2⟩

set_option maxRecDepth 100000 in
set_option maxHeartbeats 8000000 in
theorem rof_refuse (v : Value) (ts : List (List Nd)) (w0 w : World) (ok : Ok w0 w) (hT : Trs w v ts) (hz : ∀ t ∈ ts, t.length ≤ 300 ∧ ∀ n ∈ t, n.1.size < 900000 ∧ n.2.2.size < 900000) (hl : ts.length < 1000) (hf : ts.flatten.length < 800) :
    Calls Tryd.prog 10 #[.int .i64 0, v] w (OfPost 0 ts w0 w) := by
  obtain ⟨ao, c, rfl, hA⟩ := hT.open
  obtain ⟨n, hn⟩ : ∃ n, n = ts.length := ⟨_, rfl⟩
  rw [← hn] at hl ⊢
  have HN := hide hn
  have HA := hide hA
  have HZ := hide hz
  have HSH := hide ok.shape
  have HOK0 := hide ok
  clear hT hA hz hn ok
  go_enter Tryd.func10, Tryd.ntmps10
  go_wp2
  go_loopw [6] (fun i wr => ∃ k : Nat, k ≤ n ∧ i = .int .i64 k ∧ Hid (∀ x ∈ ts.take k, rootedB x = true) ∧ Hid (Ok w wr)) (fun i _ => n - (intOf i).toNat)
  case atStart => exact ⟨0, Nat.zero_le _, rfl, fun x hx => by simp at hx, Ok.start HSH.out⟩
  case round =>
    obtain ⟨k, hk, rfl, HR, HOK⟩ := hrel
    by_cases hlt : k < n
    · obtain ⟨t, ht⟩ : ∃ t, ts[k]? = some t := ⟨ts[k]'(by have := HN.out; omega), List.getElem?_eq_some_iff.2 ⟨_, rfl⟩⟩
      obtain ⟨b, o, u, rfl, hbs, hcell, hnods⟩ := HA.out k t ht
      have hc1 := (HOK.out.2.cell (p := ⟨b, o + k, none⟩) hbs).trans hcell
      have HC := hide hcell
      have HN1 := hide (hnods.below HOK.out.2)
      have HTK := hide ht
      obtain ⟨y, hy⟩ : ∃ y, mayN t = y := ⟨_, rfl⟩
      have HY := hide hy
      have hkn : (k : Int) < (n : Int) := by omega
      clear hcell hnods ht hy
      go_wp2_with fail
      refine (rmayT_ok u t y w wr HOK.out (HZ.out t (List.mem_of_getElem? HTK.out)).2 HN1.out (HZ.out t (List.mem_of_getElem? HTK.out)).1 HY.out).mono ?_
      rintro e w1 ⟨rfl, ok1, hb1⟩
      have HN2 := hide (HN1.out.below hb1)
      clear hb1 hc1 HN1
      cases y with
      | false =>
        go_wp2
        go_ret2
        exact ⟨_, [], 7, rfl, OwnN.nil _ _, union_no (by decide) (List.mem_of_getElem? HTK.out) (rooted_nil HY.out), HOK0.out.next ok1.2, ok1.2⟩
      | true =>
        have hc2 := (ok1.2.cell (p := ⟨b, o + k, none⟩) hbs).trans HC.out
        cases t with
        | nil => exact absurd HY.out (by decide +kernel)
        | cons n0 r =>
          obtain ⟨b0, o0, c0, rfl, hc0, hat, hl0⟩ := HN2.out.at0
          have hkd := hat.kind
          have hi0 : (0 : Int) < ((r.length + 1 : Nat) : Int) := by omega
          obtain ⟨z, hz⟩ : ∃ z, (n0.2.1 != 1) = z := ⟨_, rfl⟩
          have HKZ := hide hz
          clear hat
          cases z with
          | true =>
            go_wp2
            go_ret2
            refine ⟨_, [], 7, rfl, OwnN.nil _ _, union_no (by decide) (List.mem_of_getElem? HTK.out) ?_, HOK0.out.next ok1.2, ok1.2⟩
            unfold rootedB
            rw [HY.out, Bool.true_and]
            have := HKZ.out
            simpa using this
          | false =>
            have HRT : Hid (rootedB (n0 :: r) = true) := by
              show _ = _
              unfold rootedB
              rw [HY.out, Bool.true_and]
              have := HKZ.out
              simpa using this
            go_wp2
            go_roundw
            case rel => exact ⟨k + 1, by omega, by go_num, all_take HR.out HTK.out HRT.out, ok1⟩
            case measure => simp [intOf]; omega
    · have hkn : k = n := by omega
      have hkd : decide ((k : Int) < (n : Int)) = false := by simp; omega
      have HRA : Hid (∀ x ∈ ts, rootedB x = true) := by
        have h1 := HR.out
        rw [hkn, HN.out, List.take_length] at h1
        exact h1
      have HAH := hide (rooted_ahead (List.all_eq_true.2 HRA.out))
      have HOS : Hid (OwnN w.heap.size (wr.alloc (.cells #[.string ⟨#[]⟩, .int .i64 1, .string ⟨#[]⟩] 37)) (.slice (some ⟨wr.heap.size, 0, none⟩) 1 1) [ndRoot]) := (OwnN.made wr [ndRoot] (by simp [maxLen])).base HOK.out.size
      have okS := HOK.out.alloc (.cells #[.string ⟨#[]⟩, .int .i64 1, .string ⟨#[]⟩] 37)
      clear HR hkn
      have hgd := guard_node
      go_wp2
      go_loopw [7, 8, 9, 10, 11, 12] (fun s i _ _ _ _ wr => ∃ (k : Nat) (P : List Nd) (a : Bool) (a' : Option Addr) (c' : Nat), k ≤ n ∧ i = .int .i64 k ∧ s = .slice a' P.length c' ∧ Hid (layAll [ndRoot] true (ts.take k).flatten = (P, a) ∧ a = true) ∧ Hid (OwnN w.heap.size wr (.slice a' P.length c') P) ∧ Hid (Ok w wr)) (fun _ i _ _ _ _ _ => n - (intOf i).toNat)
      case atStart => exact ⟨0, [ndRoot], true, _, _, Nat.zero_le _, rfl, rfl, ⟨rfl, rfl⟩, HOS, okS⟩
      case round =>
        obtain ⟨k, P0, a0, s0, d0, hk, rfl, rfl, HL0, HO0, HK0⟩ := hrel
        by_cases hlt : k < n
        · obtain ⟨t, ht⟩ : ∃ t, ts[k]? = some t := ⟨ts[k]'(by have := HN.out; omega), List.getElem?_eq_some_iff.2 ⟨_, rfl⟩⟩
          obtain ⟨b, o, u, rfl, hbs, hcell, hnods⟩ := HA.out k t ht
          obtain ⟨a2, c2, rfl, hB⟩ := hnods.open
          obtain ⟨q, hq⟩ : ∃ q, q = t.length := ⟨_, rfl⟩
          rw [← hq] at hcell
          have HQ := hide hq
          have HTK := hide ht
          have HBB := hide hB
          have HC := hide hcell
          have hkn : (k : Int) < (n : Int) := by omega
          have hq3 : q ≤ 300 := by have := (HZ.out t (List.mem_of_getElem? ht)).1; omega
          clear hcell hnods hq ht hB
          go_wp2
          go_loopw [7, 9, 10, 11, 12] (fun s i _ _ _ wr => ∃ (j : Nat) (P : List Nd) (a : Bool) (a' : Option Addr) (c' : Nat), j ≤ q ∧ i = .int .i64 j ∧ s = .slice a' P.length c' ∧ Hid (layAll [ndRoot] true ((ts.take k).flatten ++ t.take j) = (P, a) ∧ a = true) ∧ Hid (OwnN w.heap.size wr (.slice a' P.length c') P) ∧ Hid (Ok w wr)) (fun _ i _ _ _ _ => q - (intOf i).toNat)
          case atStart => exact ⟨0, P0, a0, _, _, Nat.zero_le _, rfl, rfl, by rw [List.take_zero, List.append_nil]; exact HL0, HO0, HK0⟩
          case round =>
            obtain ⟨j, P, a, s1, d1, hj, rfl, rfl, HL, HO, HKR⟩ := hrel
            have hc1 := (HKR.out.2.cell (p := ⟨b, o + k, none⟩) hbs).trans HC.out
            by_cases hjl : j < q
            · obtain ⟨x, hx⟩ : ∃ x, t[j]? = some x := ⟨t[j]'(by have := HQ.out; omega), List.getElem?_eq_some_iff.2 ⟨_, rfl⟩⟩
              obtain ⟨b2, o2, rfl, hb2, hat⟩ := HBB.out j x hx
              obtain ⟨g1, g2, g3⟩ := hat.below HKR.out.2 hb2
              have hjq : (j : Int) < (q : Int) := by omega
              have hxz := (HZ.out t (List.mem_of_getElem? HTK.out)).2 x (List.mem_of_getElem? hx)
              obtain ⟨ys, hys⟩ := split_node HTK.out hx
              have hah := HAH.out
              rw [hys] at hah
              obtain ⟨hPil, hgood, hsome, hnone⟩ := ref_at hah HL.out.1
              have HYS := hide hys
              have hPl : P.length ≤ 800 := by
                have h1 := layAll_len [ndRoot] true ((ts.take k).flatten ++ t.take j)
                rw [HL.out.1] at h1
                have h2 := flat_le HTK.out j
                simp only [List.length_singleton] at h1
                omega
              have HPZ : Hid (∀ n ∈ P, n.1.size < 999999) := fun n hn => by
                have h1 := good_may (hPil.good n hn)
                unfold Hog.mayL at h1
                rw [Bool.and_eq_true, decide_eq_true_iff] at h1
                have := Hog.size_len n.1
                unfold key at h1
                omega
              have HTJ := hide (takeN_step hx)
              have HSM := hide hsome
              have HNO := hide hnone
              obtain ⟨W, hW⟩ : ∃ W, W = wr.alloc (.cells #[.string x.1, .int .i64 x.2.1, .string x.2.2] 37) := ⟨_, rfl⟩
              have hbW : Below wr.heap.size wr W := by rw [hW]; exact below_alloc _ _
              have okW := HKR.out.next hbW
              have HOW := hide (HO.out.below hbW)
              have hBW : Blk W wr.heap.size x := by rw [hW]; exact Blk.made wr x
              obtain ⟨⟨x1, x2, x3⟩, _, hbx⟩ := hBW.facts
              have HWE := hide hW
              have HBX := hide hBW
              clear hat hah hys hPil hgood hsome hnone hbW hBW hW HO HKR
              go_wp2_with fail
              rw [← HWE.out]
              refine (at_ok _ P x.1 W HOW.out.nods (by omega)).mono ?_
              rintro e w2 ⟨r, rfl, hr, rfl⟩
              obtain ⟨stop, hstop⟩ : ∃ stop, P.any (blk1 x.1) = stop := ⟨_, rfl⟩
              have HST := hide hstop
              clear hstop
              clear g1 g2 g3 hc1
              go_wp2_with fail
              refine (blocked_ok _ P x.1 stop w2 HOW.out.nods (by omega) HPZ.out HST.out).mono ?_
              rintro e w3 ⟨rfl, rfl⟩
              rcases hr with ⟨rfl, hlook⟩ | ⟨jj, z, rfl, hjj, hlook⟩
              · have hsv := HNO.out hlook
                rw [HST.out] at hsv
                have HLK := hide hlook
                cases hh : housesB x P with
                | true =>
                  rw [hh] at hsv
                  obtain rfl : stop = false := hsv
                  have HNX := hide (lay_new hlook hh)
                  clear hlook hh
                  have HRN := hide ((Run.one w3 x).arg (c := 1) (by simp))
                  have HOX := hide (HOW.out.alloc (.cells #[.string x.1, .int .i64 x.2.1, .string x.2.2] 37))
                  have hsz := okW.size
                  go_wp2
                  go_quiet (fail)
                  have HRNQ : Hid (ArgN ((w3.drewN nq).alloc (.cells #[.string x.1, .int .i64 x.2.1, .string x.2.2] 37)) (some ⟨w3.heap.size, 0, none⟩) 1 1 [x]) := (Run.one (w3.drewN nq) x).arg (c := 1) (by simp)
                  have HOXQ : Hid (OwnN w.heap.size ((w3.drewN nq).alloc (.cells #[.string x.1, .int .i64 x.2.1, .string x.2.2] 37)) (.slice s1 P.length d1) P) := OwnN.alloc (OwnN.below HOW.out (below_drewN (Below.refl _ _) nq)) _
                  go_wp2_with (at_builtin; refine wpList_append_nodes rfl _ _ rfl w.heap.size _ P rfl HOXQ.out _ _ _ [x] rfl HRNQ.out (by simp; omega) (by simp; omega) ?_)
                  intro b6 c6 w6 ho6 hb6
                  have HO6 : Hid (OwnN w.heap.size w6 (.slice b6 (P ++ [x]).length c6) (P ++ [x])) := by
                    show OwnN _ _ _ _
                    rw [List.length_append]
                    exact ho6
                  have ok6 : Ok w w6 := ((okW.next (below_drewN (Below.refl _ _) nq)).alloc _).step hb6
                  clear ho6 hb6
                  go_wp2
                  go_roundw
                  case rel => exact ⟨j + 1, P ++ [x], a, b6, c6, by omega, by go_num, by simp, ⟨by rw [HTJ.out, ← List.append_assoc, lay_next HL.out.1 HNX.out, Bool.true_and], HL.out.2⟩, HO6, ok6⟩
                  case measure => simp [intOf]; omega
                | false =>
                  rw [hh] at hsv
                  obtain rfl : stop = true := hsv
                  have HNX := hide (lay_not hlook hh)
                  clear hlook hh
                  have HFL : Hid ((layAll [ndRoot] true ts.flatten).2 = false) := by
                    show _ = _
                    rw [HYS.out, show x :: ys = [x] ++ ys from rfl, ← List.append_assoc]
                    refine flag_off ?_
                    rw [lay_next HL.out.1 HNX.out]
                    rfl
                  go_wp2
                  go_quiet (fail)
                  go_wp2
                  go_ret2
                  have h5 := okW.next (below_drewN (Below.refl _ w3) nq)
                  exact ⟨_, [], 9, rfl, OwnN.nil _ _, union_clash HRA.out (Prod.ext rfl HFL.out), HOK0.out.next h5.2, h5.2⟩
              · have hsv := HSM.out z hlook
                rw [HST.out] at hsv
                obtain rfl : stop = false := hsv
                obtain ⟨b7, o7, e7, hb7, ⟨y1, y2, y3⟩⟩ : ∃ b7 o7, s1 = some ⟨b7, o7, none⟩ ∧ b7 < w3.heap.size ∧ At w3 b7 (o7 + jj * 3) z := by
                  obtain ⟨a8, c8, e8, h8⟩ := HOW.out.nods.open
                  obtain ⟨b7, o7, e9, h9⟩ := h8 jj z hjj
                  simp only [Value.slice.injEq] at e8
                  exact ⟨b7, o7, by rw [e8.1]; exact e9, h9⟩
                subst e7
                have hjP : jj < P.length := (List.getElem?_eq_some_iff.1 hjj).1
                have hji : (jj : Int) < (P.length : Int) := by omega
                have hj0 : (0 : Int) ≤ (jj : Int) := by omega
                have hj0d : decide ((jj : Int) < 0) = false := by simp
                have HNX := hide (lay_found hlook)
                clear hlook hjj
                by_cases hzx : z = x
                · subst hzx
                  have hnq := fun w => neq_node z z w
                  have hnn : nneq z z = false := by simp [nneq]
                  rw [hnn] at hnq
                  clear hnn
                  go_wp2
                  go_quiet (fail)
                  have HOQ : Hid (OwnN w.heap.size (w3.drewN nq) (.slice (some ⟨b7, o7, none⟩) P.length d1) P) := OwnN.below HOW.out (below_drewN (Below.refl _ _) nq)
                  have okQ := okW.next (below_drewN (Below.refl _ w3) nq)
                  clear hnq
                  go_wp2
                  go_roundw
                  case rel => exact ⟨j + 1, P, true, _, d1, by omega, by go_num, rfl, ⟨by rw [HTJ.out, ← List.append_assoc, lay_next HL.out.1 HNX.out, HL.out.2]; simp, rfl⟩, HOQ, okQ⟩
                  case measure => simp [intOf]; omega
                · have HFL : Hid ((layAll [ndRoot] true ts.flatten).2 = false) := by
                    show _ = _
                    rw [HYS.out, show x :: ys = [x] ++ ys from rfl, ← List.append_assoc]
                    refine flag_off ?_
                    rw [lay_next HL.out.1 HNX.out, decide_eq_false (fun e => hzx e.symm)]
                    rfl
                  have hnq := fun w => neq_node z x w
                  have hnn : nneq z x = true := by simp [nneq, hzx]
                  rw [hnn] at hnq
                  have HZX := hide hzx
                  clear hnn hzx
                  go_wp2
                  go_quiet (fail)
                  go_wp2
                  go_ret2
                  have h5 := okW.next (below_drewN (Below.refl _ w3) nq)
                  exact ⟨_, [], 9, rfl, OwnN.nil _ _, union_clash HRA.out (Prod.ext rfl HFL.out), HOK0.out.next h5.2, h5.2⟩
            · have hjq : j = q := by omega
              have hjd : decide ((j : Int) < (q : Int)) = false := by simp; omega
              have HLE : Hid (layAll [ndRoot] true (ts.take (k + 1)).flatten = (P, a) ∧ a = true) := by
                have h1 := HL.out
                rw [hjq, HQ.out, List.take_length, ← flat_step HTK.out] at h1
                exact h1
              clear hjq
              go_wp2
              go_roundw
              case rel => exact ⟨k + 1, P, a, s1, d1, by omega, by go_num, rfl, HLE, HO, HKR⟩
              case measure => simp [intOf]; omega
        · have hkn : k = n := by omega
          have hkd2 : decide ((k : Int) < (n : Int)) = false := by simp; omega
          have HLE : Hid (layAll [ndRoot] true ts.flatten = (P0, a0) ∧ a0 = true) := by
            have h1 := HL0.out
            rw [hkn, HN.out, List.take_length] at h1
            exact h1
          have hPl : P0.length ≤ 801 := by
            have h1 := layAll_len [ndRoot] true ts.flatten
            rw [HLE.out.1] at h1
            simp only [List.length_singleton] at h1
            omega
          clear hkn
          by_cases h400 : 400 < P0.length
          · have hi : (400 : Int) < (P0.length : Int) := by omega
            go_wp2
            go_ret2
            exact ⟨_, [], 3, rfl, OwnN.nil _ _, union_full (by decide) HRA.out HLE.out.1 (by rw [HLE.out.2]; simp) h400, HOK0.out.next HK0.out.2, HK0.out.2⟩
          · have hi : (P0.length : Int) ≤ (400 : Int) := by omega
            have hid : decide ((400 : Int) < (P0.length : Int)) = false := by simp; omega
            go_wp2_with fail
            refine (rsort_any _ P0 wr HO0.out.nods (by omega)).mono ?_
            rintro e w5 ⟨v5, es, rfl, ho5, hs5, hal5, hb5⟩
            have HO5 := hide (ho5.base HK0.out.size)
            have HS5 := hide (Sorted.mk hs5 hal5)
            have ok5 := HK0.out.next hb5
            clear ho5 hs5 hal5 hb5
            go_wp2
            go_ret2
            exact ⟨_, es, 0, rfl, HO5.out, union_done (by decide) HRA.out HLE.out.1 (by rw [HLE.out.2]; simp) h400 HS5.out, HOK0.out.next ok5.2, ok5.2⟩

theorem rof_ok (policy : Int) (v : Value) (ts : List (List Nd)) (w0 w : World) (ok : Ok w0 w) (hT : Trs w v ts) (hz : ∀ t ∈ ts, t.length ≤ 300 ∧ ∀ n ∈ t, n.1.size < 900000 ∧ n.2.2.size < 900000) (hl : ts.length < 1000) (hf : ts.flatten.length < 800) :
    Calls Tryd.prog 10 #[.int .i64 policy, v] w (OfPost policy ts w0 w) := by
  by_cases h0 : policy = 0
  · rw [h0]
    exact rof_refuse v ts w0 w ok hT hz hl hf
  · by_cases h1 : policy = 1
    · rw [h1]
      exact rof_first v ts w0 w ok hT hz hl hf
    · exact rof_arg policy v ts w0 w ok ⟨h0, h1⟩
end Go.Proofs.YteablfekfijnhaaDoor
