/- The walk of the document's own answer, chapter 11: May. -/
import Derived.Test.YtmlkknbndglgaaaGreatDoorJ20
import Derived.Test.YtmlkknbndglgaaaGreatDoorMQ
import Derived.Test.YtmlkknbndglgaaaGreatDoorXE
import Derived.Test.YtmlkknbndglgaaaGreatDoorKRa
import Derived.RegionTactic
namespace Go.Proofs.YtmlkknbndglgaaaGreatDoor
open Go.RowKit

theorem allM_step {α : Type} {l : List α} {k : Nat} {x : α} {f : α → Bool} (hx : l[k]? = some x) (h : f x = true) (ha : (l.take k).all f = true) : (l.take (k + 1)).all f = true := by
  obtain ⟨hk, rfl⟩ := List.getElem?_eq_some_iff.1 hx
  rw [List.take_succ_eq_append_getElem hk, List.all_append, ha, List.all_cons, h]; rfl
theorem allM_fall {α : Type} {l : List α} {k : Nat} {x : α} {f : α → Bool} (hx : l[k]? = some x) (h : f x = false) : l.all f = false := by
  rw [List.all_eq_false]
  exact ⟨x, List.mem_of_getElem? hx, by rw [h]; exact Bool.false_ne_true⟩
/-- A slice of items, where it holds one. -/
theorem Its.at' {w : World} {a : Option Addr} {m c : Nat} {is : List It} (h : Its w (.slice a m c) is) {j : Nat} {i : It} (hi : is[j]? = some i) :
    ∃ b o ra rn rc, a = some ⟨b, o, Option.none⟩ ∧ b < w.heap.size ∧ w.cell? ⟨b, o + j * 3, Option.none⟩ = some (.string i.1) ∧ w.cell? ⟨b, o + j * 3 + 1, Option.none⟩ = some (.slice ra rn rc) ∧ Txt w (.slice ra rn rc) i.2.1 := by
  rcases h with ⟨rfl, _⟩ | ⟨b, o, c', e, _, hr⟩
  · simp at hi
  · obtain ⟨rfl, _, _⟩ : a = some ⟨b, o, Option.none⟩ ∧ m = is.length ∧ c = c' := by simpa using e
    obtain ⟨ra, rn, rc, ta, tn, tc, h0, h1, _, h3, _⟩ := hr.2 j i hi
    exact ⟨b, o, ra, rn, rc, rfl, hr.1, h0, h1, h3⟩
theorem Txt.at' {w : World} {a : Option Addr} {m c : Nat} {xs : List ByteArray} (h : Txt w (.slice a m c) xs) {j : Nat} {x : ByteArray} (hx : xs[j]? = some x) :
    ∃ b o, a = some ⟨b, o, Option.none⟩ ∧ b < w.heap.size ∧ w.cell? ⟨b, o + j, Option.none⟩ = some (.string x) := by
  rcases h with ⟨rfl, _⟩ | ⟨b, o, c', e, _, hb, hc⟩
  · simp at hx
  · obtain ⟨rfl, _, _⟩ : a = some ⟨b, o, Option.none⟩ ∧ m = xs.length ∧ c = c' := by simpa using e
    exact ⟨b, o, rfl, hb, hc j x hx⟩

set_option maxRecDepth 100000 in
set_option maxHeartbeats 4000000 in
theorem rmay_bad (q : Hog.RegP) (is : List It) (u v : Value) (r : Bool) (w : World) (hf : FairP q) (hi : Its w u is) (hq : rsI is = q.items) (hp : Txt w v q.prof) (hv : mayR q = r) (hp0 : (q.pol != 0) = true) (hp1 : (q.pol != 1) = true) :
    Calls Tryz.prog 14 #[.agg #[.string q.pre, u, v, .int .i64 q.pol]] w fun e w' => e = .returned (.bool r) ∧ Below w.heap.size w w' := by
  have hil : is.length = q.items.length := by rw [← hq]; exact (List.length_map _).symm
  obtain ⟨ia, ic, rfl⟩ := hi.form
  obtain ⟨pa, pc, rfl⟩ := hp.form
  obtain ⟨m, hm⟩ : ∃ m, is.length = m := ⟨_, rfl⟩
  obtain ⟨n, hn⟩ : ∃ n, q.prof.length = n := ⟨_, rfl⟩
  rw [hm] at hi ⊢
  rw [hn] at hp ⊢
  obtain ⟨W, hW⟩ : ∃ W, W = w.alloc (pcells q.pre (.slice ia m ic) (.slice pa n pc) q.pol) := ⟨_, rfl⟩
  have HB0 : Hid (Below w.heap.size w W) := by rw [hW]; exact below_box _ _
  have HBX : Hid (BoxP W w.heap.size 25 q.pre (.slice ia m ic) (.slice pa n pc) q.pol) := by rw [hW]; exact BoxP.made _ _ _ _ _ _
  have HW : Hid (w.alloc (.cells #[.string q.pre, .slice ia m ic, .slice pa n pc, .int .i64 q.pol] 25) = W) := hW.symm
  have HI := hide (hi.below HB0.out)
  have HP := hide (hp.below HB0.out)
  have HF := hide hf
  have HMN : Hid (is.length = m) := hm
  have HNN : Hid (q.prof.length = n) := hn
  have hm9 : m < 900000 := by rw [← hm, hil]; exact hf.len
  have hn9 : n < 900000 := by rw [← hn]; exact hf.plen
  have HFI : Hid (∀ i ∈ rsI is, FairR i) := by rw [hq]; exact hf.item
  have HQ := hide hq
  have HV : Hid ((prefB q.pre && polB q.pol && refsB (namesI is) && decide (n ≤ 8) && (rsI is).all (fun i => refsB i.2) && q.prof.all (fun x => Hog.nameL x.data.toList)) = r) := by
    have h := mayR_ref q
    rw [hv, ← hq, hn] at h
    have e : (rsI is).map (·.1) = namesI is := by unfold rsI namesI; rw [List.map_map]; rfl
    rw [e] at h
    exact h.symm
  have hpre : q.pre.size ≤ 9223372036854775807 := by have := hf.pre; omega
  clear hf hi hq hp hv hil hm hn hW
  obtain ⟨x1, h1⟩ : ∃ x, prefB q.pre = x := ⟨_, rfl⟩
  have H1 := hide h1
  clear h1
  obtain ⟨⟨c0, c1, c2, c3⟩, _, hlt⟩ := HBX.out.facts
  go_enter Tryz.func14, Tryz.ntmps14
  cases x1 with
  | false =>
    have HR : Hid (false = r) := by rw [← HV.out, H1.out]; exact rfl
    go_wp2_with fail
    rw [HW.out]
    refine (rprefix_ok q.pre false W hpre H1.out).mono ?_
    rintro e w1 ⟨rfl, rfl⟩
    go_wp2
    go_ret
    exact ⟨ret_bool HR.out, HB0.out⟩
  | true =>
    have HR : Hid (false = r) := by
      have e : polB q.pol = false := by unfold polB; rw [bne_iff_ne] at hp0 hp1; simp [hp0, hp1]
      rw [← HV.out, e, Bool.and_false]; exact rfl
    go_wp2_with fail
    rw [HW.out]
    refine (rprefix_ok q.pre true W hpre H1.out).mono ?_
    rintro e w1 ⟨rfl, rfl⟩
    go_wp2
    go_ret
    exact ⟨ret_bool HR.out, HB0.out⟩

set_option maxRecDepth 100000 in
set_option maxHeartbeats 4000000 in
theorem rmay_zero (q : Hog.RegP) (is : List It) (u v : Value) (r : Bool) (w : World) (hf : FairP q) (hi : Its w u is) (hq : rsI is = q.items) (hp : Txt w v q.prof) (hv : mayR q = r) (hp0 : (q.pol != 0) = false) :
    Calls Tryz.prog 14 #[.agg #[.string q.pre, u, v, .int .i64 q.pol]] w fun e w' => e = .returned (.bool r) ∧ Below w.heap.size w w' := by
  have hil : is.length = q.items.length := by rw [← hq]; exact (List.length_map _).symm
  obtain ⟨ia, ic, rfl⟩ := hi.form
  obtain ⟨pa, pc, rfl⟩ := hp.form
  obtain ⟨m, hm⟩ : ∃ m, is.length = m := ⟨_, rfl⟩
  obtain ⟨n, hn⟩ : ∃ n, q.prof.length = n := ⟨_, rfl⟩
  rw [hm] at hi ⊢
  rw [hn] at hp ⊢
  obtain ⟨W, hW⟩ : ∃ W, W = w.alloc (pcells q.pre (.slice ia m ic) (.slice pa n pc) q.pol) := ⟨_, rfl⟩
  have HB0 : Hid (Below w.heap.size w W) := by rw [hW]; exact below_box _ _
  have HBX : Hid (BoxP W w.heap.size 25 q.pre (.slice ia m ic) (.slice pa n pc) q.pol) := by rw [hW]; exact BoxP.made _ _ _ _ _ _
  have HW : Hid (w.alloc (.cells #[.string q.pre, .slice ia m ic, .slice pa n pc, .int .i64 q.pol] 25) = W) := hW.symm
  have HI := hide (hi.below HB0.out)
  have HP := hide (hp.below HB0.out)
  have HF := hide hf
  have HMN : Hid (is.length = m) := hm
  have HNN : Hid (q.prof.length = n) := hn
  have hm9 : m < 900000 := by rw [← hm, hil]; exact hf.len
  have hn9 : n < 900000 := by rw [← hn]; exact hf.plen
  have HFI : Hid (∀ i ∈ rsI is, FairR i) := by rw [hq]; exact hf.item
  have HQ := hide hq
  have HV : Hid ((prefB q.pre && polB q.pol && refsB (namesI is) && decide (n ≤ 8) && (rsI is).all (fun i => refsB i.2) && q.prof.all (fun x => Hog.nameL x.data.toList)) = r) := by
    have h := mayR_ref q
    rw [hv, ← hq, hn] at h
    have e : (rsI is).map (·.1) = namesI is := by unfold rsI namesI; rw [List.map_map]; rfl
    rw [e] at h
    exact h.symm
  have hpre : q.pre.size ≤ 9223372036854775807 := by have := hf.pre; omega
  clear hf hi hq hp hv hil hm hn hW
  obtain ⟨x1, h1⟩ : ∃ x, prefB q.pre = x := ⟨_, rfl⟩
  have H1 := hide h1
  clear h1
  obtain ⟨⟨c0, c1, c2, c3⟩, _, hlt⟩ := HBX.out.facts
  go_enter Tryz.func14, Tryz.ntmps14
  cases x1 with
  | false =>
    have HR : Hid (false = r) := by rw [← HV.out, H1.out]; exact rfl
    go_wp2_with fail
    rw [HW.out]
    refine (rprefix_ok q.pre false W hpre H1.out).mono ?_
    rintro e w1 ⟨rfl, rfl⟩
    go_wp2
    go_ret
    exact ⟨ret_bool HR.out, HB0.out⟩
  | true =>
    have HPO : Hid (polB q.pol = true) := by show _ = _; unfold polB; simp_all
    obtain ⟨x3, h3⟩ : ∃ x, refsB (namesI is) = x := ⟨_, rfl⟩
    have H3 := hide h3
    clear h3
    have HNL : Hid ((namesI is).length = m) := by unfold namesI; rw [List.length_map]; exact HMN.out
    have HNS : Hid (∀ x ∈ namesI is, x.size ≤ 9223372036854775807) := fun x hx => by
      obtain ⟨i, hi, rfl⟩ := List.mem_map.1 hx
      have := (HFI.out (i.1, i.2.1) (List.mem_map.2 ⟨i, hi, rfl⟩)).name
      simp only at this
      omega
    cases x3 with
    | false =>
      have HR : Hid (false = r) := by rw [← HV.out, H3.out, Bool.and_false]; exact rfl
      go_wp2_with fail
      rw [HW.out]
      refine (rprefix_ok q.pre true W hpre H1.out).mono ?_
      rintro e w1 ⟨rfl, rfl⟩
      go_wp2_with fail
      refine (rnames9_ok _ is (namesI is) _ HI.out (by rw [HMN.out]; omega) rfl).mono ?_
      rintro e w2 ⟨a2, k2, rfl, ho2, hb2⟩
      have HB2 := hide (below_two HB0.out hb2)
      have HT2 := hide ho2.txt
      clear hb2 ho2
      go_wp2_with fail
      refine (rnames_ok _ (namesI is) false _ HT2.out (by rw [HNL.out]; unfold maxLen; omega) HNS.out H3.out).mono ?_
      rintro e w3 ⟨rfl, hb3⟩
      have HB3 := hide (below_two HB2.out hb3)
      clear hb3
      go_wp2
      go_ret
      exact ⟨ret_bool HR.out, HB3.out⟩
    | true =>
      go_wp2_with fail
      rw [HW.out]
      refine (rprefix_ok q.pre true W hpre H1.out).mono ?_
      rintro e w1 ⟨rfl, rfl⟩
      go_wp2_with fail
      refine (rnames9_ok _ is (namesI is) _ HI.out (by rw [HMN.out]; omega) rfl).mono ?_
      rintro e w2 ⟨a2, k2, rfl, ho2, hb2⟩
      have HB2 := hide (below_two HB0.out hb2)
      have HT2 := hide ho2.txt
      have HBX2 := hide (HBX.out.below hb2)
      have HI2 := hide (Its.below HI.out hb2)
      have HP2 := hide (Txt.below HP.out hb2)
      clear hb2 ho2
      go_wp2_with fail
      refine (rnames_ok _ (namesI is) true _ HT2.out (by rw [HNL.out]; unfold maxLen; omega) HNS.out H3.out).mono ?_
      rintro e w3 ⟨rfl, hb3⟩
      have HB3 := hide (below_two HB2.out hb3)
      have HBX3 := hide (HBX2.out.below hb3)
      have HI3 := hide (Its.below HI2.out hb3)
      have HP3 := hide (Txt.below HP2.out hb3)
      clear hb3 c0 c1 c2 c3 hlt HBX HI HP HI2 HP2 HBX2
      obtain ⟨⟨c0, c1, c2, c3⟩, _, hlt⟩ := HBX3.out.facts
      by_cases hn8 : n ≤ 8
      case neg =>
        have hn8i : (8 : Int) < (n : Int) := by omega
        have HR : Hid (false = r) := by rw [← HV.out, decide_eq_false hn8, Bool.and_false]; exact rfl
        go_wp2
        go_ret
        exact ⟨ret_bool HR.out, HB3.out⟩
      case pos =>
        have hn8i : (n : Int) ≤ (8 : Int) := by omega
        have HV2 : Hid (((rsI is).all (fun i => refsB i.2) && q.prof.all (fun x => Hog.nameL x.data.toList)) = r) := by
          have h := HV.out
          rw [H1.out, HPO.out, H3.out, decide_eq_true hn8] at h
          simp only [Bool.true_and] at h
          exact h
        go_wp2
        go_loopw [3] (fun i wr => ∃ k : Nat, k ≤ m ∧ i = .int .i64 k ∧ Hid (((rsI is).take k).all (fun i => refsB i.2) = true) ∧ Hid (Below w3.heap.size w3 wr)) (fun i _ => m - (intOf i).toNat)
        case atStart => exact ⟨0, Nat.zero_le _, rfl, rfl, Below.refl _ _⟩
        case round =>
          obtain ⟨k, hk, rfl, HALL, HBL⟩ := hrel
          have HB4 := hide (below_two HB3.out HBL.out)
          have HBX4 := hide (HBX3.out.below HBL.out)
          have HI4 := hide (Its.below HI3.out HBL.out)
          have HP4 := hide (Txt.below HP3.out HBL.out)
          clear c0 c1 c2 c3 hlt
          obtain ⟨⟨c0, c1, c2, c3⟩, _, hlt⟩ := HBX4.out.facts
          by_cases hkm : k < m
          · have hki : (k : Int) < (m : Int) := by omega
            obtain ⟨i, hi⟩ : ∃ i, is[k]? = some i := ⟨is[k]'(by have := HMN.out; omega), List.getElem?_eq_some_iff.2 ⟨_, rfl⟩⟩
            obtain ⟨b, o, ra, rn, rc, rfl, hb, d0, d1, ht⟩ := HI4.out.at' hi
            have hri : (rsI is)[k]? = some (i.1, i.2.1) := by unfold rsI; rw [List.getElem?_map, hi]; rfl
            have hfr := HFI.out _ (List.mem_of_getElem? hri)
            have hrl : i.2.1.length ≤ maxLen := by have := hfr.refs; simp only at this; unfold maxLen; omega
            have HRS : Hid (∀ x ∈ i.2.1, x.size ≤ 9223372036854775807) := fun x hx => by have := hfr.ref x hx; omega
            obtain ⟨x5, h5⟩ : ∃ x, refsB i.2.1 = x := ⟨_, rfl⟩
            have H5 := hide h5
            have HT := hide ht
            have HRI := hide hri
            have HRL := hide hrl
            clear hi hri hfr hrl h5 ht
            cases x5 with
            | false =>
              have HR : Hid (false = r) := by rw [← HV2.out, allM_fall HRI.out H5.out]; exact rfl
              go_wp2_with fail
              refine (rnames_ok _ i.2.1 false _ HT.out HRL.out HRS.out H5.out).mono ?_
              rintro e w5 ⟨rfl, hb5⟩
              have HB5 := hide (below_two HB4.out hb5)
              clear hb5
              go_wp2
              go_ret
              exact ⟨ret_bool HR.out, HB5.out⟩
            | true =>
              have HALL2 : Hid (((rsI is).take (k + 1)).all (fun i => refsB i.2) = true) := allM_step (f := fun i : RI => refsB i.2) HRI.out H5.out HALL.out
              go_wp2_with fail
              refine (rnames_ok _ i.2.1 true _ HT.out HRL.out HRS.out H5.out).mono ?_
              rintro e w5 ⟨rfl, hb5⟩
              have HB5 := hide (below_two HBL.out hb5)
              clear hb5
              go_wp2
              go_roundw
              case rel => exact ⟨k + 1, by omega, by go_num, HALL2, HB5⟩
              case measure => simp [intOf]; omega
          · obtain rfl : k = m := by omega
            have hkd : (k : Int) ≤ (k : Int) := Int.le_refl _
            have HV3 : Hid (q.prof.all (fun x => Hog.nameL x.data.toList) = r) := by
              have h := HV2.out
              have h2 := HALL.out
              rw [List.take_of_length_le (by unfold rsI; rw [List.length_map, HMN.out]; exact Nat.le_refl _)] at h2
              rw [h2, Bool.true_and] at h
              exact h
            clear HALL
            go_wp2
            go_loopw [4] (fun i w5 => ∃ j : Nat, j ≤ n ∧ i = .int .i64 j ∧ Hid ((q.prof.take j).all (fun x => Hog.nameL x.data.toList) = true) ∧ w5 = wr) (fun i _ => n - (intOf i).toNat)
            case atStart => exact ⟨0, Nat.zero_le _, rfl, rfl, rfl⟩
            case round =>
              obtain ⟨j, hj, rfl, HALL, rfl⟩ := hrel
              by_cases hjn : j < n
              · have hji : (j : Int) < (n : Int) := by omega
                obtain ⟨y, hy⟩ : ∃ y, q.prof[j]? = some y := ⟨q.prof[j]'(by have := HNN.out; omega), List.getElem?_eq_some_iff.2 ⟨_, rfl⟩⟩
                obtain ⟨b, o, rfl, hb, d0⟩ := HP4.out.at' hy
                have hys : y.size ≤ 9223372036854775807 := by have := HF.out.prof y (List.mem_of_getElem? hy); omega
                obtain ⟨x6, h6⟩ : ∃ x, Hog.nameL y.data.toList = x := ⟨_, rfl⟩
                have H6 := hide h6
                have HY := hide hy
                have HYS := hide hys
                clear hy h6 hys
                cases x6 with
                | false =>
                  have HR : Hid (false = r) := by rw [← HV3.out, allM_fall (f := fun x : ByteArray => Hog.nameL x.data.toList) HY.out H6.out]; exact rfl
                  go_wp2_with fail
                  refine (rname_ok y false _ HYS.out H6.out).mono ?_
                  rintro e w6 ⟨rfl, rfl⟩
                  go_wp2
                  go_ret
                  exact ⟨ret_bool HR.out, HB4.out⟩
                | true =>
                  have HALL2 : Hid ((q.prof.take (j + 1)).all (fun x => Hog.nameL x.data.toList) = true) := allM_step (f := fun x : ByteArray => Hog.nameL x.data.toList) HY.out H6.out HALL.out
                  go_wp2_with fail
                  refine (rname_ok y true _ HYS.out H6.out).mono ?_
                  rintro e w6 ⟨rfl, rfl⟩
                  go_wp2
                  go_roundw
                  case rel => exact ⟨j + 1, by omega, by go_num, HALL2, by first | rfl | trivial⟩
                  case measure => simp [intOf]; omega
              · obtain rfl : j = n := by omega
                have hjd : (j : Int) ≤ (j : Int) := Int.le_refl _
                have HR : Hid (true = r) := by
                  rw [← HV3.out]
                  have h2 := HALL.out
                  rw [List.take_of_length_le (by rw [HNN.out]; exact Nat.le_refl _)] at h2
                  exact h2.symm
                go_wp2
                go_ret
                exact ⟨ret_bool HR.out, HB4.out⟩

set_option maxRecDepth 100000 in
set_option maxHeartbeats 4000000 in
theorem rmay_one (q : Hog.RegP) (is : List It) (u v : Value) (r : Bool) (w : World) (hf : FairP q) (hi : Its w u is) (hq : rsI is = q.items) (hp : Txt w v q.prof) (hv : mayR q = r) (hp0 : (q.pol != 0) = true) (hp1 : (q.pol != 1) = false) :
    Calls Tryz.prog 14 #[.agg #[.string q.pre, u, v, .int .i64 q.pol]] w fun e w' => e = .returned (.bool r) ∧ Below w.heap.size w w' := by
  have hil : is.length = q.items.length := by rw [← hq]; exact (List.length_map _).symm
  obtain ⟨ia, ic, rfl⟩ := hi.form
  obtain ⟨pa, pc, rfl⟩ := hp.form
  obtain ⟨m, hm⟩ : ∃ m, is.length = m := ⟨_, rfl⟩
  obtain ⟨n, hn⟩ : ∃ n, q.prof.length = n := ⟨_, rfl⟩
  rw [hm] at hi ⊢
  rw [hn] at hp ⊢
  obtain ⟨W, hW⟩ : ∃ W, W = w.alloc (pcells q.pre (.slice ia m ic) (.slice pa n pc) q.pol) := ⟨_, rfl⟩
  have HB0 : Hid (Below w.heap.size w W) := by rw [hW]; exact below_box _ _
  have HBX : Hid (BoxP W w.heap.size 25 q.pre (.slice ia m ic) (.slice pa n pc) q.pol) := by rw [hW]; exact BoxP.made _ _ _ _ _ _
  have HW : Hid (w.alloc (.cells #[.string q.pre, .slice ia m ic, .slice pa n pc, .int .i64 q.pol] 25) = W) := hW.symm
  have HI := hide (hi.below HB0.out)
  have HP := hide (hp.below HB0.out)
  have HF := hide hf
  have HMN : Hid (is.length = m) := hm
  have HNN : Hid (q.prof.length = n) := hn
  have hm9 : m < 900000 := by rw [← hm, hil]; exact hf.len
  have hn9 : n < 900000 := by rw [← hn]; exact hf.plen
  have HFI : Hid (∀ i ∈ rsI is, FairR i) := by rw [hq]; exact hf.item
  have HQ := hide hq
  have HV : Hid ((prefB q.pre && polB q.pol && refsB (namesI is) && decide (n ≤ 8) && (rsI is).all (fun i => refsB i.2) && q.prof.all (fun x => Hog.nameL x.data.toList)) = r) := by
    have h := mayR_ref q
    rw [hv, ← hq, hn] at h
    have e : (rsI is).map (·.1) = namesI is := by unfold rsI namesI; rw [List.map_map]; rfl
    rw [e] at h
    exact h.symm
  have hpre : q.pre.size ≤ 9223372036854775807 := by have := hf.pre; omega
  clear hf hi hq hp hv hil hm hn hW
  obtain ⟨x1, h1⟩ : ∃ x, prefB q.pre = x := ⟨_, rfl⟩
  have H1 := hide h1
  clear h1
  obtain ⟨⟨c0, c1, c2, c3⟩, _, hlt⟩ := HBX.out.facts
  go_enter Tryz.func14, Tryz.ntmps14
  cases x1 with
  | false =>
    have HR : Hid (false = r) := by rw [← HV.out, H1.out]; exact rfl
    go_wp2_with fail
    rw [HW.out]
    refine (rprefix_ok q.pre false W hpre H1.out).mono ?_
    rintro e w1 ⟨rfl, rfl⟩
    go_wp2
    go_ret
    exact ⟨ret_bool HR.out, HB0.out⟩
  | true =>
    have HPO : Hid (polB q.pol = true) := by show _ = _; unfold polB; simp_all
    obtain ⟨x3, h3⟩ : ∃ x, refsB (namesI is) = x := ⟨_, rfl⟩
    have H3 := hide h3
    clear h3
    have HNL : Hid ((namesI is).length = m) := by unfold namesI; rw [List.length_map]; exact HMN.out
    have HNS : Hid (∀ x ∈ namesI is, x.size ≤ 9223372036854775807) := fun x hx => by
      obtain ⟨i, hi, rfl⟩ := List.mem_map.1 hx
      have := (HFI.out (i.1, i.2.1) (List.mem_map.2 ⟨i, hi, rfl⟩)).name
      simp only at this
      omega
    cases x3 with
    | false =>
      have HR : Hid (false = r) := by rw [← HV.out, H3.out, Bool.and_false]; exact rfl
      go_wp2_with fail
      rw [HW.out]
      refine (rprefix_ok q.pre true W hpre H1.out).mono ?_
      rintro e w1 ⟨rfl, rfl⟩
      go_wp2_with fail
      refine (rnames9_ok _ is (namesI is) _ HI.out (by rw [HMN.out]; omega) rfl).mono ?_
      rintro e w2 ⟨a2, k2, rfl, ho2, hb2⟩
      have HB2 := hide (below_two HB0.out hb2)
      have HT2 := hide ho2.txt
      clear hb2 ho2
      go_wp2_with fail
      refine (rnames_ok _ (namesI is) false _ HT2.out (by rw [HNL.out]; unfold maxLen; omega) HNS.out H3.out).mono ?_
      rintro e w3 ⟨rfl, hb3⟩
      have HB3 := hide (below_two HB2.out hb3)
      clear hb3
      go_wp2
      go_ret
      exact ⟨ret_bool HR.out, HB3.out⟩
    | true =>
      go_wp2_with fail
      rw [HW.out]
      refine (rprefix_ok q.pre true W hpre H1.out).mono ?_
      rintro e w1 ⟨rfl, rfl⟩
      go_wp2_with fail
      refine (rnames9_ok _ is (namesI is) _ HI.out (by rw [HMN.out]; omega) rfl).mono ?_
      rintro e w2 ⟨a2, k2, rfl, ho2, hb2⟩
      have HB2 := hide (below_two HB0.out hb2)
      have HT2 := hide ho2.txt
      have HBX2 := hide (HBX.out.below hb2)
      have HI2 := hide (Its.below HI.out hb2)
      have HP2 := hide (Txt.below HP.out hb2)
      clear hb2 ho2
      go_wp2_with fail
      refine (rnames_ok _ (namesI is) true _ HT2.out (by rw [HNL.out]; unfold maxLen; omega) HNS.out H3.out).mono ?_
      rintro e w3 ⟨rfl, hb3⟩
      have HB3 := hide (below_two HB2.out hb3)
      have HBX3 := hide (HBX2.out.below hb3)
      have HI3 := hide (Its.below HI2.out hb3)
      have HP3 := hide (Txt.below HP2.out hb3)
      clear hb3 c0 c1 c2 c3 hlt HBX HI HP HI2 HP2 HBX2
      obtain ⟨⟨c0, c1, c2, c3⟩, _, hlt⟩ := HBX3.out.facts
      by_cases hn8 : n ≤ 8
      case neg =>
        have hn8i : (8 : Int) < (n : Int) := by omega
        have HR : Hid (false = r) := by rw [← HV.out, decide_eq_false hn8, Bool.and_false]; exact rfl
        go_wp2
        go_ret
        exact ⟨ret_bool HR.out, HB3.out⟩
      case pos =>
        have hn8i : (n : Int) ≤ (8 : Int) := by omega
        have HV2 : Hid (((rsI is).all (fun i => refsB i.2) && q.prof.all (fun x => Hog.nameL x.data.toList)) = r) := by
          have h := HV.out
          rw [H1.out, HPO.out, H3.out, decide_eq_true hn8] at h
          simp only [Bool.true_and] at h
          exact h
        go_wp2
        go_loopw [3] (fun i wr => ∃ k : Nat, k ≤ m ∧ i = .int .i64 k ∧ Hid (((rsI is).take k).all (fun i => refsB i.2) = true) ∧ Hid (Below w3.heap.size w3 wr)) (fun i _ => m - (intOf i).toNat)
        case atStart => exact ⟨0, Nat.zero_le _, rfl, rfl, Below.refl _ _⟩
        case round =>
          obtain ⟨k, hk, rfl, HALL, HBL⟩ := hrel
          have HB4 := hide (below_two HB3.out HBL.out)
          have HBX4 := hide (HBX3.out.below HBL.out)
          have HI4 := hide (Its.below HI3.out HBL.out)
          have HP4 := hide (Txt.below HP3.out HBL.out)
          clear c0 c1 c2 c3 hlt
          obtain ⟨⟨c0, c1, c2, c3⟩, _, hlt⟩ := HBX4.out.facts
          by_cases hkm : k < m
          · have hki : (k : Int) < (m : Int) := by omega
            obtain ⟨i, hi⟩ : ∃ i, is[k]? = some i := ⟨is[k]'(by have := HMN.out; omega), List.getElem?_eq_some_iff.2 ⟨_, rfl⟩⟩
            obtain ⟨b, o, ra, rn, rc, rfl, hb, d0, d1, ht⟩ := HI4.out.at' hi
            have hri : (rsI is)[k]? = some (i.1, i.2.1) := by unfold rsI; rw [List.getElem?_map, hi]; rfl
            have hfr := HFI.out _ (List.mem_of_getElem? hri)
            have hrl : i.2.1.length ≤ maxLen := by have := hfr.refs; simp only at this; unfold maxLen; omega
            have HRS : Hid (∀ x ∈ i.2.1, x.size ≤ 9223372036854775807) := fun x hx => by have := hfr.ref x hx; omega
            obtain ⟨x5, h5⟩ : ∃ x, refsB i.2.1 = x := ⟨_, rfl⟩
            have H5 := hide h5
            have HT := hide ht
            have HRI := hide hri
            have HRL := hide hrl
            clear hi hri hfr hrl h5 ht
            cases x5 with
            | false =>
              have HR : Hid (false = r) := by rw [← HV2.out, allM_fall HRI.out H5.out]; exact rfl
              go_wp2_with fail
              refine (rnames_ok _ i.2.1 false _ HT.out HRL.out HRS.out H5.out).mono ?_
              rintro e w5 ⟨rfl, hb5⟩
              have HB5 := hide (below_two HB4.out hb5)
              clear hb5
              go_wp2
              go_ret
              exact ⟨ret_bool HR.out, HB5.out⟩
            | true =>
              have HALL2 : Hid (((rsI is).take (k + 1)).all (fun i => refsB i.2) = true) := allM_step (f := fun i : RI => refsB i.2) HRI.out H5.out HALL.out
              go_wp2_with fail
              refine (rnames_ok _ i.2.1 true _ HT.out HRL.out HRS.out H5.out).mono ?_
              rintro e w5 ⟨rfl, hb5⟩
              have HB5 := hide (below_two HBL.out hb5)
              clear hb5
              go_wp2
              go_roundw
              case rel => exact ⟨k + 1, by omega, by go_num, HALL2, HB5⟩
              case measure => simp [intOf]; omega
          · obtain rfl : k = m := by omega
            have hkd : (k : Int) ≤ (k : Int) := Int.le_refl _
            have HV3 : Hid (q.prof.all (fun x => Hog.nameL x.data.toList) = r) := by
              have h := HV2.out
              have h2 := HALL.out
              rw [List.take_of_length_le (by unfold rsI; rw [List.length_map, HMN.out]; exact Nat.le_refl _)] at h2
              rw [h2, Bool.true_and] at h
              exact h
            clear HALL
            go_wp2
            go_loopw [4] (fun i w5 => ∃ j : Nat, j ≤ n ∧ i = .int .i64 j ∧ Hid ((q.prof.take j).all (fun x => Hog.nameL x.data.toList) = true) ∧ w5 = wr) (fun i _ => n - (intOf i).toNat)
            case atStart => exact ⟨0, Nat.zero_le _, rfl, rfl, rfl⟩
            case round =>
              obtain ⟨j, hj, rfl, HALL, rfl⟩ := hrel
              by_cases hjn : j < n
              · have hji : (j : Int) < (n : Int) := by omega
                obtain ⟨y, hy⟩ : ∃ y, q.prof[j]? = some y := ⟨q.prof[j]'(by have := HNN.out; omega), List.getElem?_eq_some_iff.2 ⟨_, rfl⟩⟩
                obtain ⟨b, o, rfl, hb, d0⟩ := HP4.out.at' hy
                have hys : y.size ≤ 9223372036854775807 := by have := HF.out.prof y (List.mem_of_getElem? hy); omega
                obtain ⟨x6, h6⟩ : ∃ x, Hog.nameL y.data.toList = x := ⟨_, rfl⟩
                have H6 := hide h6
                have HY := hide hy
                have HYS := hide hys
                clear hy h6 hys
                cases x6 with
                | false =>
                  have HR : Hid (false = r) := by rw [← HV3.out, allM_fall (f := fun x : ByteArray => Hog.nameL x.data.toList) HY.out H6.out]; exact rfl
                  go_wp2_with fail
                  refine (rname_ok y false _ HYS.out H6.out).mono ?_
                  rintro e w6 ⟨rfl, rfl⟩
                  go_wp2
                  go_ret
                  exact ⟨ret_bool HR.out, HB4.out⟩
                | true =>
                  have HALL2 : Hid ((q.prof.take (j + 1)).all (fun x => Hog.nameL x.data.toList) = true) := allM_step (f := fun x : ByteArray => Hog.nameL x.data.toList) HY.out H6.out HALL.out
                  go_wp2_with fail
                  refine (rname_ok y true _ HYS.out H6.out).mono ?_
                  rintro e w6 ⟨rfl, rfl⟩
                  go_wp2
                  go_roundw
                  case rel => exact ⟨j + 1, by omega, by go_num, HALL2, by first | rfl | trivial⟩
                  case measure => simp [intOf]; omega
              · obtain rfl : j = n := by omega
                have hjd : (j : Int) ≤ (j : Int) := Int.le_refl _
                have HR : Hid (true = r) := by
                  rw [← HV3.out]
                  have h2 := HALL.out
                  rw [List.take_of_length_le (by rw [HNN.out]; exact Nat.le_refl _)] at h2
                  exact h2.symm
                go_wp2
                go_ret
                exact ⟨ret_bool HR.out, HB4.out⟩

theorem rmayP_ok (q : Hog.RegP) (is : List It) (u v : Value) (r : Bool) (w : World) (hf : FairP q) (hi : Its w u is) (hq : rsI is = q.items) (hp : Txt w v q.prof) (hv : mayR q = r) :
    Calls Tryz.prog 14 #[.agg #[.string q.pre, u, v, .int .i64 q.pol]] w fun e w' => e = .returned (.bool r) ∧ Below w.heap.size w w' := by
  by_cases h0 : q.pol = 0
  · exact rmay_zero q is u v r w hf hi hq hp hv (by rw [h0]; rfl)
  · by_cases h1 : q.pol = 1
    · exact rmay_one q is u v r w hf hi hq hp hv (by rw [h1]; rfl) (by rw [h1]; rfl)
    · exact rmay_bad q is u v r w hf hi hq hp hv (by rw [bne_iff_ne]; exact h0) (by rw [bne_iff_ne]; exact h1)
end Go.Proofs.YtmlkknbndglgaaaGreatDoor
