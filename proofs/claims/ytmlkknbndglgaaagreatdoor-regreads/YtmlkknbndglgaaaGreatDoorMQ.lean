/- What a pack that is not great is; the walk of RegLines. -/
import Derived.Test.YtmlkknbndglgaaaGreatDoorMO
import Derived.Test.YtmlkknbndglgaaaGreatDoorMN
import Derived.RegionTactic
namespace Go.Proofs.YtmlkknbndglgaaaGreatDoor
open Go.RowKit

theorem fairP_of {pre : ByteArray} {pol : Int} {is : List It} {xs : List ByteArray} (h : greatP pre is xs = false) :
    FairP ⟨pre, pol, rsI is, xs⟩ ∧ is.length ≤ 10 ∧ (∀ i ∈ is, i.2.1.length ≤ 12) ∧ xs.length ≤ 12 ∧ pre.size ≤ 100 := by
  unfold greatP at h
  simp only [Bool.or_eq_false_iff, decide_eq_false_iff_not, Nat.not_lt] at h
  obtain ⟨⟨h1, h2⟩, h3⟩ := h
  obtain ⟨k1, k2⟩ := greatI_not h2
  obtain ⟨k3, k4⟩ := greatT_not h3
  refine ⟨⟨by show pre.size < 900000; omega, by show (rsI is).length < 900000; unfold rsI; rw [List.length_map]; omega, fun i hi => ?_, by show xs.length < 900000; omega, fun x hx => by have := k4 x hx; omega⟩, k1, fun i hi => (bigI_not (k2 i hi)).2.1, by omega, h1⟩
  obtain ⟨j, hj, rfl⟩ := List.mem_map.1 hi
  obtain ⟨b1, b2, b3, _⟩ := bigI_not (k2 j hj)
  exact ⟨by show j.1.size < 900000; omega, by show j.2.1.length < 900000; omega, fun x hx => by have := b3 x hx; omega⟩
/-- How many references the first k items have. -/
def refsN (is : List It) : Nat := (is.map (·.2.1.length)).sum
theorem refsN_step {is : List It} {k : Nat} {i : It} (h : is[k]? = some i) : refsN (is.take (k + 1)) = refsN (is.take k) + i.2.1.length := by
  obtain ⟨hk, rfl⟩ := List.getElem?_eq_some_iff.1 h
  unfold refsN
  rw [List.take_succ_eq_append_getElem hk, List.map_append, List.sum_append]
  simp
theorem refsN_small {is : List It} (h : ∀ i ∈ is, i.2.1.length ≤ 12) : refsN is ≤ 12 * is.length := by
  induction is with
  | nil => exact Nat.le_refl _
  | cons i l ih =>
    have h1 := ih fun j hj => h j (List.mem_cons_of_mem _ hj)
    have h2 := h i List.mem_cons_self
    unfold refsN at h1 ⊢
    rw [List.map_cons, List.sum_cons, List.length_cons]
    omega
theorem refsN_rs (is : List It) : ((rsI is).map (·.2.length)).sum = refsN is := by
  unfold rsI refsN
  rw [List.map_map]; rfl
theorem its_at' {ps : List Pr} {j : Nat} {p : Pr} (h : ps[j]? = some p) : (itsOf ps)[j]? = some p.2 := by unfold itsOf; rw [List.getElem?_map, h]; rfl
theorem byte_at {T : ByteArray} {j : Nat} (h : j < T.size) : T.data.toList[j]? = some (T[j]'h) := by
  rw [List.getElem?_eq_some_iff]
  exact ⟨by simpa using h, rfl⟩
theorem take_count {s : List UInt8} {k : Nat} {x : UInt8} (h : s[k]? = some x) : (s.take (k + 1)).count 10 = (s.take k).count 10 + (if x = 10 then 1 else 0) := by
  obtain ⟨hk, rfl⟩ := List.getElem?_eq_some_iff.1 h
  rw [List.take_succ_eq_append_getElem hk, List.count_append]
  congr 1
  by_cases e : s[k] = 10 <;> simp [e]

set_option maxRecDepth 100000 in
set_option maxHeartbeats 4000000 in
theorem lines_walk (pre : ByteArray) (ia : Option Addr) (m ic : Nat) (qs : List Pr) (pa : Option Addr) (n pc : Nat) (xs : List ByteArray) (pol : Int) (w : World) (hsh : w.ShapedOpen Tryz.prog) (hE : Errs w) (hA : ArgS w ia m ic qs) (hm : m ≤ maxLen) (hL : Lens (itsOf qs)) (hP : Arg w pa n pc xs) (hn : n ≤ maxLen) :
    Calls Tryz.prog 6 #[.agg #[.string pre, .slice ia m ic, .slice pa n pc, .int .i64 pol]] w fun e w' => e = .returned (.bool true) ∧ Below w.heap.size w w' := by
  obtain ⟨W, hW⟩ : ∃ V, w.alloc (.cells #[.string pre, .slice ia m ic, .slice pa n pc, .int .i64 pol] 25) = V := ⟨_, rfl⟩
  have y0 : Below w.heap.size w W := by rw [← hW]; exact below_box _ _
  have HB0 := hide y0
  have HBX : Hid (BoxP W w.heap.size 25 pre (.slice ia m ic) (.slice pa n pc) pol) := by rw [← hW]; exact BoxP.made _ _ _ _ _ _
  have HA := hide hA
  have HA1 := hide (hA.below y0)
  have HI1 := hide (hA.below y0).sls.its
  have HP1 := hide (hP.below y0).txt
  have HOK : Hid (Ok w W) := ⟨hsh, y0⟩
  have HE := hide hE
  have HL := hide hL
  have HMN : Hid ((itsOf qs).length = m) := by rw [its_len]; exact hA.len
  have HNN : Hid (xs.length = n) := hP.len
  have hmx : (itsOf qs).length ≤ maxLen := by rw [HMN.out]; exact hm
  have hnx : xs.length ≤ maxLen := by rw [HNN.out]; exact hn
  obtain ⟨gr, hgr⟩ : ∃ r, greatP pre (itsOf qs) xs = r := ⟨_, rfl⟩
  have HGR := hide hgr
  have HC := hide (greatP_ok pre (itsOf qs) xs ia m ic pa n pc pol gr W HI1.out HP1.out hmx hL hnx hgr)
  have HW := hide hW
  obtain ⟨⟨c0, c1, c2, c3⟩, _, hlt⟩ := HBX.out.facts
  clear hW y0 hA hE hL hgr hsh hP hm hn hmx hnx
  go_enter Tryz.func6, Tryz.ntmps6
  go_wp2_with fail
  have hwe := HW.out
  rw [hwe]
  clear hwe
  refine (show Calls _ _ _ _ _ from HC.out).mono ?_
  rintro e w1 ⟨rfl, hb1⟩
  have HBX1 := hide (HBX.out.below hb1)
  have HA2 := hide (HA1.out.below hb1)
  have HI2 := hide (Its.below HI1.out hb1)
  have HP2 := hide (Txt.below HP1.out hb1)
  have HB1 := hide (below_two HB0.out hb1)
  have HOK1 := hide (HOK.out.next hb1)
  clear hb1 HC HW HA1 HI1 HP1 c0 c1 c2 c3 hlt
  obtain ⟨⟨c0, c1, c2, c3⟩, _, hlt⟩ := HBX1.out.facts
  cases gr with
  | true =>
    go_wp2_with fail
    refine (awake11_ok w w1 HOK1.out HE.out).mono ?_
    rintro e w2 ⟨rfl, ok2, hb2⟩
    have HB2 := hide (below_two HB1.out hb2)
    clear hb2
    go_wp2
    go_ret
    exact ⟨rfl, HB2.out⟩
  | false =>
    obtain ⟨hfr, hq1, hq2, hq3, hq4⟩ := fairP_of (pol := pol) HGR.out
    obtain ⟨T, hT⟩ : ∃ T, layV ⟨pre, pol, rsI (itsOf qs), xs⟩ = T := ⟨_, rfl⟩
    obtain ⟨z, hz⟩ : ∃ z, layE ⟨pre, pol, rsI (itsOf qs), xs⟩ = z := ⟨_, rfl⟩
    have HF := hide hfr
    have HCL := hide (lay_ok ⟨pre, pol, rsI (itsOf qs), xs⟩ (itsOf qs) (.slice ia m ic) (.slice pa n pc) T z w w1 HOK1.out hfr HI2.out rfl HP2.out hT hz)
    have HT := hide hT
    have HZ := hide hz
    have HQ2 := hide hq2
    have hm10 : m ≤ 10 := by have := HMN.out; omega
    have hn12 : n ≤ 12 := by have := HNN.out; omega
    clear hfr hT hz hq2 hq1 hq3
    go_wp2_with fail
    refine (show Calls _ _ _ _ _ from HCL.out).mono ?_
    rintro e w2 ⟨rfl, ok2, hb2⟩
    have HBX2 := hide (HBX1.out.below hb2)
    have HA3 := hide (HA2.out.below hb2)
    have HI3 := hide (Its.below HI2.out hb2)
    have HP3 := hide (Txt.below HP2.out hb2)
    have HB2 := hide (below_two HB1.out hb2)
    have HOK2 := hide ok2
    clear hb2 ok2 HCL HA2 HI2 HP2 c0 c1 c2 c3 hlt
    obtain ⟨⟨c0, c1, c2, c3⟩, _, hlt⟩ := HBX2.out.facts
    by_cases hmay : mayR ⟨pre, pol, rsI (itsOf qs), xs⟩ = true
    case neg =>
      have hz2 : z = 2 := by have := HZ.out; unfold layE at this; rw [if_neg hmay] at this; exact this.symm
      subst hz2
      have HMF : Hid (mayR ⟨pre, pol, rsI (itsOf qs), xs⟩ = false) := Bool.eq_false_iff.2 hmay
      clear hmay
      go_wp2_with fail
      refine (show Calls _ _ _ _ _ from mayP_ok ⟨pre, pol, rsI (itsOf qs), xs⟩ (itsOf qs) (.slice ia m ic) (.slice pa n pc) false w w2 HOK2.out HF.out HI3.out rfl HP3.out HMF.out).mono ?_
      rintro e w3 ⟨rfl, ok3, hb3⟩
      have HB3 := hide (below_two HB2.out hb3)
      clear hb3
      go_wp2_with fail
      refine (awake11_ok w w3 ok3 HE.out).mono ?_
      rintro e w4 ⟨rfl, ok4, hb4⟩
      have HB4 := hide (below_two HB3.out hb4)
      clear hb4
      go_wp2
      go_ret
      exact ⟨rfl, HB4.out⟩
    case pos =>
      have hz2 : z = 0 := by have := HZ.out; unfold layE at this; rw [if_pos hmay] at this; exact this.symm
      subst hz2
      have hTl : T.data.toList = Hog.layM ⟨pre, pol, rsI (itsOf qs), xs⟩ := by have := HT.out; unfold layV at this; rw [if_pos hmay] at this; rw [← this]; exact rfl
      have hts : T.size ≤ 4018 := by
        have := mayR_small hmay
        rw [← hTl] at this
        simpa using this
      have hcn : T.data.toList.count 10 = 2 + m + n + refsN (itsOf qs) := by
        rw [hTl, Hog.lay_count (mayR_noten hmay), refsN_rs]
        show 2 + (rsI (itsOf qs)).length + xs.length + _ = _
        unfold rsI
        rw [List.length_map, HMN.out, HNN.out]
      obtain ⟨Tp, hlast⟩ := Hog.lay_last ⟨pre, pol, rsI (itsOf qs), xs⟩
      rw [← hTl] at hlast
      have HCN := hide hcn
      have HLAST := hide hlast
      have HSN := hide (refsN_small HQ2.out)
      clear hmay hTl hcn hlast
      go_wp2
      go_loopw [5, 6] (fun a i wr => ∃ (k q : Nat), k ≤ m ∧ q ≤ 1000 ∧ i = .int .i64 k ∧ a = .int .i64 q ∧ Hid (q = 2 + m + n + refsN ((itsOf qs).take k)) ∧ wr = w2) (fun _ i _ => m - (intOf i).toNat)
      case atStart => exact ⟨0, 2 + m + n, Nat.zero_le _, by omega, rfl, by go_num, rfl, rfl⟩
      case round =>
        obtain ⟨k, q, hk, hq, rfl, rfl, HQ, rfl⟩ := hrel
        by_cases hkm : k < m
        · have hql := HA3.out.len
          obtain ⟨p, hp⟩ : ∃ p, qs[k]? = some p := ⟨qs[k]'(by omega), List.getElem?_eq_some_iff.2 ⟨_, rfl⟩⟩
          have hki : (k : Int) < (m : Int) := by omega
          have hpi := its_at' hp
          have HST := hide (refsN_step hpi)
          have HTK : Hid (refsN ((itsOf qs).take (k + 1)) ≤ 120) := by
            have h1 := refsN_small (is := (itsOf qs).take (k + 1)) (fun i hi => HQ2.out i (List.mem_of_mem_take hi))
            rw [List.length_take] at h1
            show _ ≤ _
            omega
          cases ia with
          | none => have := (HA3.out.none rfl).1; omega
          | some ad =>
            obtain ⟨e0, had⟩ := HA3.out.plain (by omega)
            obtain ⟨b, o, rfl⟩ : ∃ b o, ad = ⟨b, o, none⟩ := ⟨_, _, e0⟩
            obtain ⟨_, q1, _⟩ := rflat_get hp
            have d1 := HA3.out.cell _ rfl _ _ q1
            rw [add_plain] at d1
            obtain ⟨ra, rn, rc, hrv⟩ : ∃ ra rn rc, refsV p.1 = .slice ra rn rc := ⟨_, _, _, rfl⟩
            have hrn : rn = p.2.2.1.length := by
              have h := (HA3.out.each p (List.mem_of_getElem? hp)).refs.len
              have h2 := hrv
              unfold refsV at h2
              obtain ⟨_, e2, _⟩ : p.1.2.1.1 = ra ∧ p.1.2.1.2.1 = rn ∧ p.1.2.1.2.2 = rc := by simpa using h2
              omega
            rw [hrv] at d1
            rw [← Nat.add_assoc] at d1
            have HRN := hide hrn
            have hqr : q + rn ≤ 1000 := by have := HQ.out; have := HST.out; have := HTK.out; omega
            clear hrv hrn q1 hp hpi e0
            go_wp2
            go_roundw
            case rel =>
              refine ⟨k + 1, q + rn, by omega, hqr, by go_num, by go_num, ?_, by first | rfl | trivial⟩
              show q + rn = _
              have h1 := HQ.out; have h2 := HST.out; have h3 := HRN.out
              omega
            case measure => simp [intOf]; omega
        · obtain rfl : k = m := by omega
          have hkd : (k : Int) ≤ (k : Int) := Int.le_refl _
          have HQF : Hid (q = T.data.toList.count 10) := by
            have h := HQ.out
            rw [List.take_of_length_le (by rw [HMN.out]; exact Nat.le_refl _)] at h
            rw [HCN.out]; exact h
          obtain ⟨tn, htn⟩ : ∃ n, T.size = n := ⟨_, rfl⟩
          have HTN := hide htn
          have htn2 : tn ≤ 4018 := by omega
          clear HQ
          go_wp2
          go_loopw [5, 7] (fun a i w5 => ∃ (j r : Nat), j ≤ tn ∧ r ≤ q ∧ i = .int .i64 j ∧ a = .int .i64 ((q - r : Nat) : Int) ∧ Hid (r = (T.data.toList.take j).count 10) ∧ w5 = wr) (fun _ i _ => tn - (intOf i).toNat)
          case atStart => exact ⟨0, 0, Nat.zero_le _, by omega, rfl, by simp, rfl, rfl⟩
          case round =>
            obtain ⟨j, r, hj, hr, rfl, rfl, HR, rfl⟩ := hrel
            by_cases hjm : j < tn
            · have hji : (j : Int) < (tn : Int) := by omega
              obtain ⟨x, hx⟩ : ∃ x, T[j]'(by omega) = x := ⟨_, rfl⟩
              have hxl : T.data.toList[j]? = some x := by rw [← hx]; exact byte_at (by omega)
              have htc := take_count hxl
              have hle : (T.data.toList.take (j + 1)).count 10 ≤ T.data.toList.count 10 := (List.take_sublist _ _).count_le 10
              by_cases hx10 : x = 10
              · have hr1 : r + 1 ≤ q := by have := HR.out; have := HQF.out; rw [if_pos hx10] at htc; omega
                have HR1 : Hid (r + 1 = (T.data.toList.take (j + 1)).count 10) := by have h := HR.out; rw [if_pos hx10] at htc; show _ = _; omega
                have hxb : ((x.toNat : Int) == 10) = true := by rw [hx10]; rfl
                have hqe : ((q - r : Nat) : Int) - 1 = ((q - (r + 1) : Nat) : Int) := by omega
                have hqs : ((q - (r + 1) : Nat) : Int) ≤ 1000 := by omega
                have HQE := hide hqe
                clear hxl htc hle hx10 hqe
                go_wp2
                go_roundw
                case rel =>
                  refine ⟨j + 1, r + 1, by omega, hr1, by go_num, ?_, HR1, by first | rfl | trivial⟩
                  rw [HQE.out]
                case measure => simp [intOf]; omega
              · have HR1 : Hid (r = (T.data.toList.take (j + 1)).count 10) := by have h := HR.out; rw [if_neg hx10] at htc; show _ = _; omega
                have hxb : ((x.toNat : Int) == 10) = false := by
                  rw [beq_eq_false_iff_ne]
                  intro e
                  exact hx10 (UInt8.toNat_inj.1 (by have : x.toNat = 10 := by omega
                                                    rw [this]; rfl))
                clear hxl htc hle hx10
                go_wp2
                go_roundw
                case rel => exact ⟨j + 1, r, by omega, hr, by go_num, rfl, HR1, by first | rfl | trivial⟩
                case measure => simp [intOf]; omega
            · obtain ⟨t1, ht1⟩ : ∃ t1, tn = t1 + 1 := by
                have h := congrArg List.length HLAST.out
                rw [List.length_append, List.length_singleton] at h
                have h2 : T.data.toList.length = T.size := by simp
                exact ⟨tn - 1, by omega⟩
              subst ht1
              obtain rfl : j = t1 + 1 := by omega
              have hrq : r = q := by
                have h := HR.out
                rw [List.take_of_length_le (by have h2 : T.data.toList.length = T.size := by simp
                                               omega)] at h
                rw [h, HQF.out]
              subst hrq
              obtain ⟨x, hx⟩ : ∃ x, T[t1]'(by omega) = x := ⟨_, rfl⟩
              have hx10 : x = 10 := by
                have h := byte_at (T := T) (j := t1) (by omega)
                rw [hx, HLAST.out] at h
                have h3 : Tp.length = t1 := by
                  have h := congrArg List.length HLAST.out
                  rw [List.length_append, List.length_singleton] at h
                  have h2 : T.data.toList.length = T.size := by simp
                  omega
                rw [List.getElem?_append_right (by omega), h3, Nat.sub_self] at h
                simpa using h.symm
              subst hx10
              have hpos : (0 : Int) < ((t1 + 1 : Nat) : Int) := by omega
              have hjd : ((t1 + 1 : Nat) : Int) ≤ ((t1 + 1 : Nat) : Int) := Int.le_refl _
              go_wp2_with fail
              refine (awake11_ok w wr HOK2.out HE.out).mono ?_
              rintro e w4 ⟨rfl, ok4, hb4⟩
              have HB4 := hide (below_two HB2.out hb4)
              clear hb4
              go_wp2
              go_ret
              exact ⟨rfl, HB4.out⟩
end Go.Proofs.YtmlkknbndglgaaaGreatDoor
