/- The walk of ClosureWhole. -/
import Derived.Test.YtinjbijigjfdfaaDoorKK
import Derived.Test.YtinjbijigjfdfaaDoorKL
import Derived.Deep.RegionHeld
import Derived.RegionTactic
namespace Go.Proofs.YtinjbijigjfdfaaDoor
open Go.RowKit

theorem ArgS.at' {w : World} {ao : Option Addr} {n c : Nat} {ps : List Pr} (h : ArgS w ao n c ps) (j : Nat) (p : Pr) (hp : ps[j]? = some p) : ∃ b o, ao = some ⟨b, o, Option.none⟩ ∧ b < w.heap.size ∧ AtS w b (o + j * 3) p := by
  rcases h.sls with ⟨rfl, _⟩ | ⟨b, o, c', e, _, hr⟩
  · simp at hp
  · obtain ⟨rfl, _, _⟩ : ao = some ⟨b, o, Option.none⟩ ∧ n = ps.length ∧ c = c' := by simpa using e
    exact ⟨b, o, rfl, hr.1, hr.2 j p hp⟩
theorem its_at {ps : List Pr} {j : Nat} {p : Pr} (h : ps[j]? = some p) : (itsOf ps)[j]? = some p.2 := by unfold itsOf; rw [List.getElem?_map, h]; rfl
theorem ArgS.it {w : World} {ao : Option Addr} {n c : Nat} {ps : List Pr} (h : ArgS w ao n c ps) {j : Nat} {i : It} (hi : (itsOf ps)[j]? = some i) :
    ∃ b o ra rn rc ta tn tc, ao = some ⟨b, o, Option.none⟩ ∧ b < w.heap.size ∧ w.cell? ⟨b, o + j * 3, Option.none⟩ = some (.string i.1) ∧ w.cell? ⟨b, o + j * 3 + 1, Option.none⟩ = some (.slice ra rn rc) ∧ w.cell? ⟨b, o + j * 3 + 2, Option.none⟩ = some (.slice ta tn tc) ∧
      Arg w ra rn rc i.2.1 ∧ ArgN w ta tn tc i.2.2 := by
  unfold itsOf at hi
  rw [List.getElem?_map] at hi
  obtain ⟨p, hp, rfl⟩ := Option.map_eq_some_iff.1 hi
  obtain ⟨b, o, e, hb, hat⟩ := h.at' j p hp
  exact ⟨b, o, _, _, _, _, _, _, e, hb, hat.c0, hat.c1, hat.c2, hat.is.refs, hat.is.tree⟩
theorem Arg.at' {w : World} {ao : Option Addr} {n c : Nat} {xs : List ByteArray} (h : Arg w ao n c xs) {j : Nat} {x : ByteArray} (hx : xs[j]? = some x) : ∃ g o, ao = some ⟨g, o, Option.none⟩ ∧ g < w.heap.size ∧ w.cell? ⟨g, o + j, Option.none⟩ = some (.string x) := by
  rcases h.txt with ⟨rfl, _⟩ | ⟨b, o, c', e, _, hb, hc⟩
  · simp at hx
  · obtain ⟨rfl, _, _⟩ : ao = some ⟨b, o, Option.none⟩ ∧ n = xs.length ∧ c = c' := by simpa using e
    exact ⟨b, o, rfl, hb, hc j x hx⟩
theorem hash_unlike {x y : ByteArray} (h : Op.bytesLess (hashT x).data.toList (hashT y).data.toList = true) : ((hashT x).toList == (hashT y).toList) = false := by
  rw [beq_eq_false_iff_ne]
  intro e
  rw [Lib.toList_data, Lib.toList_data] at e
  rw [e, Hog.less_irr] at h
  cases h

set_option maxRecDepth 100000 in
set_option maxHeartbeats 8000000 in
theorem whole_walk (p : ByteArray) (ao : Option Addr) (n c : Nat) (ps : List Pr) (w : World) (hsh : w.ShapedOpen Tryd.prog) (hp : p.size ≤ maxLen) (ha : ArgS w ao n c ps) (hn : n ≤ maxLen) (hL : Lens (itsOf ps)) :
    Calls Tryd.prog 3 #[.string p, .slice ao n c] w fun e w' => e = .returned (.bool true) ∧ Below w.heap.size w w' := by
  have HSH := hide hsh
  have HA := hide ha
  have HL := hide hL
  have HN : Hid (ps.length = n) := ha.len
  have HNI : Hid ((itsOf ps).length = n) := by rw [its_len]; exact HN
  have hpi : (p.size : Int) ≤ 9223372036854775807 := by unfold maxLen at hp; omega
  have hni : (n : Int) ≤ 9223372036854775807 := by unfold maxLen at hn; omega
  have HIT := hide ha.sls.its
  obtain ⟨g, hg⟩ : ∃ g, greatI (itsOf ps) = g := ⟨_, rfl⟩
  have HG := hide hg
  obtain ⟨r, hr⟩ : ∃ r, valV p (itsOf ps) = r := ⟨_, rfl⟩
  have HV := hide hr
  have HMX : Hid ((itsOf ps).length ≤ maxLen) := by rw [HNI.out]; exact hn
  have HPX : Hid (p.size ≤ 9223372036854775807) := by unfold maxLen at hp; show _ ≤ _; omega
  clear hsh ha hL hg hr hp hn
  go_enter Tryd.func3, Tryd.ntmps3
  by_cases hp1 : p.size ≤ 100
  case neg =>
    have hp1i : (100 : Int) < (p.size : Int) := by omega
    go_wp2_with fail
    refine (awake9_ok w w ⟨HSH.out, Below.refl _ _⟩).mono ?_
    rintro e w1 ⟨rfl, ok1, _⟩
    go_wp2
    go_ret
    exact ⟨rfl, ok1.2⟩
  have hp1i : (p.size : Int) ≤ 100 := by omega
  clear hpi
  go_wp2_with fail
  refine (greatI_ok _ (itsOf ps) g w HIT.out HMX.out HL.out HG.out).mono ?_
  rintro e w1 ⟨rfl, hw1⟩
  obtain rfl := hw1
  cases g with
  | true =>
    go_wp2_with fail
    refine (awake9_ok w1 w1 ⟨HSH.out, Below.refl _ _⟩).mono ?_
    rintro e w2 ⟨rfl, ok2, _⟩
    go_wp2
    go_ret
    exact ⟨rfl, ok2.2⟩
  | false =>
  rename World => w
  have HFAIR : Hid (∀ i ∈ itsOf ps, Fair i) := fun i hi => bigI_fair ((greatI_not HG.out).2 i hi)
  have HPAIR : Hid (∀ i ∈ itsOf ps, i.2.1.length < 900000 ∧ i.2.2.length < 900000) := fun i hi => ⟨(HFAIR.out i hi).refs, (HFAIR.out i hi).tree⟩
  have hn10 : n ≤ 10 := by have := (greatI_not HG.out).1; rw [HNI.out] at this; exact this
  go_wp2_with fail
  refine (validate_ok p _ (itsOf ps) r w w ⟨HSH.out, Below.refl _ _⟩ HIT.out HPX.out HMX.out HFAIR.out HV.out).mono ?_
  rintro e w2 ⟨rfl, ok2, _⟩
  have HB2 := hide ok2.2
  clear ok2
  by_cases hr0 : r = 0
  case neg =>
    have hrb : (r != 0) = true := by rw [bne_iff_ne]; exact hr0
    cases hpf : prefB p with
    | true =>
      have hr11 : (r == 11) = false := by
        rw [beq_eq_false_iff_ne]
        intro e
        have := val_pref.1 (HV.out.trans e)
        rw [hpf] at this
        cases this
      have HPF := hide hpf
      clear hr0 hpf
      go_wp2_with fail
      refine (prefix_ok p true w2 HPX.out HPF.out).mono ?_
      rintro e w3 ⟨rfl, hw3⟩
      obtain rfl := hw3
      go_wp2_with fail
      refine (awake9_ok w w3 ⟨HSH.out, HB2.out⟩).mono ?_
      rintro e w4 ⟨rfl, ok4, _⟩
      go_wp2
      go_ret
      exact ⟨rfl, ok4.2⟩
    | false =>
      have hr11 : (r == 11) = true := by
        rw [beq_iff_eq, ← HV.out]
        exact val_pref.2 hpf
      have HPF := hide hpf
      clear hr0 hpf
      go_wp2_with fail
      refine (prefix_ok p false w2 HPX.out HPF.out).mono ?_
      rintro e w3 ⟨rfl, hw3⟩
      obtain rfl := hw3
      go_wp2_with fail
      refine (awake9_ok w w3 ⟨HSH.out, HB2.out⟩).mono ?_
      rintro e w4 ⟨rfl, ok4, _⟩
      go_wp2
      go_ret
      exact ⟨rfl, ok4.2⟩
  have hrb : (r != 0) = false := by rw [hr0]; rfl
  have HCL : Hid (Clos (itsOf ps)) := (val_iff.1 (HV.out.trans hr0)).2
  have hn8 : n ≤ 8 := by have := HCL.out.few; rw [HNI.out] at this; exact this
  have hn8i : (n : Int) ≤ 8 := by omega
  clear hr0 hni hn10
  obtain ⟨names, hnames⟩ : ∃ l, namesI (itsOf ps) = l := ⟨_, rfl⟩
  have HNM := hide hnames
  have HZN : Hid (∀ x ∈ names, x.size ≤ maxLen) := by
    rw [← hnames]
    intro x hx
    obtain ⟨i, hi, rfl⟩ := List.mem_map.1 hx
    have := (HFAIR.out i hi).name
    unfold maxLen; omega
  have HLN : Hid (names.length = n) := by rw [← hnames]; unfold namesI; rw [List.length_map]; exact HNI
  clear hnames
  go_wp2_with fail
  refine (names_ok _ (itsOf ps) names w2 (HIT.out.below HB2.out) (by rw [HNI.out]; omega) HNM.out).mono ?_
  rintro e w3 ⟨na, nc, rfl, ho3, hb3⟩
  rw [HNI.out] at ho3 ⊢
  have HNA := hide ho3
  have HB3 := hide (below_two HB2.out hb3)
  clear ho3 hb3
  go_wp2
  go_loopw [7] (fun i wr => ∃ k : Nat, k ≤ n ∧ i = .int .i64 k ∧ Hid (Below w3.heap.size w3 wr)) (fun i _ => n - (intOf i).toNat)
  case atStart => exact ⟨0, Nat.zero_le _, rfl, Below.refl _ _⟩
  case round =>
    obtain ⟨k, hk, rfl, hbl⟩ := hrel
    by_cases hlt : k < n
    case neg =>
      have hkd : decide (k < n) = false := by rw [decide_eq_false_iff_not]; exact hlt
      clear hlt
      go_wp2_with fail
      refine (awake9_ok w wr ⟨HSH.out, below_two HB3.out hbl.out⟩).mono ?_
      rintro e w4 ⟨rfl, ok4, _⟩
      go_wp2
      go_ret
      exact ⟨rfl, ok4.2⟩
    case pos =>
      obtain ⟨i, hi⟩ : ∃ i, (itsOf ps)[k]? = some i := ⟨(itsOf ps)[k]'(by have := HNI.out; omega), List.getElem?_eq_some_iff.2 ⟨_, rfl⟩⟩
      obtain ⟨b, o, ra, rn, rc, ta, tn, tc, hab, hbw, e0, e1, e2, hrf, htr⟩ := HA.out.it hi
      subst hab
      have hmem := List.mem_of_getElem? hi
      have HI := hide hi
      have HF := hide (HFAIR.out i hmem)
      have HMAY := hide (HCL.out.may hmem)
      have HREF := hide (HCL.out.refs i hmem)
      rw [HNM.out] at HREF
      have HTH : Hid (∀ x ∈ i.2.1, Hog.getK (itsOf ps) x ≠ none) := fun x hx e => Hog.getK_none.1 e (HCL.out.there hmem hx)
      have HBW := hide (below_two HB3.out hbl.out)
      have HRF0 := hide hrf
      have HRF := hide (hrf.below HBW.out)
      have HTR := hide (htr.below HBW.out)
      have HRN : Hid (i.2.1.length = rn) := hrf.len
      have hr12 : rn ≤ 12 := by have := (bigI_not ((greatI_not HG.out).2 i hmem)).2.1; rw [hrf.len] at this; exact this
      have HC : Hid (∀ W, Below w.heap.size w W → W.cell? ⟨b, o + k * 3, none⟩ = some (.string i.1) ∧ W.cell? ⟨b, o + k * 3 + 1, none⟩ = some (.slice ra rn rc)) := fun W hb => ⟨(hb.cell (p := ⟨b, o + k * 3, none⟩) hbw).trans e0, (hb.cell (p := ⟨b, o + k * 3 + 1, none⟩) hbw).trans e1⟩
      have hki : (k : Int) < (n : Int) := by omega
      have hbr : b < wr.heap.size := Nat.lt_of_lt_of_le hbw HBW.out.size
      have q0 := (HBW.out.cell (p := ⟨b, o + k * 3, none⟩) hbw).trans e0
      have q1 := (HBW.out.cell (p := ⟨b, o + k * 3 + 1, none⟩) hbw).trans e1
      have q2 := (HBW.out.cell (p := ⟨b, o + k * 3 + 2, none⟩) hbw).trans e2
      clear hi hmem e0 e1 e2 hrf htr
      go_wp2_with fail
      have hS0 : Below wr.heap.size wr wr.drew := (Below.refl _ wr).drew
      refine wp_region_held (S := fun w' => Below wr.heap.size wr w') (by kernel_rfl) ?_
      change wpAnyH _ _ _ _ _ _ _ _ (World.drew _)
      refine wpAnyH_take (i := 0) (v := (.slice (some ⟨b, o, none⟩) n c)) rfl (by kernel_rfl) (by kernel_rfl) (by kernel_rfl) (fun _ _ _ h => h) (Or.inl ⟨by kernel_rfl, ?_⟩) hS0 ?_
      · intro w' hw'
        go_simp
      refine wpAnyH_take (i := 1) (v := (.int .i64 k)) rfl (by kernel_rfl) (by kernel_rfl) (by kernel_rfl) (fun _ _ _ h => h) (Or.inl ⟨by kernel_rfl, ?_⟩) hS0 ?_
      · intro w' hw'
        go_simp
      refine wpAnyH_take (i := 2) (v := (.pointer (some ⟨b, o + k * 3, none⟩))) rfl (by kernel_rfl) (by kernel_rfl) (by kernel_rfl) (fun _ _ _ h => h) (Or.inl ⟨by kernel_rfl, ?_⟩) hS0 ?_
      · intro w' hw'
        go_simp
      refine wpAnyH_take (i := 3) (v := (.agg #[.string i.1, .slice ra rn rc, .slice ta tn tc])) rfl (by kernel_rfl) (by kernel_rfl) (by kernel_rfl) (fun _ _ _ h => h) (Or.inl ⟨by kernel_rfl, ?_⟩) hS0 ?_
      · intro w' hw'
        have y0 := (hw'.cell (p := ⟨b, o + k * 3, none⟩) hbr).trans q0
        have y1 := (hw'.cell (p := ⟨b, o + k * 3 + 1, none⟩) hbr).trans q1
        have y2 := (hw'.cell (p := ⟨b, o + k * 3 + 2, none⟩) hbr).trans q2
        go_simp
      refine wpAnyH_ready (rs := [4]) (by kernel_rfl) (by simp) (AllReadyH.cons rfl (fun K hK => ?_) AllReadyH.nil)
      go_simp
      refine (mayI_ok i _ _ _ _ _ _ true w wr.drew ⟨HSH.out, below_two HBW.out hS0⟩ HF.out (HRF.out.txt.below hS0) (HTR.out.nods.below hS0) HMAY.out).mono ?_
      rintro e w4 ⟨rfl, _, hb4⟩
      have hS4 : Below wr.heap.size wr w4 := below_two hS0 hb4
      clear hb4
      refine hK.out _ _ hS4 (fun _ => ?_)
      clear hK K
      refine wpAnyH_take (i := 5) (v := (.bool false)) rfl (by kernel_rfl) (by kernel_rfl) (by kernel_rfl) (fun _ _ _ h => h) (Or.inl ⟨by kernel_rfl, ?_⟩) hS4 ?_
      · intro w' hw'
        go_simp
      refine wpAnyH_take (i := 6) (v := (.bool false)) rfl (by kernel_rfl) (by kernel_rfl) (by kernel_rfl) (fun _ _ _ h => h) (Or.inl ⟨by kernel_rfl, ?_⟩) hS4 ?_
      · intro w' hw'
        go_simp
      refine wpAnyH_take (i := 7) (v := (.slice (some ⟨b, o, none⟩) n c)) rfl (by kernel_rfl) (by kernel_rfl) (by kernel_rfl) (fun _ _ _ h => h) (Or.inl ⟨by kernel_rfl, ?_⟩) hS4 ?_
      · intro w' hw'
        go_simp
      refine wpAnyH_take (i := 8) (v := (.int .i64 k)) rfl (by kernel_rfl) (by kernel_rfl) (by kernel_rfl) (fun _ _ _ h => h) (Or.inl ⟨by kernel_rfl, ?_⟩) hS4 ?_
      · intro w' hw'
        go_simp
      refine wpAnyH_take (i := 9) (v := (.pointer (some ⟨b, o + k * 3, none⟩))) rfl (by kernel_rfl) (by kernel_rfl) (by kernel_rfl) (fun _ _ _ h => h) (Or.inl ⟨by kernel_rfl, ?_⟩) hS4 ?_
      · intro w' hw'
        go_simp
      refine wpAnyH_take (i := 10) (v := (.pointer (some ⟨b, o + k * 3 + 1, none⟩))) rfl (by kernel_rfl) (by kernel_rfl) (by kernel_rfl) (fun _ _ _ h => h) (Or.inl ⟨by kernel_rfl, ?_⟩) hS4 ?_
      · intro w' hw'
        go_simp
      refine wpAnyH_take (i := 11) (v := (.slice ra rn rc)) rfl (by kernel_rfl) (by kernel_rfl) (by kernel_rfl) (fun _ _ _ h => h) (Or.inl ⟨by kernel_rfl, ?_⟩) hS4 ?_
      · intro w' hw'
        have y1 := (hw'.cell (p := ⟨b, o + k * 3 + 1, none⟩) hbr).trans q1
        go_simp
      refine wpAnyH_take (i := 12) (v := (.slice (some ⟨b, o, none⟩) n c)) rfl (by kernel_rfl) (by kernel_rfl) (by kernel_rfl) (fun _ _ _ h => h) (Or.inl ⟨by kernel_rfl, ?_⟩) hS4 ?_
      · intro w' hw'
        go_simp
      refine wpAnyH_take (i := 13) (v := (.int .i64 k)) rfl (by kernel_rfl) (by kernel_rfl) (by kernel_rfl) (fun _ _ _ h => h) (Or.inl ⟨by kernel_rfl, ?_⟩) hS4 ?_
      · intro w' hw'
        go_simp
      refine wpAnyH_take (i := 14) (v := (.pointer (some ⟨b, o + k * 3, none⟩))) rfl (by kernel_rfl) (by kernel_rfl) (by kernel_rfl) (fun _ _ _ h => h) (Or.inl ⟨by kernel_rfl, ?_⟩) hS4 ?_
      · intro w' hw'
        go_simp
      refine wpAnyH_take (i := 15) (v := (.pointer (some ⟨b, o + k * 3 + 2, none⟩))) rfl (by kernel_rfl) (by kernel_rfl) (by kernel_rfl) (fun _ _ _ h => h) (Or.inl ⟨by kernel_rfl, ?_⟩) hS4 ?_
      · intro w' hw'
        go_simp
      refine wpAnyH_take (i := 16) (v := (.slice ta tn tc)) rfl (by kernel_rfl) (by kernel_rfl) (by kernel_rfl) (fun _ _ _ h => h) (Or.inl ⟨by kernel_rfl, ?_⟩) hS4 ?_
      · intro w' hw'
        have y2 := (hw'.cell (p := ⟨b, o + k * 3 + 2, none⟩) hbr).trans q2
        go_simp
      refine wpAnyH_take (i := 17) (v := (.slice na n nc)) rfl (by kernel_rfl) (by kernel_rfl) (by kernel_rfl) (fun _ _ _ h => h) (Or.inl ⟨by kernel_rfl, ?_⟩) hS4 ?_
      · intro w' hw'
        go_simp
      refine wpAnyH_ready (rs := [18]) (by kernel_rfl) (by simp) (AllReadyH.cons rfl (fun K hK => ?_) AllReadyH.nil)
      go_simp
      refine (tree_ok _ i.2.2 _ names i.2.1 w4 (HTR.out.nods.below hS4) (by have := HF.out.tree; omega) (fun x hx => by have := (HF.out.path x hx).2; omega) (HNA.out.txt.below (below_two hbl.out hS4)) (by have := HLN.out; omega) HZN.out HREF.out.symm).mono ?_
      rintro e w5 ⟨a5, c5, rfl, ho5, hb5⟩
      have HO5 := hide ho5.txt
      have hS5 : Below wr.heap.size wr w5 := below_two hS4 hb5
      clear ho5 hb5
      refine hK.out _ _ hS5 (fun _ => ?_)
      clear hK K
      refine wpAnyH_ready (rs := [19]) (by kernel_rfl) (by simp) (AllReadyH.cons rfl (fun K hK => ?_) AllReadyH.nil)
      go_simp
      refine (same_any _ _ i.2.1 i.2.1 w5 (HRF.out.txt.below hS5) HO5.out (by have := HF.out.refs; omega)).mono ?_
      rintro e w6 ⟨rfl, hb6⟩
      rw [decide_eq_true rfl]
      have hS6 : Below wr.heap.size wr w6 := below_two hS5 hb6
      clear hb6
      refine hK.out _ _ hS6 (fun _ => ?_)
      clear hK K
      refine wpAnyH_ready (rs := [20]) (by kernel_rfl) (by simp) (AllReadyH.cons rfl (fun K hK => ?_) AllReadyH.nil)
      go_simp
      refine hK.out _ _ hS6 (fun _ => ?_)
      clear hK K
      refine wpAnyH_ready (rs := [21]) (by kernel_rfl) (by simp) (AllReadyH.cons rfl (fun K hK => ?_) AllReadyH.nil)
      go_simp
      refine hK.out _ _ hS6 (fun _ => ?_)
      clear hK K
      refine wpAnyH_done (by kernel_rfl) ?_ _
      have HB6 := hide (below_two hbl.out hS6)
      clear hS0 hS4 hS5 hS6
      clear q0 q1 q2 HRF HTR
      go_wp2
      go_loopw [8] (fun v wq => ∃ j : Nat, j ≤ rn ∧ v = .int .i64 j ∧ Hid (Below w6.heap.size w6 wq)) (fun v _ => rn - (intOf v).toNat)
      case atStart => exact ⟨0, Nat.zero_le _, rfl, Below.refl _ _⟩
      case round =>
        rename World => wq
        obtain ⟨j, hj, rfl, hbq⟩ := hrel
        have HBQ := hide (below_two HB3.out (below_two HB6.out hbq.out))
        obtain ⟨y0, y1⟩ := HC.out wq HBQ.out
        by_cases hjr : j < rn
        case pos =>
          obtain ⟨x, hx⟩ : ∃ x, i.2.1[j]? = some x := ⟨i.2.1[j]'(by have := HRN.out; omega), List.getElem?_eq_some_iff.2 ⟨_, rfl⟩⟩
          obtain ⟨g, u, hra, hgw, hcx⟩ := HRF0.out.at' hx
          subst hra
          have z1 := (HBQ.out.cell (p := ⟨g, u + j, none⟩) hgw).trans hcx
          have hji : (j : Int) < (rn : Int) := by omega
          obtain ⟨i', hi'⟩ := Option.ne_none_iff_exists'.1 (HTH.out x (List.mem_of_getElem? hx))
          have HG2 := hide hi'
          clear hx hcx hi'
          go_wp2_with fail
          refine (get_hit _ ps x i' wq (HA.out.sls.below HBQ.out) (by rw [HN.out]; omega) HPAIR.out HG2.out).mono ?_
          rintro e w7 ⟨ra7, rc7, ta7, tc7, base7, rfl, _, _, _, _, _, hb7⟩
          have HB7 := hide (below_two hbq.out (below_two hb7 (below_box w7 (.cells #[.string i'.1, .slice ra7 i'.2.1.length rc7, .slice ta7 i'.2.2.length tc7] 33))))
          clear hb7 z1 y0 y1
          go_wp2
          go_roundw
          case rel => exact ⟨j + 1, by omega, by go_num, HB7⟩
          case measure => simp [intOf]; omega
        case neg =>
          have hjd : decide (j < rn) = false := by rw [decide_eq_false_iff_not]; exact hjr
          clear hjr
          go_wp2
          go_loopw [11] (fun v wz => ∃ l : Nat, l ≤ k ∧ v = .int .i64 l ∧ Hid (Below wq.heap.size wq wz)) (fun v _ => k - (intOf v).toNat)
          case atStart => exact ⟨0, Nat.zero_le _, rfl, Below.refl _ _⟩
          case round =>
            rename World => wz
            obtain ⟨l, hl, rfl, hbz⟩ := hrel
            by_cases hlk : l < k
            case pos =>
              have HBZ := hide (below_two HBQ.out hbz.out)
              obtain ⟨i2, hi2⟩ : ∃ i, (itsOf ps)[l]? = some i := ⟨(itsOf ps)[l]'(by have := HNI.out; omega), List.getElem?_eq_some_iff.2 ⟨_, rfl⟩⟩
              obtain ⟨b', o', _, _, _, _, _, _, hab, _, d0, _, _, _, _⟩ := HA.out.it hi2
              obtain ⟨rfl, rfl⟩ : b = b' ∧ o = o' := by simpa using hab
              have hsl := HCL.out.stood.less hi2 HI.out hlk
              have hne := hash_unlike hsl
              have g4 : Op.bytesLess i2.1.toList i.1.toList = true := by
                rw [Lib.toList_data, Lib.toList_data]
                exact names_less hsl (HCL.out.stood.name (List.mem_of_getElem? hi2))
              have HF2 := hide (HFAIR.out i2 (List.mem_of_getElem? hi2))
              have hbz' : b < wz.heap.size := Nat.lt_of_lt_of_le hbw HBZ.out.size
              have hli : (l : Int) < (k : Int) := by omega
              have hln : (l : Int) < (n : Int) := by omega
              have f1 : ∀ p : Later wz, p.w1.cell? ⟨b, o + l * 3, none⟩ = some (.string i2.1) := fun p => p.cell hbz' ((HBZ.out.cell (p := ⟨b, o + l * 3, none⟩) hbw).trans d0)
              have f2 : ∀ p : Later wz, p.w1.cell? ⟨b, o + k * 3, none⟩ = some (.string i.1) := fun p => p.cell hbz' (HC.out wz HBZ.out).1
              have HC1 : Hid (∀ p : Later wz, Calls Tryd.prog 16 #[.string i2.1] p.w1 fun e w' => e = .returned (.string (hashT i2.1)) ∧ Below p.w1.heap.size p.w1 w') := fun p => hash_ok i2.1 _ p.w1 (by have := HF2.out.name; omega) rfl
              have HC2 : Hid (∀ p : Later wz, Calls Tryd.prog 16 #[.string i.1] p.w1 fun e w' => e = .returned (.string (hashT i.1)) ∧ Below p.w1.heap.size p.w1 w') := fun p => hash_ok i.1 _ p.w1 (by have := HF.out.name; omega) rfl
              have hne2 := later_one wz
              clear hi2 hab d0 hsl y0 y1
              go_wp2
              refine wp_region_later (by kernel_rfl) (by kernel_rfl) ?_
              repeat (first
                | go_big_quiet_step ((go_at_call 16; first | with_reducible exact Calls.later_of (HC1.out _) | with_reducible exact Calls.later_of (HC2.out _)))
                | quiet_step ((go_at_call 16; first | with_reducible exact Calls.later_of (HC1.out _) | with_reducible exact Calls.later_of (HC2.out _))))
              refine wpQuiet_nil ?_
              intro W5 hw'
              have HB8 := hide (below_two hbz.out (later_below hw'))
              clear hw' f1 f2 HC1 HC2 hne2
              go_wp2
              go_roundw
              case rel => exact ⟨l + 1, by omega, by go_num, HB8⟩
              case measure => simp [intOf]; omega
            case neg =>
              have hld : decide (l < k) = false := by rw [decide_eq_false_iff_not]; exact hlk
              have HB9 := hide (below_two HB6.out (below_two hbq.out hbz.out))
              clear hlk y0 y1
              go_wp2
              go_roundw
              case rel => exact ⟨k + 1, by omega, by go_num, HB9⟩
              case measure => simp [intOf]; omega
end Go.Proofs.YtinjbijigjfdfaaDoor
