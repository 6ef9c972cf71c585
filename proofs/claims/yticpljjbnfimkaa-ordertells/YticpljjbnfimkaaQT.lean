/- The walk of the document's own Of, chapter 10. -/
import Derived.Test.YticpljjbnfimkaaQS
import Derived.Test.YticpljjbnfimkaaQK
namespace Go.Proofs.Yticpljjbnfimkaa
open Go.RowKit

theorem can_item {is : List It} {O : List ByteArray} (hu : (is.map (·.1)).Nodup) {j : Nat} {i : It} (hi : is[j]? = some i) : Hog.Can is O i.1 ↔ ¬ i.1 ∈ O ∧ Rdy1 is i.1 i.2.1 O := by
  constructor
  · rintro ⟨h1, i', hi', e, hn⟩
    obtain ⟨j', hj'⟩ := List.getElem?_of_mem hi'
    have ea : (is.map (·.1))[j]? = some i.1 := by rw [List.getElem?_map, hi]; rfl
    have eb : (is.map (·.1))[j']? = some i.1 := by rw [List.getElem?_map, hj', ← e]; rfl
    have := (List.getElem?_inj (List.getElem?_eq_some_iff.1 ea).1 hu).1 (ea.trans eb.symm)
    subst this
    rw [hi] at hj'
    cases hj'
    exact ⟨h1, fun x hx h2 h3 => hn x ⟨hx, h2, h3⟩⟩
  · rintro ⟨h1, h2⟩
    exact ⟨h1, i, List.mem_of_getElem? hi, rfl, fun x hx => h2 x hx.1 hx.2.1 hx.2.2⟩
/-- The least that could come next, among the first k. -/
def BestTo (is : List It) (O : List ByteArray) (k : Nat) (bst : Int) : Prop := (bst = -1 ∧ ∀ (j : Nat) i, j < k → is[j]? = some i → ¬ Hog.Can is O i.1) ∨
  ∃ (m : Nat) (i : It), bst = m ∧ m < k ∧ is[m]? = some i ∧ Hog.Can is O i.1 ∧ ∀ (j : Nat) y, j < k → is[j]? = some y → Hog.Can is O y.1 → ¬ ltB y.1 i.1
theorem BestTo.zero (is : List It) (O : List ByteArray) : BestTo is O 0 (-1) := .inl ⟨rfl, fun _ _ h => absurd h (by omega)⟩
theorem BestTo.pass {is : List It} {O : List ByteArray} {k : Nat} {bst : Int} {y : It} (h : BestTo is O k bst) (hy : is[k]? = some y) (hn : ¬ Hog.Can is O y.1) : BestTo is O (k + 1) bst := by
  rcases h with ⟨e, h⟩ | ⟨m, i, e, h1, h2, h3, h4⟩
  · refine .inl ⟨e, fun j i hj hi => ?_⟩
    by_cases e2 : j = k
    · rw [e2, hy] at hi; cases hi; exact hn
    · exact h j i (by omega) hi
  · refine .inr ⟨m, i, e, by omega, h2, h3, fun j i' hj hi hc => ?_⟩
    by_cases e2 : j = k
    · rw [e2, hy] at hi; cases hi; exact absurd hc hn
    · exact h4 j i' (by omega) hi hc
theorem BestTo.new {is : List It} {O : List ByteArray} {k : Nat} {bst : Int} {y : It} (h : BestTo is O k bst) (hy : is[k]? = some y) (hc : Hog.Can is O y.1) (hl : bst = -1 ∨ ∃ (m : Nat) (i : It), bst = m ∧ is[m]? = some i ∧ ltB y.1 i.1) : BestTo is O (k + 1) k := by
  refine .inr ⟨k, y, rfl, by omega, hy, hc, fun j i' hj hi hci => ?_⟩
  by_cases e2 : j = k
  · rw [e2, hy] at hi; cases hi; exact ltB_irr _
  · rcases h with ⟨e, h⟩ | ⟨m, i, e, h1, h2, h3, h4⟩
    · exact absurd hci (h j i' (by omega) hi)
    · rcases hl with e3 | ⟨m', i2, e3, h5, h6⟩
      · omega
      · have : m = m' := by omega
        subst this
        rw [h2] at h5
        cases h5
        exact fun q => h4 j i' (by omega) hi hci (ltB_tr _ _ _ q h6)
theorem BestTo.old {is : List It} {O : List ByteArray} {k m : Nat} {y i : It} (h : BestTo is O k (m : Int)) (hy : is[k]? = some y) (hi : is[m]? = some i) (hl : ¬ ltB y.1 i.1) : BestTo is O (k + 1) (m : Int) := by
  rcases h with ⟨e, _⟩ | ⟨m', i', e, h1, h2, h3, h4⟩
  · omega
  · have : m = m' := by omega
    subst this
    rw [hi] at h2
    cases h2
    refine .inr ⟨m, i, rfl, by omega, hi, h3, fun j u hj hu hc => ?_⟩
    by_cases e2 : j = k
    · rw [e2, hy] at hu; cases hu; exact hl
    · exact h4 j u (by omega) hu hc
/-- What the document's Of answers. -/
def ROut (w : World) (n : Nat) (a : Option (List ByteArray)) (e : Ending) (w' : World) : Prop := match a with
  | none => e = .returned (.tuple #[.slice none 0 0, .bool false])
  | some o => ∃ oa oc, e = .returned (.tuple #[.slice oa n oc, .bool true]) ∧ Own w.heap.size w' (.slice oa n oc) o ∧ o.length = n
set_option maxRecDepth 100000 in
set_option maxHeartbeats 8000000 in
theorem rof_any (ao : Option Addr) (n c : Nat) (ps : List Pr) (w : World) (ha : ArgS w ao n c ps) (h9 : n < 900) (hr : ∀ i ∈ itsOf ps, i.2.1.length ≤ 900) :
    Calls Try.prog 10 #[.slice ao n c] w fun e w' => ∃ a, OrdO (itsOf ps) a ∧ ROut w n a e w' ∧ Below w.heap.size w w' := by
  have HA := hide ha
  have HR := hide hr
  have HN : Hid (ps.length = n) := ha.len
  have HNI : Hid ((itsOf ps).length = n) := by rw [its_len]; exact HN
  obtain ⟨r, hru⟩ : ∃ r, r = true ↔ ((itsOf ps).map (·.1)).Nodup := by
    classical
    exact ⟨decide _, decide_eq_true_iff⟩
  have HRU := hide hru
  clear ha hr hru
  go_enter Try.func10, Try.ntmps10
  go_wp2_with fail
  refine (unlike_ok _ (itsOf ps) r w HA.out.sls.its (by rw [HNI.out]; omega) HRU.out).mono ?_
  rintro e w2 ⟨rfl, hb2⟩
  have HB2 := hide hb2
  clear hb2
  cases r with
  | false =>
    go_wp2_with fail
    go_ret2
    exact ⟨none, .inr ⟨fun k => (by have := HRU.out.2 k; cases this), rfl⟩, rfl, HB2.out⟩
  | true =>
    have HND : Hid (((itsOf ps).map (·.1)).Nodup) := hide (HRU.out.1 rfl)
    clear HRU
    go_wp2_with fail
    go_loopw [4] (fun ov wr => ∃ (q : Nat) (O : List ByteArray) (oa : Option Addr) (oc : Nat), ov = .slice oa q oc ∧ q ≤ n ∧ Hid (O.length = q) ∧ Hid (Hog.Greedy ltB (itsOf ps) O) ∧ Hid (Own w2.heap.size wr (.slice oa q oc) O) ∧ Hid (Below w2.heap.size w2 wr)) (fun ov _ => n - lenV ov)
    case atStart => exact ⟨0, [], none, 0, rfl, Nat.zero_le _, rfl, hide (Hog.Greedy.nil _ _), hide (Own.nil _ _), hide (Below.refl _ _)⟩
    case round =>
      obtain ⟨q, O, oa, oc, rfl, hqn, HOL, HGR, HO, HB⟩ := hrel
      by_cases hlt : q < n
      · have hqi : (q : Int) < (n : Int) := by omega
        go_wp2_with fail
        go_loopw [5, 6] (fun bv iv wr => ∃ (k : Nat) (bst : Int), k ≤ n ∧ bv = .int .i64 bst ∧ iv = .int .i64 k ∧ Hid (BestTo (itsOf ps) O k bst) ∧ Hid (Own w2.heap.size wr (.slice oa q oc) O) ∧ Hid (Below w2.heap.size w2 wr)) (fun _ iv _ => n - (intOf iv).toNat)
        case atStart => exact ⟨0, -1, Nat.zero_le _, rfl, rfl, hide (BestTo.zero _ _), HO, HB⟩
        case round =>
          rename World => wx
          clear HO HB
          obtain ⟨k, bst, hk, rfl, rfl, HBT, HO, HB⟩ := hrel
          by_cases hlk : k < n
          · obtain ⟨p, hp⟩ : ∃ p, ps[k]? = some p := ⟨ps[k]'(by have := HN.out; omega), List.getElem?_eq_some_iff.2 ⟨_, rfl⟩⟩
            obtain ⟨b, o', rfl, hat0⟩ : ∃ b o', ao = some ⟨b, o', none⟩ ∧ RunS w b o' ps := by
              rcases HA.out.sls with ⟨e, _⟩ | ⟨b, o', c', e, _, hr⟩
              · rw [e] at hp; simp at hp
              · simp only [Value.slice.injEq] at e
                exact ⟨b, o', e.1, hr⟩
            have HBW := hide (below_two HB2.out HB.out)
            have HRUN := hide (hat0.below HBW.out)
            have hat := HRUN.out.2 k p hp
            have hpi : (itsOf ps)[k]? = some p.2 := by unfold itsOf; rw [List.getElem?_map, hp]; rfl
            have hrl := HR.out _ (List.mem_of_getElem? hpi)
            obtain ⟨⟨nm0, ⟨ra, rn, rc⟩, ⟨ta, tn, tc⟩⟩, ⟨nm, rs, ns⟩⟩ := p
            have q0 : wx.cell? ⟨b, o' + k * 3, none⟩ = some (.string nm) := hat.c0
            have q1 : wx.cell? ⟨b, o' + k * 3 + 1, none⟩ = some (.slice ra rn rc) := hat.c1
            have q2 : wx.cell? ⟨b, o' + k * 3 + 2, none⟩ = some (.slice ta tn tc) := hat.c2
            have HTR : Hid (Txt wx (.slice ra rn rc) rs) := hide hat.is.refs.txt
            have HRL : Hid (rs.length = rn) := hide hat.is.refs.len
            have hrn9 : rn < 900000 := by have := HRL.out; simp at hrl; omega
            have hbw : b < wx.heap.size := HRUN.out.1
            have HSX : Hid (Sls wx (.slice (some ⟨b, o', none⟩) n c) ps) := hide (HA.out.below HBW.out).sls
            have HPI : Hid ((itsOf ps)[k]? = some (nm, rs, ns)) := hide hpi
            have HTO := hide HO.out.txt
            have hki : (k : Int) < (n : Int) := by omega
            obtain ⟨h, hh⟩ : ∃ h, hasB O nm = h := ⟨_, rfl⟩
            obtain ⟨rd, hrd⟩ : ∃ rd, rd = true ↔ Rdy1 (itsOf ps) nm rs O := by
              classical
              exact ⟨decide _, decide_eq_true_iff⟩
            have HH := hide hh
            have HRD := hide hrd
            have f0 : ∀ q : Later wx, q.w1.cell? ⟨b, o' + k * 3, none⟩ = some (.string nm) := fun q => q.cell hbw q0
            have f1 : ∀ q : Later wx, q.w1.cell? ⟨b, o' + k * 3 + 1, none⟩ = some (.slice ra rn rc) := fun q => q.cell hbw q1
            have f2 : ∀ q : Later wx, q.w1.cell? ⟨b, o' + k * 3 + 2, none⟩ = some (.slice ta tn tc) := fun q => q.cell hbw q2
            have hne := later_one wx
            have HC1 : Hid (∀ q' : Later wx, Calls Try.prog 23 #[.slice oa q oc, .string nm] q'.w1 fun e w' => e = .returned (.bool h) ∧ Below q'.w1.heap.size q'.w1 w') := hide fun q' =>
              (xhas_ok _ O nm h q'.w1 (HTO.out.below q'.below) (by rw [HOL.out]; omega) hh).mono fun e w' hq => ⟨hq.1, by rw [hq.2]; exact Below.refl _ _⟩
            have HC2 : Hid (∀ q' : Later wx, Calls Try.prog 24 #[.slice (some ⟨b, o', none⟩) n c, .agg #[.string nm, .slice ra rn rc, .slice ta tn tc], .slice oa q oc] q'.w1 fun e w' => e = .returned (.bool rd) ∧ Below q'.w1.heap.size q'.w1 w') := hide fun q' =>
              ready_ok _ _ nm ra rn rc ta tn tc ps rs O rd q'.w1 (HSX.out.below q'.below) (by rw [HN.out]; omega) (HTR.out.below q'.below) HRL.out hrn9 (HTO.out.below q'.below) (by rw [HOL.out]; omega) hrd
            clear hp hat0 hat hpi hrl q0 q1 q2 hh hrd
            cases h with
            | true =>
              go_wp2_with fail
              refine wp_region_later (by kernel_rfl) (by kernel_rfl) ?_
              repeat (first
                | go_big_quiet_step ((go_at_call 23; exact Calls.later_of (HC1.out _)))
                | quiet_step ((go_at_call 23; exact Calls.later_of (HC1.out _))))
              refine wpQuiet_nil ?_
              intro W6 hw'
              have hbq := later_below hw'
              have HBQ := hide (below_two HB.out hbq)
              have HOQ := hide (HO.out.below hbq)
              clear hw' f0 f1 f2 HC1 HC2 hbq
              go_wp2_with fail
              go_roundw
              case rel => exact ⟨k + 1, bst, by omega, rfl, by go_num, hide (HBT.out.pass HPI.out (fun hc => hc.1 (has_iff.1 HH.out))), HOQ, HBQ⟩
              case measure => simp [intOf]; omega
            | false =>
              have HNO : Hid (¬ nm ∈ O) := hide fun hm => by have h1 := has_iff.2 hm; rw [HH.out] at h1; cases h1
              cases rd with
              | false =>
                go_wp2_with fail
                refine wp_region_later (by kernel_rfl) (by kernel_rfl) ?_
                repeat (first
                  | go_big_quiet_step ((first | (go_at_call 23; exact Calls.later_of (HC1.out _)) | (go_at_call 24; exact Calls.later_of (HC2.out _))))
                  | quiet_step ((first | (go_at_call 23; exact Calls.later_of (HC1.out _)) | (go_at_call 24; exact Calls.later_of (HC2.out _)))))
                refine wpQuiet_nil ?_
                intro W6 hw'
                have hbq := later_below hw'
                have HBQ := hide (below_two HB.out hbq)
                have HOQ := hide (HO.out.below hbq)
                clear hw' f0 f1 f2 HC1 HC2 hbq
                go_wp2_with fail
                go_roundw
                case rel => exact ⟨k + 1, bst, by omega, rfl, by go_num, hide (HBT.out.pass HPI.out (fun hc => by have h1 := HRD.out.2 ((can_item HND.out HPI.out).1 hc).2; cases h1)), HOQ, HBQ⟩
                case measure => simp [intOf]; omega
              | true =>
                have HCAN : Hid (Hog.Can (itsOf ps) O nm) := hide ((can_item HND.out HPI.out).2 ⟨HNO.out, by have h1 := HRD.out; exact h1.1 (by first | rfl | trivial)⟩)
                rcases HBT.out with ⟨hbe, _⟩ | ⟨m, i, hbe, hmk, hmi, _, _⟩
                · have HBE := hide hbe
                  have hb0 : bst < 0 := by omega
                  clear hbe
                  go_wp2_with fail
                  refine wp_region_later (by kernel_rfl) (by kernel_rfl) ?_
                  repeat (first
                    | go_big_quiet_step ((first | (go_at_call 23; exact Calls.later_of (HC1.out _)) | (go_at_call 24; exact Calls.later_of (HC2.out _))))
                    | quiet_step ((first | (go_at_call 23; exact Calls.later_of (HC1.out _)) | (go_at_call 24; exact Calls.later_of (HC2.out _)))))
                  refine wpQuiet_nil ?_
                  intro W6 hw'
                  have hbq := later_below hw'
                  have HBQ := hide (below_two HB.out hbq)
                  have HOQ := hide (HO.out.below hbq)
                  clear hw' f0 f1 f2 HC1 HC2 hbq
                  go_wp2_with fail
                  go_roundw
                  case rel => exact ⟨k + 1, (k : Int), by omega, rfl, by go_num, hide (HBT.out.new HPI.out HCAN.out (.inl HBE.out)), HOQ, HBQ⟩
                  case measure => simp [intOf]; omega
                · subst hbe
                  have HMI := hide hmi
                  have hm0 : (0 : Int) ≤ (m : Int) := by omega
                  have hmn : (m : Int) < (n : Int) := by omega
                  obtain ⟨pm, hpm, epm⟩ : ∃ pm, ps[m]? = some pm ∧ pm.2 = i := by
                    unfold itsOf at hmi
                    rw [List.getElem?_map] at hmi
                    exact Option.map_eq_some_iff.1 hmi
                  have q3 : wx.cell? ⟨b, o' + m * 3, none⟩ = some (.string i.1) := by rw [← epm]; exact (HRUN.out.2 m pm hpm).c0
                  have f3 : ∀ q : Later wx, q.w1.cell? ⟨b, o' + m * 3, none⟩ = some (.string i.1) := fun q => q.cell hbw q3
                  clear hmi hpm epm q3
                  cases hless : Op.bytesLess nm.toList i.1.toList with
                  | true =>
                    have HLESS := hide hless
                    go_wp2_with fail
                    refine wp_region_later (by kernel_rfl) (by kernel_rfl) ?_
                    repeat (first
                      | go_big_quiet_step ((first | (go_at_call 23; exact Calls.later_of (HC1.out _)) | (go_at_call 24; exact Calls.later_of (HC2.out _))))
                      | quiet_step ((first | (go_at_call 23; exact Calls.later_of (HC1.out _)) | (go_at_call 24; exact Calls.later_of (HC2.out _)))))
                    refine wpQuiet_nil ?_
                    intro W6 hw'
                    have hbq := later_below hw'
                    have HBQ := hide (below_two HB.out hbq)
                    have HOQ := hide (HO.out.below hbq)
                    clear hw' f0 f1 f2 HC1 HC2 hbq f3
                    go_wp2_with fail
                    go_roundw
                    case rel => exact ⟨k + 1, (k : Int), by omega, rfl, by go_num, hide (HBT.out.new HPI.out HCAN.out (.inr ⟨m, i, rfl, HMI.out, HLESS.out⟩)), HOQ, HBQ⟩
                    case measure => simp [intOf]; omega
                  | false =>
                    have HLESS := hide hless
                    go_wp2_with fail
                    refine wp_region_later (by kernel_rfl) (by kernel_rfl) ?_
                    repeat (first
                      | go_big_quiet_step ((first | (go_at_call 23; exact Calls.later_of (HC1.out _)) | (go_at_call 24; exact Calls.later_of (HC2.out _))))
                      | quiet_step ((first | (go_at_call 23; exact Calls.later_of (HC1.out _)) | (go_at_call 24; exact Calls.later_of (HC2.out _)))))
                    refine wpQuiet_nil ?_
                    intro W6 hw'
                    have hbq := later_below hw'
                    have HBQ := hide (below_two HB.out hbq)
                    have HOQ := hide (HO.out.below hbq)
                    clear hw' f0 f1 f2 HC1 HC2 hbq f3
                    go_wp2_with fail
                    go_roundw
                    case rel => exact ⟨k + 1, (m : Int), by omega, rfl, by go_num, hide (HBT.out.old HPI.out HMI.out (by unfold ltB; rw [show ((nm, rs, ns) : It).1 = nm from rfl, HLESS.out]; simp)), HOQ, HBQ⟩
                    case measure => simp [intOf]; omega
          · have hki : (n : Int) ≤ (k : Int) := by omega
            have HKN : Hid (k = n) := hide (by omega)
            rcases HBT.out with ⟨hbe, hno⟩ | ⟨m, i, hbe, hmk, hmi, hcm, hle⟩
            · have HNO : Hid (Hog.OrdIs ltB (itsOf ps) none) := hide (.none HGR.out (by rw [HOL.out, HNI.out]; exact hlt) (fun x hx => by
                obtain ⟨_, i, hi, e, _⟩ := id hx
                obtain ⟨j, hj⟩ := List.getElem?_of_mem hi
                refine hno j i (by have := (List.getElem?_eq_some_iff.1 hj).1; have := HNI.out; have := HKN.out; omega) hj ?_
                rw [e]
                exact hx))
              have hb0 : bst < 0 := by omega
              clear hbe hno
              go_wp2_with fail
              go_ret2
              exact ⟨none, .inl ⟨HND.out, HNO.out⟩, rfl, below_two HB2.out HB.out⟩
            · subst hbe
              have hmn : m < n := by omega
              have hm0 : (0 : Int) ≤ (m : Int) := by omega
              have hmni : (m : Int) < (n : Int) := by omega
              have HBEST : Hid (Hog.Best ltB (itsOf ps) O i.1) := hide ⟨hcm, fun y hy => by
                obtain ⟨_, u, hu, e, _⟩ := id hy
                obtain ⟨j, hj⟩ := List.getElem?_of_mem hu
                rw [← e] at hy ⊢
                exact hle j u (by have := (List.getElem?_eq_some_iff.1 hj).1; have := HNI.out; have := HKN.out; omega) hj hy⟩
              have HG2 := hide (HGR.out.snoc HBEST.out)
              obtain ⟨pm, hpm, epm⟩ : ∃ pm, ps[m]? = some pm ∧ pm.2 = i := by
                unfold itsOf at hmi
                rw [List.getElem?_map] at hmi
                exact Option.map_eq_some_iff.1 hmi
              obtain ⟨b, o', rfl, hrun⟩ : ∃ b o', ao = some ⟨b, o', none⟩ ∧ RunS w b o' ps := by
                rcases HA.out.sls with ⟨e, _⟩ | ⟨b, o', c', e, _, hr⟩
                · rw [e] at hpm; simp at hpm
                · simp only [Value.slice.injEq] at e
                  exact ⟨b, o', e.1, hr⟩
              have q3 : wx.cell? ⟨b, o' + m * 3, none⟩ = some (.string i.1) := by rw [← epm]; exact ((hrun.below (below_two HB2.out HB.out)).2 m pm hpm).c0
              have HOA := hide (HO.out.alloc (.cells #[.string i.1] 9))
              have HAA := hide (arg_one wx i.1)
              have HBA := hide (HB.out.trans ((below_box wx (.cells #[.string i.1] 9)).mono HB.out.size))
              have HBS := hide HB.out.size
              clear hmi hcm hle hpm epm hrun
              go_wp2_with (at_builtin; refine wpList_append_arg rfl _ _ rfl w2.heap.size _ O rfl HOA.out _ _ _ [i.1] rfl HAA.out ?d1 ?d2 ?_)
              case d1 => rw [HOL.out]; simp; omega
              case d2 => have := HBS.out; simp; omega
              intro b3 c3 w5 ho5 hb5
              have HO5 := hide ho5
              have HB5 := hide (HBA.out.trans hb5)
              rw [HOL.out] at HO5
              clear ho5 hb5
              go_wp2_with fail
              go_roundw
              case rel => exact ⟨q + 1, O ++ [i.1], b3, c3, by rw [HOL.out], by omega, hide (by rw [List.length_append, HOL.out]; rfl), HG2, HO5, HB5⟩
              case measure => have := HOL.out; simp [lenV]; omega
      · have hqi : (n : Int) ≤ (q : Int) := by omega
        have hqe : n = q := by omega
        subst hqe
        go_wp2_with fail
        go_ret2
        exact ⟨some O, .inl ⟨HND.out, .all HGR.out (by rw [HOL.out, HNI.out])⟩, ⟨oa, oc, rfl, HO.out.base HB2.out.size, HOL.out⟩, below_two HB2.out HB.out⟩
end Go.Proofs.Yticpljjbnfimkaa
