/- The walk of OrderLast. -/
import Derived.Test.YticpljjbnfimkaaQO
import Derived.Test.YticpljjbnfimkaaQP
namespace Go.Proofs.Yticpljjbnfimkaa
open Go.RowKit

theorem empty_list : (ByteArray.empty).toList = [] := by rw [Lib.toList_data]; rfl
def kLast : ByteArray := ⟨#[108, 97, 115, 116]⟩
/-- Neither its name nor a reference of it is "last", or empty. -/
def okL (i : It) : Bool := !(i.1.toList == []) && !(i.1.toList == kLast.toList) && !hasB i.2.1 kLast && !hasB i.2.1 ByteArray.empty
theorem okL_iff {i : It} : okL i = true ↔ i.1 ≠ ByteArray.empty ∧ i.1 ≠ kLast ∧ ¬ kLast ∈ i.2.1 ∧ ¬ ByteArray.empty ∈ i.2.1 := by
  have e1 : (i.1.toList == []) = true ↔ i.1 = ByteArray.empty := by rw [beq_iff_eq, bytes_eq, empty_list]
  have e2 : (i.1.toList == kLast.toList) = true ↔ i.1 = kLast := by rw [beq_iff_eq, bytes_eq]
  unfold okL
  rw [Bool.and_eq_true, Bool.and_eq_true, Bool.and_eq_true, Bool.not_eq_true', Bool.not_eq_true', Bool.not_eq_true', Bool.not_eq_true', ← Bool.not_eq_true, ← Bool.not_eq_true, ← Bool.not_eq_true, ← Bool.not_eq_true, e1, e2, has_iff, has_iff]
  constructor
  · rintro ⟨⟨⟨a, b⟩, c⟩, d⟩; exact ⟨a, b, c, d⟩
  · rintro ⟨a, b, c, d⟩; exact ⟨⟨⟨a, b⟩, c⟩, d⟩
/-- An item more that refers to all. -/
theorem ordO_last {is : List It} {a : Option (List ByteArray)} (h : OrdO is a) (hu : (is.map (·.1)).Nodup) (hk : ∀ i ∈ is, okL i = true) : OrdO ((kLast, is.map (·.1), []) :: is) (a.map fun o => o ++ [kLast]) := by
  have hz : ¬ kLast ∈ is.map (·.1) := fun hm => by
    obtain ⟨i, hi, e⟩ := List.mem_map.1 hm
    exact (okL_iff.1 (hk i hi)).2.1 e
  rcases h with ⟨_, h2⟩ | ⟨h1, _⟩
  · refine .inl ⟨by rw [List.map_cons]; exact List.nodup_cons.2 ⟨hz, hu⟩, ?_⟩
    exact Hog.ord_last hu hz (fun i hi => (okL_iff.1 (hk i hi)).2.2.1) (fun x hx => hx) ltB_irr h2
  · exact absurd hu h1
/-- An item more that refers to none, with the least name. -/
theorem ordO_first {is : List It} {a : Option (List ByteArray)} (h : OrdO is a) (hu : (is.map (·.1)).Nodup) (hk : ∀ i ∈ is, okL i = true) : OrdO (is ++ [(ByteArray.empty, [], [])]) (a.map fun o => ByteArray.empty :: o) := by
  have hz : ¬ ByteArray.empty ∈ is.map (·.1) := fun hm => by
    obtain ⟨i, hi, e⟩ := List.mem_map.1 hm
    exact (okL_iff.1 (hk i hi)).1 e
  rcases h with ⟨_, h2⟩ | ⟨h1, _⟩
  · refine .inl ⟨?_, ?_⟩
    · rw [List.map_append]
      exact List.nodup_append.2 ⟨hu, by simp, fun x hx y hy e => by simp at hy; rw [e, hy] at hx; exact hz hx⟩
    · exact Hog.ord_first (z := ((ByteArray.empty, [], []) : It)) hz (fun i hi => (okL_iff.1 (hk i hi)).2.2.2) rfl (fun x hx => by
        unfold ltB at hx
        rw [show (((ByteArray.empty, [], []) : It).1).toList = [] from empty_list] at hx
        cases hh : x.toList <;> rw [hh] at hx <;> simp [Op.bytesLess] at hx) h2
  · exact absurd hu h1
/-- The item that is put ahead, with its cells; the one that is put behind. -/
def lastP (a2 : Option Addr) (n c2 : Nat) (xs : List ByteArray) : Pr := ((kLast, (a2, n, c2), (none, 0, 0)), (kLast, xs, []))
def firstP : Pr := ((ByteArray.empty, (none, 0, 0), (none, 0, 0)), (ByteArray.empty, [], []))
theorem lastP_is {base : Nat} {w : World} {a2 : Option Addr} {n c2 : Nat} {xs : List ByteArray} (h : Own base w (.slice a2 n c2) xs) : IsI w (lastP a2 n c2 xs) := ⟨rfl, h.argT, argN_nil w⟩
theorem firstP_is (w : World) : IsI w firstP := ⟨rfl, ⟨rfl, fun _ => ⟨rfl, rfl⟩, Nat.le_refl _, fun _ e => by cases e⟩, argN_nil w⟩
theorem lastP_own (w : World) (a2 : Option Addr) (n c2 : Nat) (xs : List ByteArray) : OwnS w.heap.size (w.alloc (.cells #[.string kLast, .slice a2 n c2, .slice none 0 0] 33)) (.slice (some ⟨w.heap.size, 0, none⟩) 1 1) [lastP a2 n c2 xs] := OwnS.made w [lastP a2 n c2 xs] (by unfold maxLen; simp)
set_option maxRecDepth 100000 in
set_option maxHeartbeats 8000000 in
theorem last_walk (ao : Option Addr) (n c : Nat) (ps : List Pr) (w : World) (ha : ArgS w ao n c ps) (hn : n ≤ maxLen) (hL : Lens (itsOf ps)) :
    Calls Try.prog 6 #[.slice ao n c] w fun e w' => e = .returned (.bool true) ∧ Below w.heap.size w w' := by
  have HA := hide ha
  have HL := hide hL
  have HN : Hid (ps.length = n) := ha.len
  have HNI : Hid ((itsOf ps).length = n) := by rw [its_len]; exact HN
  have hni : (n : Int) ≤ 9223372036854775807 := by unfold maxLen at hn; omega
  have HIT := hide ha.sls.its
  obtain ⟨g, hg⟩ : ∃ g, greatI (itsOf ps) = g := ⟨_, rfl⟩
  have HG := hide hg
  clear ha hL hg
  go_enter Try.func6, Try.ntmps6
  go_wp2_with fail
  refine (greatI_ok _ (itsOf ps) g w HIT.out (by rw [HNI.out]; exact hn) HL.out HG.out).mono ?_
  rintro e w1 ⟨rfl, rfl⟩
  cases g with
  | true =>
    go_wp2_with fail
    refine (awake10_ok w1).mono ?_
    rintro e w2 ⟨rfl, hb2⟩
    have HB2 := hide hb2
    clear hb2
    go_wp2_with fail
    go_ret
    exact ⟨rfl, HB2.out⟩
  | false =>
    obtain ⟨h10, hrf⟩ := bigI_refs HG.out
    rw [HNI.out] at h10
    have HRF := hide hrf
    clear hrf
    by_cases h9 : 9 < n
    · have h9i : (9 : Int) < (n : Int) := by omega
      go_wp2_with fail
      refine (awake10_ok w1).mono ?_
      rintro e w2 ⟨rfl, hb2⟩
      have HB2 := hide hb2
      clear hb2
      go_wp2_with fail
      go_ret
      exact ⟨rfl, HB2.out⟩
    have h9n : n ≤ 9 := by omega
    have h9i : (n : Int) ≤ 9 := by omega
    clear hni h9 h10
    obtain ⟨r, hr⟩ : ∃ r, r = true ↔ ((itsOf ps).map (·.1)).Nodup := by
      classical
      exact ⟨decide _, decide_eq_true_iff⟩
    have HRU := hide hr
    clear hr
    go_wp2_with fail
    refine (unlike_ok _ (itsOf ps) r w1 HIT.out (by rw [HNI.out]; omega) HRU.out).mono ?_
    rintro e w2 ⟨rfl, hb2⟩
    have HB2 := hide hb2
    clear hb2
    cases r with
    | false =>
      go_wp2_with fail
      refine (awake10_ok w2).mono ?_
      rintro e w3 ⟨rfl, hb3⟩
      have HB3 := hide (below_two HB2.out hb3)
      clear hb3
      go_wp2_with fail
      go_ret
      exact ⟨rfl, HB3.out⟩
    | true =>
      have HND : Hid (((itsOf ps).map (·.1)).Nodup) := hide (HRU.out.1 rfl)
      have HRO : Hid (∀ i ∈ itsOf ps, i.2.1.length ≤ 900) := hide fun i hi => by have := (HRF.out i hi).1; omega
      clear hn HRU
      go_wp2_with fail
      go_loopw [3, 4] (fun rv iv wr => ∃ (k : Nat) (a2 : Option Addr) (c2 : Nat) (xs : List ByteArray), k ≤ n ∧ iv = .int .i64 k ∧ rv = .slice a2 k c2 ∧ Hid (xs = (itsOf (ps.take k)).map (·.1)) ∧ Hid (xs.length = k) ∧ Hid (Own w2.heap.size wr (.slice a2 k c2) xs) ∧ Hid (∀ i ∈ itsOf (ps.take k), okL i = true) ∧ Hid (Below w2.heap.size w2 wr)) (fun rv _ _ => n - lenV rv)
      case atStart => exact ⟨0, none, 0, [], Nat.zero_le _, rfl, rfl, hide (by simp [itsOf]), hide rfl, hide (Own.nil _ _), hide (fun i hi => by simp [itsOf] at hi), hide (Below.refl _ _)⟩
      case round =>
        obtain ⟨k, a2, c2, xs, hk, rfl, rfl, HXS, HXL, HO, HOK, HB⟩ := hrel
        by_cases hlt : k < n
        · obtain ⟨p, hp⟩ : ∃ p, ps[k]? = some p := ⟨ps[k]'(by have := HN.out; omega), List.getElem?_eq_some_iff.2 ⟨_, rfl⟩⟩
          obtain ⟨b, o', rfl, hat0⟩ : ∃ b o', ao = some ⟨b, o', none⟩ ∧ AtS w1 b (o' + k * 3) p := by
            rcases HA.out.sls with ⟨e, _⟩ | ⟨b, o', c', e, _, hr⟩
            · rw [e] at hp; simp at hp
            · simp only [Value.slice.injEq] at e
              exact ⟨b, o', e.1, hr.2 k p hp⟩
          have hat := hat0.below (below_two HB2.out HB.out)
          have hpi : p.2 ∈ itsOf ps := List.mem_map.2 ⟨p, List.mem_of_getElem? hp, rfl⟩
          have hst : ps.take (k + 1) = ps.take k ++ [p] := by
            obtain ⟨h1, e⟩ := List.getElem?_eq_some_iff.1 hp
            rw [List.take_succ_eq_append_getElem h1, e]
          have hrl := HRO.out _ hpi
          obtain ⟨⟨nm0, ⟨ra, rn, rc⟩, ⟨ta, tn, tc⟩⟩, ⟨nm, rs, ns⟩⟩ := p
          have q0 : wr.cell? ⟨b, o' + k * 3, none⟩ = some (.string nm) := hat.c0
          have q1 : wr.cell? ⟨b, o' + k * 3 + 1, none⟩ = some (.slice ra rn rc) := hat.c1
          have HTR : Hid (Txt wr (.slice ra rn rc) rs) := hide hat.is.refs.txt
          have hrl9 : rs.length < 900000 := by simp at hrl; omega
          have HRL := hide hrl9
          have HST := hide hst
          have hki : (k : Int) < (n : Int) := by omega
          clear hp hat0 hat hpi hst hrl hrl9
          have HBW := hide (below_two HB2.out HB.out)
          cases e1 : (nm.toList == []) with
          | true =>
            go_wp2_with fail
            refine (awake10_ok _).mono ?_
            rintro e w9 ⟨rfl, hb9⟩
            have HB9 := hide (below_two HBW.out hb9)
            clear hb9
            go_wp2_with fail
            go_ret
            exact ⟨rfl, HB9.out⟩
          | false =>
            cases e2 : (nm.toList == [108, 97, 115, 116]) with
            | true =>
              go_wp2_with fail
              refine (awake10_ok _).mono ?_
              rintro e w9 ⟨rfl, hb9⟩
              have HB9 := hide (below_two HBW.out hb9)
              clear hb9
              go_wp2_with fail
              go_ret
              exact ⟨rfl, HB9.out⟩
            | false =>
              obtain ⟨h3, hh3⟩ : ∃ r, hasB rs kLast = r := ⟨_, rfl⟩
              obtain ⟨h4, hh4⟩ : ∃ r, hasB rs ByteArray.empty = r := ⟨_, rfl⟩
              have HH3 := hide hh3
              have HH4 := hide hh4
              have HE : Hid ((nm.toList == []) = false ∧ (nm.toList == [108, 97, 115, 116]) = false) := hide ⟨e1, e2⟩
              clear hh3 hh4
              go_wp2_with fail
              refine (lhas_ok _ rs kLast h3 wr HTR.out HRL.out HH3.out).mono ?_
              rintro e w3 ⟨rfl, rfl⟩
              cases h3 with
              | true =>
                go_wp2_with fail
                refine (awake10_ok _).mono ?_
                rintro e w9 ⟨rfl, hb9⟩
                have HB9 := hide (below_two HBW.out hb9)
                clear hb9
                go_wp2_with fail
                go_ret
                exact ⟨rfl, HB9.out⟩
              | false =>
                go_wp2_with fail
                refine (lhas_ok _ rs ByteArray.empty h4 w3 HTR.out HRL.out HH4.out).mono ?_
                rintro e w4 ⟨rfl, rfl⟩
                cases h4 with
                | true =>
                  go_wp2_with fail
                  refine (awake10_ok _).mono ?_
                  rintro e w9 ⟨rfl, hb9⟩
                  have HB9 := hide (below_two HBW.out hb9)
                  clear hb9
                  go_wp2_with fail
                  go_ret
                  exact ⟨rfl, HB9.out⟩
                | false =>
                  have HOK2 : Hid (okL (nm, rs, ns) = true) := hide (by
                    unfold okL
                    have e3 : kLast.toList = [108, 97, 115, 116] := by rw [Lib.toList_data]; rfl
                    rw [HH3.out, HH4.out, e3, HE.out.1, HE.out.2]
                    rfl)
                  have HOA := hide (HO.out.alloc (.cells #[.string nm] 9))
                  have HAA := hide (arg_one w4 nm)
                  have HBA := hide (HB.out.trans ((below_box w4 (.cells #[.string nm] 9)).mono HB.out.size))
                  have HBS := hide HB.out.size
                  clear e1 e2 HE
                  go_wp2_with (at_builtin; refine wpList_append_arg rfl _ _ rfl w2.heap.size _ xs rfl HOA.out _ _ _ [nm] rfl HAA.out ?d1 ?d2 ?_)
                  case d1 => rw [HXL.out]; simp; omega
                  case d2 => have := HBS.out; simp; omega
                  intro b3 c3 w5 ho5 hb5
                  have HO5 := hide ho5
                  have HB5 := hide (HBA.out.trans hb5)
                  rw [HXL.out] at HO5
                  clear ho5 hb5
                  go_wp2_with fail
                  go_roundw
                  case rel =>
                    refine ⟨k + 1, b3, c3, xs ++ [nm], by omega, by go_num, by rw [HXL.out], ?_, hide (by rw [List.length_append, HXL.out]; rfl), HO5, ?_, HB5⟩
                    · refine hide ?_
                      rw [HST.out, HXS.out]
                      unfold itsOf
                      rw [List.map_append, List.map_append]
                      rfl
                    · refine hide fun i hi => ?_
                      rw [HST.out] at hi
                      unfold itsOf at hi
                      rw [List.map_append] at hi
                      rcases List.mem_append.1 hi with hi | hi
                      · exact HOK.out i hi
                      · simp at hi
                        rw [hi]
                        exact HOK2.out
                  case measure => have := HXL.out; simp [lenV]; omega
        · have hkn : n = k := by omega
          subst hkn
          have hki : (n : Int) ≤ (n : Int) := Int.le_refl _
          have HOKA : Hid (∀ i ∈ itsOf ps, okL i = true) := by have h1 := HOK.out; rw [List.take_of_length_le (by rw [HN.out]; exact Nat.le_refl _)] at h1; exact hide h1
          have HXA : Hid (xs = (itsOf ps).map (·.1)) := by have h1 := HXS.out; rw [List.take_of_length_le (by rw [HN.out]; exact Nat.le_refl _)] at h1; exact hide h1
          have HBW := hide (below_two HB2.out HB.out)
          have HAR := hide (HA.out.below HBW.out)
          obtain ⟨a, hoa⟩ := ordO_ex (itsOf ps)
          have HOA := hide hoa
          have HOL := hide (ordO_last hoa HND.out HOKA.out)
          have HOF := hide (ordO_first hoa HND.out HOKA.out)
          clear hoa HXS HOK hlt hk
          cases a with
          | none =>
            go_wp2_with fail
            refine (of_none _ (itsOf ps) wr HOA.out HAR.out.sls.its (by rw [HNI.out]; omega) HRO.out).mono ?_
            rintro e w3 ⟨rfl, hb3⟩
            have HB3 := hide (below_two HBW.out hb3)
            have HA3 := hide (HAR.out.below hb3)
            have HX3 := hide (HO.out.below hb3)
            clear hb3
            have HP4 := hide (lastP_own w3 a2 n c2 xs)
            have HB34 := hide (below_box w3 (.cells #[.string kLast, .slice a2 n c2, .slice none 0 0] 33))
            have HA4 := hide (HA3.out.below HB34.out)
            go_wp2_with (at_builtin; refine wpList_append_itemsA rfl _ _ rfl w3.heap.size _ [lastP a2 n c2 xs] rfl HP4.out ao n c ps rfl HA4.out (n + 1) ?d1 (lastP a2 n c2 xs :: ps) rfl ?d2 ?d3 ?_)
            case d1 => rw [HN.out]; simp; omega
            case d2 => omega
            case d3 => simp
            intro b5 c5 w5 ho5 hg5
            have HB5 := hide (HB34.out.trans (HP4.out.grownBelow hg5 HB34.out.size))
            have HI5 : Hid (Its w5 (.slice b5 (n + 1) c5) ((kLast, (itsOf ps).map (·.1), []) :: itsOf ps)) := by
              have h1 := ho5.sls (fun p hp => by
                rcases List.mem_cons.1 hp with rfl | hp
                · exact (lastP_is HX3.out).below HB5.out
                · exact (HA3.out.each p hp).below HB5.out)
              have h2 := h1.its
              rw [show itsOf (lastP a2 n c2 xs :: ps) = (kLast, xs, []) :: itsOf ps from rfl, HXA.out] at h2
              exact hide h2
            clear ho5 hg5 HP4 HA4
            go_wp2_with fail
            refine (of_none _ _ w5 HOL.out HI5.out (by rw [List.length_cons, HNI.out]; omega) (fun i hi => by
              rcases List.mem_cons.1 hi with rfl | hi
              · show ((itsOf ps).map (·.1)).length ≤ 900; rw [List.length_map, HNI.out]; omega
              · exact HRO.out i hi)).mono ?_
            rintro e w6 ⟨rfl, hb6⟩
            have HB36 := hide (below_two HB5.out hb6)
            have HB6 := hide (below_two HB3.out HB36.out)
            have HA6 := hide (HA3.out.below HB36.out)
            clear hb6 HB5 HI5
            have hcap : (n : Int) ≤ (c : Int) := by have := HA.out.cap; omega
            have HB67 := hide (below_box w6 (.cells #[.string ByteArray.empty, .slice none 0 0, .slice none 0 0] 33))
            have HY6 := hide (argS_one (firstP_is w6))
            have HA7 : Hid (ArgS (w6.alloc (.cells #[.string ByteArray.empty, .slice none 0 0, .slice none 0 0] 33)) ao n n ps) := hide ⟨HA6.out.len, fun e => ⟨((HA6.out.below HB67.out).none e).1, ((HA6.out.below HB67.out).none e).1⟩, Nat.le_refl _, (HA6.out.below HB67.out).cell, (HA6.out.below HB67.out).each⟩
            go_wp2_with (at_builtin; refine wpList_append_itemsF rfl _ _ rfl ao n ps rfl HA7.out w6.heap.size _ 1 firstP rfl HY6.out ?d1 ?d2 ?_)
            case d1 => omega
            case d2 => simp
            intro b7 c7 w7 ho7 hb7
            have HB7 := hide (HB67.out.trans hb7)
            have HI7 : Hid (Its w7 (.slice b7 (n + 1) c7) (itsOf ps ++ [(ByteArray.empty, [], [])])) := by
              have h1 := ho7.sls (fun p hp => by
                rcases List.mem_append.1 hp with hp | hp
                · exact (HA6.out.each p hp).below HB7.out
                · rw [List.mem_singleton.1 hp]; exact firstP_is w7)
              have h2 := h1.its
              rw [show itsOf (ps ++ [firstP]) = itsOf ps ++ [(ByteArray.empty, [], [])] by unfold itsOf; rw [List.map_append]; rfl] at h2
              exact hide h2
            clear ho7 hb7 HY6 HA7 hcap
            go_wp2_with fail
            refine (of_none _ _ w7 HOF.out HI7.out (by rw [List.length_append, HNI.out]; simp; omega) (fun i hi => by
              rcases List.mem_append.1 hi with hi | hi
              · exact HRO.out i hi
              · rw [List.mem_singleton.1 hi]; exact Nat.zero_le _)).mono ?_
            rintro e w8 ⟨rfl, hb8⟩
            have HB8 := hide (below_two HB6.out (below_two HB7.out hb8))
            clear hb8
            go_wp2_with fail
            refine (awake10_ok _).mono ?_
            rintro e w9 ⟨rfl, hb9⟩
            have HB9 := hide (below_two HB8.out hb9)
            clear hb9
            go_wp2_with fail
            go_ret
            exact ⟨rfl, HB9.out⟩
          | some o =>
            go_wp2_with fail
            refine (of_some _ (itsOf ps) o n wr HOA.out HNI.out HAR.out.sls.its (by omega) HRO.out).mono ?_
            rintro e w3 ⟨oa, oc, rfl, ho3, hol, hb3⟩
            have HOLN := hide hol
            have HR3 := hide ho3
            have HB3 := hide (below_two HBW.out hb3)
            have HA3 := hide (HAR.out.below hb3)
            have HX3 := hide (HO.out.below hb3)
            have HRB : Hid (∀ k, (Value.slice oa n oc).ownBlock = some k → k < w3.heap.size) := hide fun k e => (ho3.lt k e).2
            have HWS3 := hide hb3.size
            clear hb3 ho3 hol
            have HP4 := hide (lastP_own w3 a2 n c2 xs)
            have HB34 := hide (below_box w3 (.cells #[.string kLast, .slice a2 n c2, .slice none 0 0] 33))
            have HA4 := hide (HA3.out.below HB34.out)
            go_wp2_with (at_builtin; refine wpList_append_itemsA rfl _ _ rfl w3.heap.size _ [lastP a2 n c2 xs] rfl HP4.out ao n c ps rfl HA4.out (n + 1) ?d1 (lastP a2 n c2 xs :: ps) rfl ?d2 ?d3 ?_)
            case d1 => rw [HN.out]; simp; omega
            case d2 => omega
            case d3 => simp
            intro b5 c5 w5 ho5 hg5
            have HB5 := hide (HB34.out.trans (HP4.out.grownBelow hg5 HB34.out.size))
            have HI5 : Hid (Its w5 (.slice b5 (n + 1) c5) ((kLast, (itsOf ps).map (·.1), []) :: itsOf ps)) := by
              have h1 := ho5.sls (fun p hp => by
                rcases List.mem_cons.1 hp with rfl | hp
                · exact (lastP_is HX3.out).below HB5.out
                · exact (HA3.out.each p hp).below HB5.out)
              have h2 := h1.its
              rw [show itsOf (lastP a2 n c2 xs :: ps) = (kLast, xs, []) :: itsOf ps from rfl, HXA.out] at h2
              exact hide h2
            clear ho5 hg5 HP4 HA4
            go_wp2_with fail
            refine (of_some _ _ (o ++ [kLast]) (n + 1) w5 HOL.out (by rw [List.length_cons, HNI.out]) HI5.out (by omega) (fun i hi => by
              rcases List.mem_cons.1 hi with rfl | hi
              · show ((itsOf ps).map (·.1)).length ≤ 900; rw [List.length_map, HNI.out]; omega
              · exact HRO.out i hi)).mono ?_
            rintro e w6 ⟨pa, pc, rfl, ho6, _, hb6⟩
            have HS6 := hide ho6
            have HB36 := hide (below_two HB5.out hb6)
            have HB6 := hide (below_two HB3.out HB36.out)
            have HA6 := hide (HA3.out.below HB36.out)
            have HR6 := hide (HR3.out.below HB36.out)
            have HW35 : Hid (w3.heap.size ≤ w5.heap.size) := hide HB5.out.size
            have HW57 : Hid (w5.heap.size ≤ w6.heap.size) := hide hb6.size
            clear hb6 HB5 HI5 ho6
            have hcap : (n : Int) ≤ (c : Int) := by have := HA.out.cap; omega
            have HB67 := hide (below_box w6 (.cells #[.string ByteArray.empty, .slice none 0 0, .slice none 0 0] 33))
            have HY6 := hide (argS_one (firstP_is w6))
            have HA7 : Hid (ArgS (w6.alloc (.cells #[.string ByteArray.empty, .slice none 0 0, .slice none 0 0] 33)) ao n n ps) := hide ⟨HA6.out.len, fun e => ⟨((HA6.out.below HB67.out).none e).1, ((HA6.out.below HB67.out).none e).1⟩, Nat.le_refl _, (HA6.out.below HB67.out).cell, (HA6.out.below HB67.out).each⟩
            go_wp2_with (at_builtin; refine wpList_append_itemsF rfl _ _ rfl ao n ps rfl HA7.out w6.heap.size _ 1 firstP rfl HY6.out ?d1 ?d2 ?_)
            case d1 => omega
            case d2 => simp
            intro b7 c7 w7 ho7 hb7
            have HB7 := hide (HB67.out.trans hb7)
            have HI7 : Hid (Its w7 (.slice b7 (n + 1) c7) (itsOf ps ++ [(ByteArray.empty, [], [])])) := by
              have h1 := ho7.sls (fun p hp => by
                rcases List.mem_append.1 hp with hp | hp
                · exact (HA6.out.each p hp).below HB7.out
                · rw [List.mem_singleton.1 hp]; exact firstP_is w7)
              have h2 := h1.its
              rw [show itsOf (ps ++ [firstP]) = itsOf ps ++ [(ByteArray.empty, [], [])] by unfold itsOf; rw [List.map_append]; rfl] at h2
              exact hide h2
            clear ho7 hb7 HY6 HA7 hcap
            go_wp2_with fail
            refine (of_some _ _ (ByteArray.empty :: o) (n + 1) w7 HOF.out (by rw [List.length_append, HNI.out]; rfl) HI7.out (by omega) (fun i hi => by
              rcases List.mem_append.1 hi with hi | hi
              · exact HRO.out i hi
              · rw [List.mem_singleton.1 hi]; exact Nat.zero_le _)).mono ?_
            rintro e w8 ⟨qa, qc, rfl, ho8, _, hb8⟩
            have HB68 := hide (below_two HB7.out hb8)
            have HB8 := hide (below_two HB6.out HB68.out)
            have HQ8 := hide ho8
            have HS8 := hide (HS6.out.below HB68.out)
            have HR8 := hide (HR6.out.below HB68.out)
            have HW7 : Hid (w6.heap.size ≤ w7.heap.size) := hide HB7.out.size
            have HWR8 : Hid (wr.heap.size ≤ w8.heap.size) := hide (Nat.le_trans HWS3.out (Nat.le_trans HW35.out (Nat.le_trans HW57.out HB68.out.size)))
            clear hb8 ho8
            have HB89 := hide (below_box w8 (.cells #[.string kLast] 9))
            obtain ⟨b9, c9, w9, hr9, ho9, hg9, ht9⟩ := run_append_keep 25 wr.heap.size (.slice oa n oc) o (HR8.out.alloc (.cells #[.string kLast] 9)) ⟨w8.heap.size, 0, none⟩ 1 1 [kLast] (arg_one w8 kLast) (by rw [HOLN.out]; simp; omega) (by have := HWR8.out; simp; omega)
            have HO9 := hide ho9.txt
            have HT9 := hide ht9
            have HS9 : Hid (Txt w9 (.slice pa (n + 1) pc) (o ++ [kLast])) := hide (Own.txt (World.ownsRow.kept (HS8.out.alloc (.cells #[.string kLast] 9)) hg9 (by
              cases hh : (Value.slice pa (n + 1) pc).ownBlock with
              | none => exact .inl rfl
              | some k =>
                refine .inr fun e => ?_
                have h1 := HRB.out k e.symm
                have h2 := (HS8.out.lt k hh).1
                have := HW35.out
                omega)))
            have HQ9 : Hid (Own w7.heap.size w9 (.slice qa (n + 1) qc) (ByteArray.empty :: o)) := hide (World.ownsRow.kept (HQ8.out.alloc (.cells #[.string kLast] 9)) hg9 (by
              cases hh : (Value.slice qa (n + 1) qc).ownBlock with
              | none => exact .inl rfl
              | some k =>
                refine .inr fun e => ?_
                have h1 := HRB.out k e.symm
                have h2 := (HQ8.out.lt k hh).1
                have := HW35.out
                have := HW57.out
                have := HW7.out
                omega))
            have HB9 : Hid (Below w1.heap.size w1 w9) := hide ((HB8.out.trans (HB89.out.mono HB8.out.size)).grown hg9 (Nat.le_trans HB8.out.size HB89.out.size) (fun k e => by have := (HR8.out.lt k e).1; have := HBW.out.size; omega))
            rw [HOLN.out] at hr9
            have hr9' : (Builtin.append_ #[25, 25] 25 #[.slice oa n oc, .slice (some ⟨w8.heap.size, 0, none⟩) 1 1]).run Try.prog (w8.alloc (.cells #[.string { data := #[108, 97, 115, 116] }] 9)) = .ok (.slice b9 (n + 1) c9) w9 := hr9
            have HR9 := hide hr9'
            clear hr9 ho9 ht9 hg9 hr9'
            go_wp2_with (at_builtin; refine wpList_append_asked rfl _ _ _ rfl _ _ _ _ rfl rfl HR9.out ?_)
            refine (same_any _ _ (o ++ [kLast]) (o ++ [kLast]) w9 HS9.out (by rw [HOLN.out] at HO9; exact HO9.out) (by rw [List.length_append, HOLN.out]; simp; omega)).mono ?_
            rintro e w10 ⟨rfl, hb10⟩
            have hd : decide (o ++ [kLast] = o ++ [kLast]) = true := decide_eq_true rfl
            rw [hd]
            have HB10 := hide (below_two HB9.out hb10)
            have HQ10 := hide (HQ9.out.below hb10)
            have HT10 := hide (txt_cut (HT9.out.below hb10))
            have hcap2 : (n : Int) ≤ (oc : Int) := by
              rcases HR3.out.2 with ⟨e, _⟩ | ⟨q, cap, cur, e, _, _, hq, _⟩
              · simp only [Value.slice.injEq] at e
                omega
              · simp only [Value.slice.injEq] at e
                rw [HOLN.out] at hq
                omega
            have HB1011 := hide (below_box w10 (.cells #[.string ByteArray.empty] 9))
            obtain ⟨b11, c11, w11, hr11, ho11, hg11⟩ := run_append_argT 25 w10.heap.size (.slice (some ⟨w10.heap.size, 0, none⟩) 1 1) [ByteArray.empty] (Own.one w10 ByteArray.empty) oa n n o (HT10.out.below HB1011.out) (by rw [HOLN.out]; simp; omega) (by simp)
            rw [show [ByteArray.empty].length + o.length = 1 + n by rw [HOLN.out]; rfl] at hr11 ho11
            have HR11 := hide hr11
            have HO11 := hide ho11.txt
            have HB11 := hide (HB1011.out.trans ((Below.refl w10.heap.size _).grown hg11 HB1011.out.size (fun k e => by cases e; exact Nat.le_refl _)))
            have HQ11 := hide ((HQ10.out.below HB11.out).txt)
            clear hb10 hd hr11 ho11 hg11 HO9 HR9 HS9
            go_wp2_with (at_builtin; refine wpList_append_asked rfl _ _ _ rfl _ _ _ _ rfl rfl HR11.out ?_)
            refine (same_any _ _ (ByteArray.empty :: o) (ByteArray.empty :: o) w11 HQ11.out HO11.out (by rw [List.length_cons, HOLN.out]; omega)).mono ?_
            rintro e w12 ⟨rfl, hb12⟩
            have hd : decide (ByteArray.empty :: o = ByteArray.empty :: o) = true := decide_eq_true rfl
            rw [hd]
            have HB12 := hide (below_two HB10.out (below_two HB11.out hb12))
            clear hb12 hd
            go_wp2_with fail
            refine (awake10_ok _).mono ?_
            rintro e w13 ⟨rfl, hb13⟩
            have HB13 := hide (below_two HB12.out hb13)
            clear hb13
            go_wp2_with fail
            go_ret
            exact ⟨rfl, HB13.out⟩
end Go.Proofs.Yticpljjbnfimkaa
