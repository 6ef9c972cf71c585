/- The walk of OrderBehind. -/
import Derived.Test.YticpljjbnfimkaaQL
import Derived.Test.YticpljjbnfimkaaQN
import Derived.Test.YticpljjbnfimkaaKCb
namespace Go.Proofs.Yticpljjbnfimkaa
open Go.RowKit

theorem ordO_perm {is js : List It} (h : is.Perm js) {a : Option (List ByteArray)} (k : OrdO is a) : OrdO js a := by
  have hm := h.map (·.1)
  rcases k with ⟨k1, k2⟩ | ⟨k1, k2⟩
  · exact .inl ⟨hm.nodup_iff.1 k1, Hog.ord_perm h k2⟩
  · exact .inr ⟨fun e => k1 (hm.nodup_iff.2 e), k2⟩
theorem rev_step {ps : List Pr} {k : Nat} {p : Pr} (hk : k < ps.length) (hp : ps[ps.length - 1 - k]? = some p) : ps.reverse.take (k + 1) = ps.reverse.take k ++ [p] := by
  have h1 : ps.reverse[k]? = some p := by rw [List.getElem?_reverse hk]; exact hp
  obtain ⟨h2, e⟩ := List.getElem?_eq_some_iff.1 h1
  rw [List.take_succ_eq_append_getElem h2, e]
theorem bigI_refs {is : List It} (h : greatI is = false) : is.length ≤ 10 ∧ ∀ i ∈ is, i.2.1.length ≤ 12 ∧ ∀ x ∈ i.2.1, x.size ≤ 100 := by
  obtain ⟨h1, h2⟩ := greatI_not h
  exact ⟨h1, fun i hi => ⟨(bigI_not (h2 i hi)).2.1, (bigI_not (h2 i hi)).2.2.1⟩⟩
theorem AtIs.ex (xs : List ByteArray) (x : ByteArray) : ∃ r, AtIs xs x r := by
  classical
  by_cases h : x ∈ xs
  · obtain ⟨j, hj⟩ := List.getElem?_of_mem h
    have key : ∀ m j : Nat, j ≤ m → xs[j]? = some x → ∃ k : Nat, xs[k]? = some x ∧ ∀ i, i < k → xs[i]? ≠ some x := by
      intro m
      induction m with
      | zero => intro j hj h; exact ⟨j, h, fun i hi => absurd hi (by omega)⟩
      | succ m ih =>
        intro j hj h
        by_cases hs : ∃ i, i < j ∧ xs[i]? = some x
        · obtain ⟨i, hi, e⟩ := hs
          exact ih i (by omega) e
        · exact ⟨j, h, fun i hi e => hs ⟨i, hi, e⟩⟩
    obtain ⟨k, h1, h2⟩ := key j j (Nat.le_refl _) hj
    exact ⟨k, .inr ⟨k, rfl, h1, h2⟩⟩
  · exact ⟨-1, .inl ⟨rfl, h⟩⟩
theorem AtIs.one {xs : List ByteArray} {x : ByteArray} {r q : Int} (h : AtIs xs x r) (k : AtIs xs x q) : r = q := by
  rcases h with ⟨rfl, h2⟩ | ⟨a, rfl, h2, h3⟩
  · rcases k with ⟨rfl, _⟩ | ⟨b, _, k2, _⟩
    · rfl
    · exact absurd (List.mem_of_getElem? k2) h2
  · rcases k with ⟨_, k2⟩ | ⟨b, rfl, k2, k3⟩
    · exact absurd (List.mem_of_getElem? h2) k2
    · have h4 : ¬ a < b := fun e => k3 a e h2
      have h5 : ¬ b < a := fun e => h3 b e k2
      omega
theorem at_is (v : Value) (xs : List ByteArray) (x : ByteArray) (r : Int) (w : World) (h : Txt w v xs) (h9 : xs.length < 900000) (hr : AtIs xs x r) :
    Calls Try.prog 16 #[v, .string x] w fun e w' => e = .returned (.int .i64 r) ∧ Below w.heap.size w w' := by
  refine (at_ok v xs x w h h9).mono ?_
  rintro e w' ⟨q, rfl, hq, rfl⟩
  rw [hq.one hr]
  exact ⟨rfl, Below.refl _ _⟩
theorem OrdO.full {is : List It} {o : List ByteArray} (h : OrdO is (some o)) {i : It} (hi : i ∈ is) : i.1 ∈ o := by
  rcases h with ⟨_, h2⟩ | ⟨_, e⟩
  · rcases h2 with ⟨o', e', h3, h4⟩ | ⟨e', _⟩
    · obtain rfl := Option.some.inj e'
      exact h3.full h4 (List.mem_map.2 ⟨i, hi, rfl⟩)
    · cases e'
  · cases e
theorem OrdO.behind {is : List It} {o : List ByteArray} (h : OrdO is (some o)) {i : It} (hi : i ∈ is) {k : Nat} (hk : o[k]? = some i.1) {y : ByteArray} (hy : y ∈ i.2.1) (hne : y ≠ i.1) {r : Int} (hr : AtIs o y r) : r ≤ (k : Int) := by
  rcases h with ⟨hu, h2⟩ | ⟨_, e⟩
  · rcases h2 with ⟨o', e', h3, h4⟩ | ⟨e', _⟩
    · obtain rfl := Option.some.inj e'
      rcases hr with ⟨rfl, _⟩ | ⟨q, rfl, hq, hf⟩
      · omega
      · have hm := h3.behind hu hi hk ⟨hy, h3.there (List.mem_of_getElem? hq), hne⟩
        obtain ⟨j, hj⟩ := List.getElem?_of_mem hm
        rw [List.getElem?_take] at hj
        split at hj
        · have : ¬ j < q := fun e => hf j e hj
          omega
        · cases hj
    · cases e'
  · cases e
set_option maxRecDepth 100000 in
set_option maxHeartbeats 8000000 in
theorem behind_walk (ao : Option Addr) (n c : Nat) (ps : List Pr) (w : World) (ha : ArgS w ao n c ps) (hn : n ≤ maxLen) (hL : Lens (itsOf ps)) :
    Calls Try.prog 4 #[.slice ao n c] w fun e w' => e = .returned (.bool true) ∧ Below w.heap.size w w' := by
  have HA := hide ha
  have HL := hide hL
  have HN : Hid (ps.length = n) := ha.len
  have HNI : Hid ((itsOf ps).length = n) := by rw [its_len]; exact HN
  have hni : (n : Int) ≤ 9223372036854775807 := by unfold maxLen at hn; omega
  have HIT := hide ha.sls.its
  obtain ⟨g, hg⟩ : ∃ g, greatI (itsOf ps) = g := ⟨_, rfl⟩
  have HG := hide hg
  clear ha hL hg
  go_enter Try.func4, Try.ntmps4
  go_wp2_with fail
  refine (greatI_ok _ (itsOf ps) g w HIT.out (by rw [HNI.out]; exact hn) HL.out HG.out).mono ?_
  rintro e w1 ⟨rfl, rfl⟩
  cases g with
  | true =>
    go_wp2_with fail
    refine (awake10_ok w1).mono ?_
    rintro e w2 ⟨rfl, hb2⟩
    have HB2 := hide hb2
    clear hb2
    go_wp2_with fail
    go_ret
    exact ⟨rfl, HB2.out⟩
  | false =>
    obtain ⟨h10, hrf⟩ := bigI_refs HG.out
    rw [HNI.out] at h10
    have HRF := hide hrf
    clear hrf hni
    obtain ⟨r, hr⟩ : ∃ r, r = true ↔ ((itsOf ps).map (·.1)).Nodup := by
      classical
      exact ⟨decide _, decide_eq_true_iff⟩
    have HRU := hide hr
    clear hr
    go_wp2_with fail
    refine (unlike_ok _ (itsOf ps) r w1 HIT.out (by rw [HNI.out]; omega) HRU.out).mono ?_
    rintro e w2 ⟨rfl, hb2⟩
    have HB2 := hide hb2
    clear hb2
    cases r with
    | false =>
      go_wp2_with fail
      refine (awake10_ok w2).mono ?_
      rintro e w3 ⟨rfl, hb3⟩
      have HB3 := hide (below_two HB2.out hb3)
      clear hb3
      go_wp2_with fail
      go_ret
      exact ⟨rfl, HB3.out⟩
    | true =>
      have HND : Hid (((itsOf ps).map (·.1)).Nodup) := hide (HRU.out.1 rfl)
      have HA2 := hide (HA.out.below HB2.out)
      have HRO : Hid (∀ i ∈ itsOf ps, i.2.1.length ≤ 900) := hide fun i hi => by have := (HRF.out i hi).1; omega
      go_wp2_with fail
      go_loopw [3, 4] (fun bv iv wr => ∃ (k : Nat) (i : Int) (a2 : Option Addr) (c2 : Nat), k ≤ n ∧ iv = .int .i64 i ∧ bv = .slice a2 k c2 ∧ Hid (i = (n : Int) - 1 - k) ∧ Hid (OwnS w2.heap.size wr (.slice a2 k c2) (ps.reverse.take k)) ∧ Hid (Below w2.heap.size w2 wr)) (fun bv _ _ => n - lenV bv)
      case atStart => exact ⟨0, _, none, 0, Nat.zero_le _, rfl, rfl, hide (by simp), by rw [List.take_zero]; exact hide (OwnS.nil _ _), hide (Below.refl _ _)⟩
      case round =>
        obtain ⟨k, i, a2, c2, hk, rfl, rfl, HI, HO, HB⟩ := hrel
        by_cases hlt : k < n
        · obtain ⟨m, hm⟩ : ∃ m : Nat, m = n - 1 - k := ⟨_, rfl⟩
          have him : i = (m : Int) := by have := HI.out; omega
          subst him
          have hmn : m < n := by omega
          have hmi : (m : Int) < (n : Int) := by omega
          obtain ⟨p, hp⟩ : ∃ p, ps[m]? = some p := ⟨ps[m]'(by have := HN.out; omega), List.getElem?_eq_some_iff.2 ⟨_, rfl⟩⟩
          have HST := hide (rev_step (ps := ps) (k := k) (by rw [HN.out]; exact hlt) (by rw [HN.out, ← hm]; exact hp))
          obtain ⟨b, o, rfl, hat⟩ : ∃ b o, ao = some ⟨b, o, none⟩ ∧ AtS wr b (o + m * 3) p := by
            rcases HA2.out.sls with ⟨e, _⟩ | ⟨b, o, c', e, _, hr⟩
            · rw [e] at hp; simp at hp
            · simp only [Value.slice.injEq] at e
              exact ⟨b, o, e.1, (hr.2 m p hp).below HB.out⟩
          have q0 := hat.c0
          have q1 := hat.c1
          have q2 := hat.c2
          unfold refsV at q1
          unfold treeV at q2
          have HAS := hide (argS_one hat.is)
          have HBA := hide (HB.out.trans (below_box wr (.cells #[.string p.2.1, .slice p.1.2.1.1 p.1.2.1.2.1 p.1.2.1.2.2, .slice p.1.2.2.1 p.1.2.2.2.1 p.1.2.2.2.2] 33) |>.mono HB.out.size))
          have HOA := hide (HO.out.below (below_box wr (.cells #[.string p.2.1, .slice p.1.2.1.1 p.1.2.1.2.1 p.1.2.1.2.2, .slice p.1.2.2.1 p.1.2.2.2.1 p.1.2.2.2.2] 33)))
          have HTL : Hid ((ps.reverse.take k).length = k) := hide (by rw [List.length_take, List.length_reverse, HN.out]; omega)
          have HBS := hide HB.out.size
          clear hp hm
          go_wp2_with (at_builtin; refine wpList_append_items rfl _ _ rfl w2.heap.size _ (ps.reverse.take k) rfl HOA.out _ _ _ [p] rfl HAS.out (k + 1) (by rw [HTL.out]; rfl) _ HST.out.symm (by omega) (by have := HBS.out; simp; omega) ?_)
          intro b3 c3 w3 ho3 hg3
          have HO3 := hide ho3
          have HB3 := hide (HBA.out.grown hg3 (by have := HBS.out; simp; omega) (fun j e => (HOA.out.lt j e).1))
          clear ho3 hg3
          go_wp2_with fail
          go_roundw
          case rel => exact ⟨k + 1, (m : Int) - 1, b3, c3, by omega, by go_num, rfl, hide (by have := HI.out; omega), HO3, HB3⟩
          case measure => simp [lenV]; omega
        · have hkn : n = k := by omega
          subst hkn
          have hin : i < 0 := by have := HI.out; omega
          have HPE : Hid (List.Perm (itsOf ps) (itsOf ps.reverse)) := hide ((List.reverse_perm ps).symm.map _)
          have HIB : Hid (Its wr (.slice a2 n c2) (itsOf ps.reverse)) := by
            have h1 := HO.out
            rw [List.take_of_length_le (by rw [List.length_reverse, HN.out]; exact Nat.le_refl _)] at h1
            exact hide (h1.sls (fun p hp => ((HA2.out.each p (List.mem_reverse.1 hp)).below HB.out))).its
          have HIA : Hid (Its wr (.slice ao n c) (itsOf ps)) := hide (HA2.out.below HB.out).sls.its
          have HBW := hide (below_two HB2.out HB.out)
          obtain ⟨a, hoa⟩ := ordO_ex (itsOf ps)
          have HOAA := hide hoa
          have HOB := hide (ordO_perm HPE.out hoa)
          have HNB : Hid ((itsOf ps.reverse).length = n) := hide (by rw [← HPE.out.length_eq, HNI.out])
          have HROB : Hid (∀ i ∈ itsOf ps.reverse, i.2.1.length ≤ 900) := hide fun i hi => HRO.out i (HPE.out.mem_iff.2 hi)
          have HA3 := hide (HA.out)
          clear HI HO HB hk hlt hoa HA2
          cases a with
          | none =>
            go_wp2_with fail
            refine (of_none _ (itsOf ps) wr HOAA.out HIA.out (by rw [HNI.out]; omega) HRO.out).mono ?_
            rintro e w3 ⟨rfl, hb3⟩
            have HB3 := hide (below_two HBW.out hb3)
            have HIB3 := hide (HIB.out.below hb3)
            clear hb3
            go_wp2_with fail
            refine (of_none _ (itsOf ps.reverse) w3 HOB.out HIB3.out (by rw [HNB.out]; omega) HROB.out).mono ?_
            rintro e w4 ⟨rfl, hb4⟩
            have HB4 := hide (below_two HB3.out hb4)
            clear hb4
            go_wp2_with fail
            refine (same_any _ _ [] [] w4 (Txt.nil _) (Txt.nil _) (by decide)).mono ?_
            rintro e w5 ⟨rfl, hb5⟩
            have HB5 := hide (below_two HB4.out hb5)
            have hd : decide (([] : List ByteArray) = []) = true := decide_eq_true rfl
            rw [hd]
            clear hb5 hd
            go_wp2_with fail
            go_loopw [9] (fun iv wr => iv = .int .i64 0 ∧ wr = w5) (fun _ _ => 0)
            case atStart => exact ⟨rfl, rfl⟩
            case round =>
              obtain ⟨rfl, rfl⟩ := hrel
              by_cases hn0 : 0 < n
              · have hn0i : (0 : Int) < (n : Int) := by omega
                go_wp2_with fail
                refine (awake10_ok _).mono ?_
                rintro e w6 ⟨rfl, hb6⟩
                have HB6 := hide (below_two HB5.out hb6)
                clear hb6
                go_wp2_with fail
                go_ret
                exact ⟨rfl, HB6.out⟩
              · have hn0i : (n : Int) ≤ 0 := by omega
                go_wp2_with fail
                refine (awake10_ok _).mono ?_
                rintro e w6 ⟨rfl, hb6⟩
                have HB6 := hide (below_two HB5.out hb6)
                clear hb6
                go_wp2_with fail
                go_ret
                exact ⟨rfl, HB6.out⟩
          | some o =>
            go_wp2_with fail
            refine (of_some _ (itsOf ps) o n wr HOAA.out HNI.out HIA.out (by omega) HRO.out).mono ?_
            rintro e w3 ⟨oa, oc, rfl, ho3, hol, hb3⟩
            have HOL := hide hol
            have HO3 := hide ho3.txt
            have HB3 := hide (below_two HBW.out hb3)
            have HIB3 := hide (HIB.out.below hb3)
            clear hb3 ho3 hol
            go_wp2_with fail
            refine (of_some _ (itsOf ps.reverse) o n w3 HOB.out HNB.out HIB3.out (by omega) HROB.out).mono ?_
            rintro e w4 ⟨ob, od, rfl, ho4, _, hb4⟩
            have HO4 := hide ho4.txt
            have HOA4 := hide (HO3.out.below hb4)
            have HB4 := hide (below_two HB3.out hb4)
            clear hb4 ho4
            have hnn : ((n : Int) != (n : Int)) = false := by simp
            go_wp2_with fail
            refine (same_any _ _ o o w4 HOA4.out HO4.out (by rw [HOL.out]; omega)).mono ?_
            rintro e w5 ⟨rfl, hb5⟩
            have HB5 := hide (below_two HB4.out hb5)
            have HO5 := hide (HOA4.out.below hb5)
            have hd : decide (o = o) = true := decide_eq_true rfl
            rw [hd]
            clear hb5 hd hnn HB2 HB3 HB4 HIB3 HO4 HIB HPE HROB HNB HIA HBW HOB HA3
            go_wp2_with fail
            go_loopw [9] (fun iv wr => ∃ k : Nat, k ≤ n ∧ iv = .int .i64 k ∧ Hid (Below w5.heap.size w5 wr)) (fun iv _ => n - (intOf iv).toNat)
            case atStart => exact ⟨0, Nat.zero_le _, rfl, hide (Below.refl _ _)⟩
            case round =>
              rename World => wx
              obtain ⟨k, hk, rfl, HBX⟩ := hrel
              by_cases hlt : k < n
              · obtain ⟨p, hp⟩ : ∃ p, ps[k]? = some p := ⟨ps[k]'(by have := HN.out; omega), List.getElem?_eq_some_iff.2 ⟨_, rfl⟩⟩
                obtain ⟨b, o', rfl, hat0⟩ : ∃ b o', ao = some ⟨b, o', none⟩ ∧ AtS w1 b (o' + k * 3) p := by
                  rcases HA.out.sls with ⟨e, _⟩ | ⟨b, o', c', e, _, hr⟩
                  · rw [e] at hp; simp at hp
                  · simp only [Value.slice.injEq] at e
                    exact ⟨b, o', e.1, hr.2 k p hp⟩
                have hpi : p.2 ∈ itsOf ps := List.mem_map.2 ⟨p, List.mem_of_getElem? hp, rfl⟩
                obtain ⟨⟨nm0, ⟨ra, rn, rc⟩, ⟨ta, tn, tc⟩⟩, ⟨nm, rs, ns⟩⟩ := p
                have HQ0 : Hid (w1.cell? ⟨b, o' + k * 3, none⟩ = some (.string nm)) := hide hat0.c0
                have HQ1 : Hid (w1.cell? ⟨b, o' + k * 3 + 1, none⟩ = some (.slice ra rn rc)) := hide hat0.c1
                have HAR : Hid (Txt w1 (.slice ra rn rc) rs) := hide hat0.is.refs.txt
                have HLEN : Hid (rs.length = rn) := hide hat0.is.refs.len
                have HPI : Hid ((nm, rs, ns) ∈ itsOf ps) := hide hpi
                have hbw : b < w1.heap.size := (addr_plain hat0.c0).2
                obtain ⟨r, hr⟩ := AtIs.ex o nm
                obtain ⟨kk, rfl, hkk⟩ : ∃ kk : Nat, r = kk ∧ o[kk]? = some nm := by
                  rcases hr with ⟨_, h2⟩ | ⟨kk, e, h2, _⟩
                  · exact absurd (HOAA.out.full hpi) h2
                  · exact ⟨kk, e, h2⟩
                have HRR := hide hr
                have HKK := hide hkk
                have hki : (k : Int) < (n : Int) := by omega
                have hkk0 : (0 : Int) ≤ (kk : Int) := by omega
                have HOX := hide (HO5.out.below HBX.out)
                have HOLL : Hid (o.length < 900000) := hide (by rw [HOL.out]; omega)
                have hrl : rn ≤ 900 := by have h1 := HRO.out _ hpi; have h2 := HLEN.out; simp at h1; omega
                have q0 := ((below_two HB5.out HBX.out).cell (p := ⟨b, o' + k * 3, none⟩) hbw).trans HQ0.out
                clear hp hat0 hpi hr hkk
                go_wp2_with fail
                refine (at_is _ o nm kk wx HOX.out HOLL.out HRR.out).mono ?_
                rintro e w6 ⟨rfl, hb6⟩
                have HB6 := hide (below_two HBX.out hb6)
                clear hb6 q0
                go_wp2_with fail
                go_loopw [11] (fun jv wr => ∃ j : Nat, j ≤ rn ∧ jv = .int .i64 j ∧ Hid (Below w5.heap.size w5 wr)) (fun jv _ => rn - (intOf jv).toNat)
                case atStart => exact ⟨0, Nat.zero_le _, rfl, HB6⟩
                case round =>
                  rename World => wy
                  clear HB6 HBX HOX
                  obtain ⟨j, hj, rfl, HBY⟩ := hrel
                  have HBW := hide (below_two HB5.out HBY.out)
                  have q0 := (HBW.out.cell (p := ⟨b, o' + k * 3, none⟩) hbw).trans HQ0.out
                  have q1 := (HBW.out.cell (p := ⟨b, o' + k * 3 + 1, none⟩) hbw).trans HQ1.out
                  by_cases hlj : j < rn
                  · obtain ⟨x, hx⟩ : ∃ x, rs[j]? = some x := ⟨rs[j]'(by have := HLEN.out; omega), List.getElem?_eq_some_iff.2 ⟨_, rfl⟩⟩
                    obtain ⟨rb, ro, rfl, hrc0, hrb⟩ : ∃ rb ro, ra = some ⟨rb, ro, none⟩ ∧ w1.cell? ⟨rb, ro + j, none⟩ = some (.string x) ∧ rb < w1.heap.size := by
                      rcases HAR.out with ⟨e, _⟩ | ⟨rb, ro, rc'', e, _, hlt', hc⟩
                      · rw [e] at hx; simp at hx
                      · simp only [Value.slice.injEq] at e
                        exact ⟨rb, ro, e.1, hc j x hx, hlt'⟩
                    have q2 := (HBW.out.cell (p := ⟨rb, ro + j, none⟩) hrb).trans hrc0
                    have hji : (j : Int) < (rn : Int) := by omega
                    have hbr : b < wy.heap.size := Nat.lt_of_lt_of_le hbw HBW.out.size
                    have hrbr : rb < wy.heap.size := Nat.lt_of_lt_of_le hrb HBW.out.size
                    have f0 : ∀ q : Later wy, q.w1.cell? ⟨b, o' + k * 3, none⟩ = some (.string nm) := fun q => q.cell hbr q0
                    have f1 : ∀ q : Later wy, q.w1.cell? ⟨b, o' + k * 3 + 1, none⟩ = some (.slice (some ⟨rb, ro, none⟩) rn rc) := fun q => q.cell hbr q1
                    have f2 : ∀ q : Later wy, q.w1.cell? ⟨rb, ro + j, none⟩ = some (.string x) := fun q => q.cell hrbr q2
                    have hne := later_one wy
                    obtain ⟨r2, hr2⟩ := AtIs.ex o x
                    have HC : Hid (∀ q : Later wy, Calls Try.prog 16 #[.slice oa n oc, .string x] q.w1 fun e w' => e = .returned (.int .i64 r2) ∧ Below q.w1.heap.size q.w1 w') := hide fun q =>
                      at_is _ o x r2 q.w1 ((HO5.out.below HBY.out).below q.below) HOLL.out hr2
                    have HX := hide hx
                    have HR2 := hide hr2
                    clear hx hrc0 hr2
                    by_cases hxn : x = nm
                    · have hq : (x.toList == nm.toList) = true := by rw [hxn]; exact beq_self_eq_true _
                      clear hxn
                      go_wp2
                      refine wp_region_later (by kernel_rfl) (by kernel_rfl) ?_
                      repeat (first | go_big_quiet_step (fail) | quiet_step (fail))
                      refine wpQuiet_nil ?_
                      intro W5 hw'
                      have hbq := later_below hw'
                      clear hw' f0 f1 f2 HC
                      go_wp2
                      go_roundw
                      case rel => exact ⟨j + 1, by omega, by go_num, hide (below_two HBY.out hbq)⟩
                      case measure => simp [intOf]; omega
                    · have hq : (x.toList == nm.toList) = false := by
                        rw [beq_eq_false_iff_ne]; exact fun e => hxn (bytes_eq.2 e)
                      have hle : r2 ≤ (kk : Int) := HOAA.out.behind HPI.out HKK.out (List.mem_of_getElem? HX.out) hxn HR2.out
                      have hgt : decide ((kk : Int) < r2) = false := by rw [decide_eq_false_iff_not]; omega
                      clear hxn
                      go_wp2
                      refine wp_region_later (by kernel_rfl) (by kernel_rfl) ?_
                      repeat (first
                        | go_big_quiet_step ((go_at_call 16; exact Calls.later_of (HC.out _)))
                        | quiet_step ((go_at_call 16; exact Calls.later_of (HC.out _))))
                      refine wpQuiet_nil ?_
                      intro W5 hw'
                      have hbq := later_below hw'
                      clear hw' f0 f1 f2 HC
                      go_wp2
                      go_roundw
                      case rel => exact ⟨j + 1, by omega, by go_num, hide (below_two HBY.out hbq)⟩
                      case measure => simp [intOf]; omega
                  · have hji : (rn : Int) ≤ (j : Int) := by omega
                    go_wp2_with fail
                    go_roundw
                    case rel => exact ⟨k + 1, by omega, by go_num, HBY⟩
                    case measure => simp [intOf]; omega
              · have hki : (n : Int) ≤ (k : Int) := by omega
                go_wp2_with fail
                refine (awake10_ok _).mono ?_
                rintro e w6 ⟨rfl, hb6⟩
                have HB6 := hide (below_two HB5.out (below_two HBX.out hb6))
                clear hb6
                go_wp2_with fail
                go_ret
                exact ⟨rfl, HB6.out⟩
end Go.Proofs.Yticpljjbnfimkaa
