/- The walk of ClosureReach. -/
import Derived.Test.YtinjbijigjfdfaaDoorKM
namespace Go.Proofs.YtinjbijigjfdfaaDoor
open Go.RowKit

theorem wpList_append_argT {w : World} {ops : Array Oper} {rest : List Oper} {o : Oper} {a : Act} {Q : Exit → Act → World → Prop} (hgd : o.guard = none) (s x : Operand)
    (ho : o.op = .call { callee := .builtin .append, args := #[s, x], argTypes := #[28, 28] })
    (base : Nat) (v : Value) (xs : List ByteArray) (hs : a.eval s = v) (hown : Own base w v xs) (ao : Option Addr) (m c : Nat) (ys : List ByteArray) (hx : a.eval x = .slice ao m c) (hu : Arg w ao m c ys)
    (q : Nat) (hq : xs.length + ys.length = q) (zs : List ByteArray) (hz : xs ++ ys = zs) (hlen : q < 1000000) (hbase : base ≤ w.heap.size)
    (h : ∀ b c w', Own base w' (.slice b q c) zs → Below base w w' → wpList Tryd.prog ops Q rest (a.put o.dst (.slice b q c)) w') : wpList Tryd.prog ops Q (o :: rest) a w := by
  subst hq hz
  exact wpList_append_arg hgd s x ho base v xs hs hown ao m c ys hx hu hlen hbase h
theorem Txt.cellAt {w : World} {a : Option Addr} {n c : Nat} {xs : List ByteArray} (h : Txt w (.slice a n c) xs) {j : Nat} {x : ByteArray} (hx : xs[j]? = some x) : ∃ g o, a = some ⟨g, o, Option.none⟩ ∧ g < w.heap.size ∧ w.cell? ⟨g, o + j, Option.none⟩ = some (.string x) := by
  rcases h with ⟨rfl, _⟩ | ⟨b, o, c', e, _, hb, hc⟩
  · simp at hx
  · obtain ⟨rfl, _, _⟩ : a = some ⟨b, o, Option.none⟩ ∧ n = xs.length ∧ c = c' := by simpa using e
    exact ⟨b, o, rfl, hb, hc j x hx⟩

theorem wrapK {n : Int} (h : -9223372036854775808 ≤ n ∧ n ≤ 9223372036854775807) : IntKind.i64.wrap n = n := by
  simp only [IntKind.wrap, IntKind.bits, IntKind.signed, Bool.true_and]
  split <;> rename_i h2 <;> simp only [ge_iff_le, decide_eq_true_eq] at h2 <;> omega
theorem rch_get {is : List It} {ns R : List ByteArray} (h : RchIs is ns R) {x : ByteArray} (hx : x ∈ R) : ∃ i, Hog.getK is x = some i := Option.isSome_iff_exists.1 (Hog.getK_isSome.2 ((h.mem x).1 hx).there)
theorem rch_less {is : List It} {ns R : List ByteArray} (h : RchIs is ns R) {j : Nat} {x y : ByteArray} (hx : R[j]? = some x) (hy : R[j + 1]? = some y) : Op.bytesLess x.toList y.toList = true := by
  rw [Lib.toList_data, Lib.toList_data]
  have hr := h.rise
  unfold Hog.rise plainT Hog.lt at hr
  obtain ⟨h1, rfl⟩ := List.getElem?_eq_some_iff.1 hx
  obtain ⟨h2, rfl⟩ := List.getElem?_eq_some_iff.1 hy
  exact List.pairwise_iff_getElem.1 (List.pairwise_map.1 hr) j (j + 1) h1 h2 (by omega)
theorem rch_more {is : List It} {ns ms R S : List ByteArray} (h : RchIs is ns R) (k : RchIs is (ns ++ ms) S) {x : ByteArray} (hx : x ∈ R) : hasB S x = true :=
  has_iff.2 ((k.mem x).2 (((h.mem x).1 hx).mono fun _ hy => List.mem_append_left _ hy))
theorem rch_step {is : List It} {ns R : List ByteArray} (h : RchIs is ns R) {x y : ByteArray} {i j : It} (hx : x ∈ R) (hi : Hog.getK is x = some i) (hy : y ∈ i.2.1) (hj : Hog.getK is y = some j) : hasB R y = true :=
  has_iff.2 ((h.mem y).2 (.step ((h.mem x).1 hx) hi hy (Hog.getK_isSome.1 (by rw [hj]; rfl))))
theorem rch_start {is : List It} {ns R : List ByteArray} (h : RchIs is ns R) {x : ByteArray} {j : It} (hx : x ∈ ns) (hj : Hog.getK is x = some j) : hasB R x = true :=
  has_iff.2 ((h.mem x).2 (.start hx (Hog.getK_isSome.1 (by rw [hj]; rfl))))
theorem rch_not {is : List It} {ns R : List ByteArray} (h : RchIs is ns R) {x : ByteArray} (hj : Hog.getK is x = none) : hasB R x = false :=
  has_not.2 fun hx => Hog.getK_none.1 hj ((h.mem x).1 hx).there

set_option maxRecDepth 100000 in
set_option maxHeartbeats 8000000 in
theorem reachlaw_walk (ao : Option Addr) (n c : Nat) (ps : List Pr) (bo : Option Addr) (m d : Nat) (xs : List ByteArray) (eo : Option Addr) (l f : Nat) (ys : List ByteArray) (w : World) (hsh : w.ShapedOpen Tryd.prog)
    (ha : ArgS w ao n c ps) (hn : n ≤ maxLen) (hL : Lens (itsOf ps)) (hb : Arg w bo m d xs) (hm : m ≤ maxLen) (_ : ∀ x ∈ xs, x.size ≤ maxLen) (he : Arg w eo l f ys) (hl : l ≤ maxLen) (_ : ∀ x ∈ ys, x.size ≤ maxLen) :
    Calls Tryd.prog 4 #[.slice ao n c, .slice bo m d, .slice eo l f] w fun e w' => e = .returned (.bool true) ∧ Below w.heap.size w w' := by
  have HSH := hide hsh
  have HA := hide ha
  have HL := hide hL
  have HXS := hide hb
  have HYS := hide he
  have HN : Hid (ps.length = n) := ha.len
  have HNI : Hid ((itsOf ps).length = n) := by rw [its_len]; exact HN
  have HXL : Hid (xs.length = m) := hb.len
  have HYL : Hid (ys.length = l) := he.len
  have HIT := hide ha.sls.its
  have HMX : Hid ((itsOf ps).length ≤ maxLen) := by rw [HNI.out]; exact hn
  have HMX1 : Hid (xs.length ≤ maxLen) := by rw [HXL.out]; exact hm
  have HMX2 : Hid (ys.length ≤ maxLen) := by rw [HYL.out]; exact hl
  obtain ⟨g, hg⟩ : ∃ g, greatI (itsOf ps) = g := ⟨_, rfl⟩
  have HG := hide hg
  obtain ⟨g1, hg1⟩ : ∃ g, greatT 12 100 xs = g := ⟨_, rfl⟩
  have HG1 := hide hg1
  obtain ⟨g2, hg2⟩ : ∃ g, greatT 12 100 ys = g := ⟨_, rfl⟩
  have HG2 := hide hg2
  clear hsh ha hL hb he hg hg1 hg2 hn hm hl
  go_enter Tryd.func4, Tryd.ntmps4
  go_wp2_with fail
  refine (greatI_ok _ (itsOf ps) g w HIT.out HMX.out HL.out HG.out).mono ?_
  rintro e w1 ⟨rfl, hw1⟩
  obtain rfl := hw1
  cases g with
  | true =>
    go_wp2_with fail
    refine (awake9_ok w1 w1 ⟨HSH.out, Below.refl _ _⟩).mono ?_
    rintro e w2 ⟨rfl, ok2, _⟩
    go_wp2
    go_ret
    exact ⟨rfl, ok2.2⟩
  | false =>
  go_wp2_with fail
  refine (greatT_ok _ 12 100 xs g1 w1 HXS.out.txt HMX1.out (by decide) (by decide) HG1.out).mono ?_
  rintro e w2 ⟨rfl, hw2⟩
  obtain rfl := hw2
  cases g1 with
  | true =>
    go_wp2_with fail
    refine (awake9_ok w2 w2 ⟨HSH.out, Below.refl _ _⟩).mono ?_
    rintro e w3 ⟨rfl, ok3, _⟩
    go_wp2
    go_ret
    exact ⟨rfl, ok3.2⟩
  | false =>
  go_wp2_with fail
  refine (greatT_ok _ 12 100 ys g2 w2 HYS.out.txt HMX2.out (by decide) (by decide) HG2.out).mono ?_
  rintro e w3 ⟨rfl, hw3⟩
  obtain rfl := hw3
  cases g2 with
  | true =>
    go_wp2_with fail
    refine (awake9_ok w3 w3 ⟨HSH.out, Below.refl _ _⟩).mono ?_
    rintro e w4 ⟨rfl, ok4, _⟩
    go_wp2
    go_ret
    exact ⟨rfl, ok4.2⟩
  | false =>
  rename World => w
  have HFAIR : Hid (∀ i ∈ itsOf ps, Fair i) := fun i hi => bigI_fair ((greatI_not HG.out).2 i hi)
  have HPAIR : Hid (∀ i ∈ itsOf ps, i.2.1.length < 900000 ∧ i.2.2.length < 900000) := fun i hi => ⟨(HFAIR.out i hi).refs, (HFAIR.out i hi).tree⟩
  have HREF : Hid (∀ i ∈ itsOf ps, i.2.1.length < 900000) := fun i hi => (HFAIR.out i hi).refs
  have hn10 : n ≤ 10 := by have := (greatI_not HG.out).1; rw [HNI.out] at this; exact this
  have hm12 : m ≤ 12 := by have := (greatT_not HG1.out).1; rw [HXL.out] at this; omega
  have hl12 : l ≤ 12 := by have := (greatT_not HG2.out).1; rw [HYL.out] at this; omega
  obtain ⟨R, hR⟩ := reach_ex (itsOf ps) xs
  obtain ⟨S, hS⟩ := reach_ex (itsOf ps) (xs ++ ys)
  have HR := hide hR
  have HS := hide hS
  have hrn : R.length ≤ 10 := by have := hR.few; rw [HNI.out] at this; omega
  have hsn : S.length ≤ 10 := by have := hS.few; rw [HNI.out] at this; omega
  clear hR hS HMX HMX1 HMX2 HL
  go_wp2_with fail
  refine (reach_ok _ _ (itsOf ps) xs R w HIT.out (by rw [HNI.out]; omega) HXS.out.txt (by rw [HXL.out]; omega) HREF.out HR.out).mono ?_
  rintro e w4 ⟨aR, cR, rfl, ho4, hb4⟩
  obtain ⟨q, hq⟩ : ∃ q, R.length = q := ⟨_, rfl⟩
  rw [hq] at ho4 hrn ⊢
  have HQ := hide hq
  have HOR := hide ho4
  have HB4 := hide hb4
  have hw4 : w.heap.size ≤ w4.heap.size := hb4.size
  clear hq ho4 hb4
  go_wp2_with (at_builtin; refine wpList_append_argT rfl _ _ rfl w4.heap.size _ [] rfl (Own.nil _ _) _ _ _ xs rfl (HXS.out.below HB4.out) m ?d1 xs ?d2 ?d3 (Nat.le_refl _) ?_)
  case d1 => rw [HXL.out]; simp
  case d2 => rfl
  case d3 => omega
  intro b5 c5 w5 ho5 hb5
  have HO5 := hide ho5
  have HB45 := hide hb5
  have HB5 := hide (below_two HB4.out hb5)
  have hw5 : w4.heap.size ≤ w5.heap.size := hb5.size
  clear ho5 hb5
  go_wp2_with (at_builtin; refine wpList_append_argT rfl _ _ rfl w4.heap.size _ xs rfl HO5.out _ _ _ ys rfl (HYS.out.below HB5.out) (m + l) ?d1 (xs ++ ys) ?d2 ?d3 hw5 ?_)
  case d1 => rw [HXL.out, HYL.out]
  case d2 => rfl
  case d3 => omega
  intro b6 c6 w6 ho6 hb6
  have HO6 := hide ho6
  have HB46 := hide (HB45.out.trans hb6)
  have HB6 := hide (below_two HB4.out HB46.out)
  clear ho6 hb6 HO5
  go_wp2_with fail
  refine (reach_ok _ _ (itsOf ps) (xs ++ ys) S w6 (HIT.out.below HB6.out) (by rw [HNI.out]; omega) HO6.out.txt (by rw [List.length_append, HXL.out, HYL.out]; omega) HREF.out HS.out).mono ?_
  rintro e w7 ⟨aS, cS, rfl, ho7, hb7⟩
  obtain ⟨z, hz⟩ : ∃ z, S.length = z := ⟨_, rfl⟩
  rw [hz] at ho7 hsn ⊢
  have HOS := hide ho7
  have HZ := hide hz
  have HB47 := hide (below_two HB46.out hb7)
  have HB7 := hide (below_two HB4.out HB47.out)
  have HOR7 := hide (HOR.out.below HB47.out)
  clear hz ho7 hb7 HO6 HB46 HB45
  go_wp2_with fail
  refine (reach_ok _ _ (itsOf ps) R R w7 (HIT.out.below HB7.out) (by rw [HNI.out]; omega) HOR7.out.txt (by rw [HQ.out]; omega) HREF.out HR.out.again).mono ?_
  rintro e w8 ⟨aT, cT, rfl, ho8, hb8⟩
  rw [HQ.out] at ho8 ⊢
  have HOT := hide ho8
  have HB78 := hide hb8
  clear ho8 hb8
  go_wp2_with fail
  refine (same_any _ _ R R w8 HOT.out.txt (HOR7.out.txt.below HB78.out) (by rw [HQ.out]; omega)).mono ?_
  rintro e w9 ⟨rfl, hb9⟩
  rw [decide_eq_true rfl]
  have HB79 := hide (below_two HB78.out hb9)
  have HB9 := hide (below_two HB7.out HB79.out)
  have HTR := hide (HOR7.out.txt.below HB79.out)
  have HTS := hide (HOS.out.txt.below HB79.out)
  clear hb9 HOT HB78
  go_wp2
  go_loopw [9] (fun v wr => ∃ j : Nat, j ≤ q ∧ v = .int .i64 j ∧ Hid (Below w9.heap.size w9 wr)) (fun v _ => q - (intOf v).toNat)
  case atStart => exact ⟨0, Nat.zero_le _, rfl, Below.refl _ _⟩
  case round =>
    obtain ⟨j, hj, rfl, hbl⟩ := hrel
    by_cases hjq : j < q
    case pos =>
      obtain ⟨x, hx⟩ : ∃ x, R[j]? = some x := ⟨R[j]'(by have := HQ.out; omega), List.getElem?_eq_some_iff.2 ⟨_, rfl⟩⟩
      obtain ⟨g, o, hbo, hgw, hcx⟩ := HTR.out.cellAt hx
      subst hbo
      have hxm := List.mem_of_getElem? hx
      obtain ⟨i', hi'⟩ := rch_get HR.out hxm
      have HC : Hid (∀ W, Below w9.heap.size w9 W → W.cell? ⟨g, o + j, none⟩ = some (.string x)) := fun W hb => (hb.cell (p := ⟨g, o + j, none⟩) hgw).trans hcx
      have z1 := HC.out wr hbl.out
      have hji : (j : Int) < (q : Int) := by omega
      have HX := hide hx
      have HMEM := hide hxm
      have HGX := hide hi'
      have HBR := hide (below_two HB9.out hbl.out)
      have hi12 : i'.2.1.length ≤ 12 := (bigI_not ((greatI_not HG.out).2 i' (Hog.getK_some hi').1)).2.1
      clear hx hxm hi' hcx
      go_wp2_with fail
      refine (get_hit _ ps x i' wr (HA.out.sls.below HBR.out) (by rw [HN.out]; omega) HPAIR.out HGX.out).mono ?_
      rintro e wa ⟨ra, rc, ta, tc, base, rfl, hor, _, _, _, _, hba⟩
      obtain ⟨rn, hrn'⟩ : ∃ rn, i'.2.1.length = rn := ⟨_, rfl⟩
      obtain ⟨tn, htn'⟩ : ∃ tn, i'.2.2.length = tn := ⟨_, rfl⟩
      rw [hrn'] at hor hi12 ⊢
      rw [htn']
      have HRN := hide hrn'
      have HRF := hide (hor.txt.below (below_box wa (.cells #[.string i'.1, .slice ra rn rc, .slice ta tn tc] 33)))
      obtain ⟨W, hW⟩ : ∃ W, W = wa.alloc (.cells #[.string i'.1, .slice ra rn rc, .slice ta tn tc] 33) := ⟨_, rfl⟩
      have HBX : Hid (BoxI W wa.heap.size i'.1 (.slice ra rn rc) (.slice ta tn tc)) := by rw [hW]; exact hide (BoxI.made wa _ _ _)
      have HBA : Hid (Below wr.heap.size wr W) := by rw [hW]; exact hide (below_two hba (below_box _ _))
      rw [← hW] at HRF
      have HW := hide hW.symm
      have HB9W := hide (below_two hbl.out HBA.out)
      have z2 := HC.out W HB9W.out
      have hgW : g < W.heap.size := Nat.lt_of_lt_of_le hgw HB9W.out.size
      have f1 : ∀ p : Later W, p.w1.cell? ⟨g, o + j, none⟩ = some (.string x) := fun p => p.cell hgW z2
      have HC1 : Hid (∀ p : Later W, Calls Tryd.prog 19 #[.slice aS z cS, .string x] p.w1 fun e w' => e = .returned (.bool true) ∧ Below p.w1.heap.size p.w1 w') := fun p =>
        (has9_ok _ S x true p.w1 (HTS.out.below (below_two HB9W.out p.below)) (by rw [HZ.out]; omega) (rch_more HR.out HS.out HMEM.out)).mono fun e w' ⟨q1, q2⟩ => ⟨q1, by rw [q2]; exact Below.refl _ _⟩
      have hne2 := later_one W
      clear hba hor hrn' htn' z1 hW
      rcases Nat.eq_zero_or_pos j with hj0 | hj0
      all_goals go_wp2_with fail
      all_goals rw [HW.out]
      · subst hj0
        have f0 : ∀ p : Later W, p.w1.cell? ⟨g, o, none⟩ = some (.string x) := f1
        refine wp_region_later (by kernel_rfl) (by kernel_rfl) ?_
        repeat (first
          | go_big_quiet_step ((go_at_call 19; exact Calls.later_of (HC1.out _)))
          | quiet_step ((go_at_call 19; exact Calls.later_of (HC1.out _))))
        refine wpQuiet_nil ?_
        intro W5 hw'
        have HB5W := hide (later_below hw')
        clear hw' f1 f0 HC1 hne2 z2
        go_wp2
        go_loopw [12] (fun v wr => ∃ t : Nat, t ≤ rn ∧ v = .int .i64 t ∧ Hid (Below W5.heap.size W5 wr)) (fun v _ => rn - (intOf v).toNat)
        case atStart => exact ⟨0, Nat.zero_le _, rfl, Below.refl _ _⟩
        case round =>
          rename World => wq
          obtain ⟨t, ht, rfl, hbt⟩ := hrel
          have HBQ5 := hide (below_two HB9W.out (below_two HB5W.out hbt.out))
          have HBQ := hide (below_two HB9.out HBQ5.out)
          have HXQ := hide ((HBX.out.below HB5W.out).below hbt.out)
          obtain ⟨⟨_, x1, _⟩, _, hxl⟩ := HXQ.out.facts
          by_cases htm : t < rn
          case pos =>
            obtain ⟨y2, hy2⟩ : ∃ y, i'.2.1[t]? = some y := ⟨i'.2.1[t]'(by have := HRN.out; omega), List.getElem?_eq_some_iff.2 ⟨_, rfl⟩⟩
            obtain ⟨gr, og, hra, hgr, hcr⟩ := HRF.out.cellAt hy2
            subst hra
            have HCR : Hid (∀ W', Below wq.heap.size wq W' → W'.cell? ⟨gr, og + t, none⟩ = some (.string y2)) := fun W' hb => by
              have h1 := (below_two HB5W.out (below_two hbt.out hb)).cell (p := ⟨gr, og + t, none⟩) hgr
              exact h1.trans hcr
            have z3 := HCR.out wq (Below.refl _ _)
            have hti : (t : Int) < (rn : Int) := by omega
            have HMY := hide (List.mem_of_getElem? hy2)
            clear hy2 hcr
            cases hgy : Hog.getK (itsOf ps) y2 with
            | some i2 =>
              have HGY := hide hgy
              clear hgy
              go_wp2_with fail
              refine (get_hit _ ps y2 i2 wq (HA.out.sls.below HBQ.out) (by rw [HN.out]; omega) HPAIR.out HGY.out).mono ?_
              rintro e wb ⟨rb, rcb, tb, tcb, bb, rfl, _, _, _, _, _, hbb⟩
              have HBB := hide (below_two hbb (below_box wb (.cells #[.string i2.1, .slice rb i2.2.1.length rcb, .slice tb i2.2.2.length tcb] 33)))
              obtain ⟨⟨_, x5, _⟩, _, _⟩ := (HXQ.out.below HBB.out).facts
              have z4 := HCR.out _ HBB.out
              clear hbb z3 x1
              go_wp2_with fail
              refine (has9_ok _ R y2 true _ (HTR.out.below (below_two HBQ5.out HBB.out)) (by rw [HQ.out]; omega) (rch_step HR.out HMEM.out HGX.out HMY.out HGY.out)).mono ?_
              rintro e wc ⟨rfl, hwc⟩
              obtain rfl := hwc
              go_wp2
              go_roundw
              case rel => exact ⟨t + 1, by omega, by go_num, below_two hbt.out HBB.out⟩
              case measure => simp [intOf]; omega
            | none =>
              have HGY := hide hgy
              clear hgy
              go_wp2_with fail
              refine (get_miss _ ps y2 wq (HA.out.sls.below HBQ.out) (by rw [HN.out]; omega) HPAIR.out HGY.out).mono ?_
              rintro e wb ⟨rfl, hbb⟩
              have HBB := hide (below_two hbb (below_box wb (.cells #[.string ByteArray.empty, .slice none 0 0, .slice none 0 0] 33)))
              clear hbb z3 x1
              go_wp2
              go_roundw
              case rel => exact ⟨t + 1, by omega, by go_num, below_two hbt.out HBB.out⟩
              case measure => simp [intOf]; omega
          case neg =>
            have htd : decide (t < rn) = false := by rw [decide_eq_false_iff_not]; exact htm
            clear htm
            go_wp2
            go_roundw
            case rel => exact ⟨0 + 1, by omega, by go_num, HBQ5⟩
            case measure => simp [intOf]; omega
      · obtain ⟨y, hy⟩ : ∃ y, R[j - 1]? = some y := ⟨R[j - 1]'(by have := HQ.out; omega), List.getElem?_eq_some_iff.2 ⟨_, rfl⟩⟩
        have hless := rch_less HR.out hy (by rw [show j - 1 + 1 = j by omega]; exact HX.out)
        obtain ⟨g', o', hgo, _, hcy⟩ := HTR.out.cellAt hy
        obtain ⟨rfl, rfl⟩ : g = g' ∧ o = o' := by simpa using hgo
        have f2 : ∀ p : Later W, p.w1.cell? ⟨g, o + (j - 1), none⟩ = some (.string y) := fun p => p.cell hgW ((HB9W.out.cell (p := ⟨g, o + (j - 1), none⟩) hgw).trans hcy)
        have hj0i : (0 : Int) < (j : Int) := by omega
        have hj1 : (0 : Int) ≤ (j : Int) - 1 := by omega
        have hj2 : (j : Int) - 1 < (q : Int) := by omega
        have hj3 : ((j : Int) - 1).toNat = j - 1 := by omega
        have hj4 : IntKind.i64.wrap ((j : Int) - 1) = (j : Int) - 1 := wrapK (by omega)
        clear hy hgo hcy
        refine wp_region_later (by kernel_rfl) (by kernel_rfl) ?_
        repeat (first
          | go_big_quiet_step ((go_at_call 19; exact Calls.later_of (HC1.out _)))
          | quiet_step ((go_at_call 19; exact Calls.later_of (HC1.out _))))
        refine wpQuiet_nil ?_
        intro W5 hw'
        have HB5W := hide (later_below hw')
        clear hw' f1 f2 HC1 hne2 z2 hj1 hj2 hj3 hj4
        go_wp2
        go_loopw [12] (fun v wr => ∃ t : Nat, t ≤ rn ∧ v = .int .i64 t ∧ Hid (Below W5.heap.size W5 wr)) (fun v _ => rn - (intOf v).toNat)
        case atStart => exact ⟨0, Nat.zero_le _, rfl, Below.refl _ _⟩
        case round =>
          rename World => wq
          obtain ⟨t, ht, rfl, hbt⟩ := hrel
          have HBQ5 := hide (below_two HB9W.out (below_two HB5W.out hbt.out))
          have HBQ := hide (below_two HB9.out HBQ5.out)
          have HXQ := hide ((HBX.out.below HB5W.out).below hbt.out)
          obtain ⟨⟨_, x1, _⟩, _, hxl⟩ := HXQ.out.facts
          by_cases htm : t < rn
          case pos =>
            obtain ⟨y2, hy2⟩ : ∃ y, i'.2.1[t]? = some y := ⟨i'.2.1[t]'(by have := HRN.out; omega), List.getElem?_eq_some_iff.2 ⟨_, rfl⟩⟩
            obtain ⟨gr, og, hra, hgr, hcr⟩ := HRF.out.cellAt hy2
            subst hra
            have HCR : Hid (∀ W', Below wq.heap.size wq W' → W'.cell? ⟨gr, og + t, none⟩ = some (.string y2)) := fun W' hb => by
              have h1 := (below_two HB5W.out (below_two hbt.out hb)).cell (p := ⟨gr, og + t, none⟩) hgr
              exact h1.trans hcr
            have z3 := HCR.out wq (Below.refl _ _)
            have hti : (t : Int) < (rn : Int) := by omega
            have HMY := hide (List.mem_of_getElem? hy2)
            clear hy2 hcr
            cases hgy : Hog.getK (itsOf ps) y2 with
            | some i2 =>
              have HGY := hide hgy
              clear hgy
              go_wp2_with fail
              refine (get_hit _ ps y2 i2 wq (HA.out.sls.below HBQ.out) (by rw [HN.out]; omega) HPAIR.out HGY.out).mono ?_
              rintro e wb ⟨rb, rcb, tb, tcb, bb, rfl, _, _, _, _, _, hbb⟩
              have HBB := hide (below_two hbb (below_box wb (.cells #[.string i2.1, .slice rb i2.2.1.length rcb, .slice tb i2.2.2.length tcb] 33)))
              obtain ⟨⟨_, x5, _⟩, _, _⟩ := (HXQ.out.below HBB.out).facts
              have z4 := HCR.out _ HBB.out
              clear hbb z3 x1
              go_wp2_with fail
              refine (has9_ok _ R y2 true _ (HTR.out.below (below_two HBQ5.out HBB.out)) (by rw [HQ.out]; omega) (rch_step HR.out HMEM.out HGX.out HMY.out HGY.out)).mono ?_
              rintro e wc ⟨rfl, hwc⟩
              obtain rfl := hwc
              go_wp2
              go_roundw
              case rel => exact ⟨t + 1, by omega, by go_num, below_two hbt.out HBB.out⟩
              case measure => simp [intOf]; omega
            | none =>
              have HGY := hide hgy
              clear hgy
              go_wp2_with fail
              refine (get_miss _ ps y2 wq (HA.out.sls.below HBQ.out) (by rw [HN.out]; omega) HPAIR.out HGY.out).mono ?_
              rintro e wb ⟨rfl, hbb⟩
              have HBB := hide (below_two hbb (below_box wb (.cells #[.string ByteArray.empty, .slice none 0 0, .slice none 0 0] 33)))
              clear hbb z3 x1
              go_wp2
              go_roundw
              case rel => exact ⟨t + 1, by omega, by go_num, below_two hbt.out HBB.out⟩
              case measure => simp [intOf]; omega
          case neg =>
            have htd : decide (t < rn) = false := by rw [decide_eq_false_iff_not]; exact htm
            clear htm
            go_wp2
            go_roundw
            case rel => exact ⟨j + 1, by omega, by go_num, HBQ5⟩
            case measure => simp [intOf]; omega
    case neg =>
      have hjd : decide (j < q) = false := by rw [decide_eq_false_iff_not]; exact hjq
      clear hjq
      rename World => wo
      go_wp2
      go_loopw [15] (fun v wr => ∃ t : Nat, t ≤ m ∧ v = .int .i64 t ∧ Hid (Below w9.heap.size w9 wr)) (fun v _ => m - (intOf v).toNat)
      case atStart => exact ⟨0, Nat.zero_le _, rfl, hbl⟩
      case round =>
        rename World => wq
        obtain ⟨t, ht, rfl, hbt⟩ := hrel
        have HBQ := hide (below_two HB9.out hbt.out)
        by_cases htm : t < m
        case pos =>
          obtain ⟨x, hx⟩ : ∃ x, xs[t]? = some x := ⟨xs[t]'(by have := HXL.out; omega), List.getElem?_eq_some_iff.2 ⟨_, rfl⟩⟩
          obtain ⟨g, o, hbo, hgw, hcx⟩ := HXS.out.txt.cellAt hx
          subst hbo
          have HC : Hid (∀ W, Below w.heap.size w W → W.cell? ⟨g, o + t, none⟩ = some (.string x)) := fun W hb => (hb.cell (p := ⟨g, o + t, none⟩) hgw).trans hcx
          have z1 := HC.out wq HBQ.out
          have hti : (t : Int) < (m : Int) := by omega
          have HMEM := hide (List.mem_of_getElem? hx)
          clear hx hcx
          cases hgx : Hog.getK (itsOf ps) x with
          | some i' =>
            have HGX := hide hgx
            clear hgx
            go_wp2_with fail
            refine (get_hit _ ps x i' wq (HA.out.sls.below HBQ.out) (by rw [HN.out]; omega) HPAIR.out HGX.out).mono ?_
            rintro e wa ⟨ra7, rc7, ta7, tc7, base7, rfl, _, _, _, _, _, hb7⟩
            have HBA := hide (below_two hb7 (below_box wa (.cells #[.string i'.1, .slice ra7 i'.2.1.length rc7, .slice ta7 i'.2.2.length tc7] 33)))
            have z2 := HC.out _ (below_two HBQ.out HBA.out)
            clear hb7 z1
            go_wp2_with fail
            refine (has9_ok _ R x true _ (HTR.out.below (below_two hbt.out HBA.out)) (by rw [HQ.out]; omega) (rch_start HR.out HMEM.out HGX.out)).mono ?_
            rintro e wb ⟨rfl, hwb⟩
            obtain rfl := hwb
            go_wp2
            go_roundw
            case rel => exact ⟨t + 1, by omega, by go_num, below_two hbt.out HBA.out⟩
            case measure => simp [intOf]; omega
          | none =>
            have HGX := hide hgx
            clear hgx
            go_wp2_with fail
            refine (get_miss _ ps x wq (HA.out.sls.below HBQ.out) (by rw [HN.out]; omega) HPAIR.out HGX.out).mono ?_
            rintro e wa ⟨rfl, hb7⟩
            have HBA := hide (below_two hb7 (below_box wa (.cells #[.string ByteArray.empty, .slice none 0 0, .slice none 0 0] 33)))
            have z2 := HC.out _ (below_two HBQ.out HBA.out)
            clear hb7 z1
            go_wp2_with fail
            refine (has9_ok _ R x false _ (HTR.out.below (below_two hbt.out HBA.out)) (by rw [HQ.out]; omega) (rch_not HR.out HGX.out)).mono ?_
            rintro e wb ⟨rfl, hwb⟩
            obtain rfl := hwb
            go_wp2
            go_roundw
            case rel => exact ⟨t + 1, by omega, by go_num, below_two hbt.out HBA.out⟩
            case measure => simp [intOf]; omega
        case neg =>
          have htd : decide (t < m) = false := by rw [decide_eq_false_iff_not]; exact htm
          clear htm
          go_wp2_with fail
          refine (awake9_ok w wq ⟨HSH.out, HBQ.out⟩).mono ?_
          rintro e wb ⟨rfl, okb, _⟩
          go_wp2
          go_ret
          exact ⟨rfl, okb.2⟩
end Go.Proofs.YtinjbijigjfdfaaDoor
