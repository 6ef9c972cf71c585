/- The walk of ClosureReached. -/
import Derived.Test.YtinjbijigjfdfaaDoorKO
namespace Go.Proofs.YtinjbijigjfdfaaDoor
open Go.RowKit

/-- Two slices lie in two blocks. -/
def Apart (v u : Value) : Prop := ∀ k, v.ownBlock = some k → u.ownBlock ≠ some k
theorem Apart.symm {v u : Value} (h : Apart v u) : Apart u v := fun k hk e => h k e hk
theorem Apart.nil (u : Value) : Apart (.slice none 0 0) u := fun k hk => by cases hk
theorem Apart.stays {w : World} {v v' u : Value} (h : Apart v u) (hs : Stays w v v') (hu : ∀ k, u.ownBlock = some k → k < w.heap.size) : Apart v' u := by
  intro k hk e
  rcases hs with e1 | ⟨j, e1, hj⟩
  · exact h k (e1.symm.trans hk) e
  · rw [e1] at hk
    have := hu k e
    have : j = k := Option.some.inj hk
    omega
theorem Apart.row {v u : Value} (h : Apart v u) : u.ownBlock = none ∨ u.ownBlock ≠ v.ownBlock := by
  cases hv : u.ownBlock with
  | none => exact .inl rfl
  | some k => exact .inr fun e => h k e.symm hv

theorem wpList_append_whereT2 {w : World} {ops : Array Oper} {rest : List Oper} {o : Oper} {a : Act} {Q : Exit → Act → World → Prop} (hgd : o.guard = none) (s x : Operand)
    (ho : o.op = .call { callee := .builtin .append, args := #[s, x], argTypes := #[28, 28] })
    (base : Nat) (v : Value) (xs : List ByteArray) (hs : a.eval s = v) (hown : Own base w v xs) (ad : Addr) (m c : Nat) (ys : List ByteArray) (hx : a.eval x = .slice (some ad) m c) (hu : Arg w (some ad) m c ys)
    (q : Nat) (hq : xs.length + ys.length = q) (zs : List ByteArray) (hz : xs ++ ys = zs) (hlen : q < 1000000) (hbase : base ≤ w.heap.size)
    (h : ∀ b c w', Own base w' (.slice b q c) zs → w.grownBy w' v.ownBlock → Stays w v (.slice b q c) → wpList Tryd.prog ops Q rest (a.put o.dst (.slice b q c)) w') : wpList Tryd.prog ops Q (o :: rest) a w := by
  subst hq hz
  exact wpList_append_whereT hgd s x ho base v xs hs hown ad m c ys hx hu hlen hbase h
theorem wpList_append_whereS {w : World} {ops : Array Oper} {rest : List Oper} {o : Oper} {a : Act} {Q : Exit → Act → World → Prop} (hgd : o.guard = none) (s x : Operand)
    (ho : o.op = .call { callee := .builtin .append, args := #[s, x], argTypes := #[22, 22] })
    (base : Nat) (v : Value) (xs : List Pr) (hs : a.eval s = v) (hown : OwnS base w v xs) (ad : Addr) (m c : Nat) (ys : List Pr) (hx : a.eval x = .slice (some ad) m c) (hu : ArgS w (some ad) m c ys)
    (q : Nat) (hq : xs.length + ys.length = q) (zs : List Pr) (hz : xs ++ ys = zs) (hlen : q < 1000000) (hbase : base ≤ w.heap.size)
    (h : ∀ b c w', OwnS base w' (.slice b q c) zs → w.grownBy w' v.ownBlock → Stays w v (.slice b q c) → wpList Tryd.prog ops Q rest (a.put o.dst (.slice b q c)) w') : wpList Tryd.prog ops Q (o :: rest) a w := by
  subst hq hz
  obtain ⟨i0, hi, hz0, hz1, hz2⟩ := info_parts AItem
  obtain rfl := hu.len
  refine wpList_plain hgd fun K hK => ?_
  obtain ⟨v', w', hr, h2, h3, h4⟩ := run_append_where (P := Tryd.prog) w base 22 o.type 33 i0 (.agg #[.string ByteArray.empty, .slice none 0 0, .slice none 0 0]) 3 64 Tryd.underlying22 hi hz0 hz1 hz2 rfl (by decide) v xs.length (rflat xs) hown ad ys.length c (rflat ys) (rflat_len ys) (hu.cell ad rfl) (rflat_one ys) (by unfold maxLen; omega) (by omega) hbase
  have h5 : OwnS base w' v' (xs ++ ys) := OwnS.joined h2
  obtain ⟨b, c', e⟩ := h5.form
  rw [List.length_append] at e
  subst e
  unfold Oper.wp execOp
  simp only [ho, resolve, invoke, builtin, Sem.run_bind, Sem.run_pure, Result.andThen_ok, List.map_toArray, List.map_cons, List.map_nil, hs, hx, hr]
  exact hK _ _ (h b c' w' h5 h3 h4)
theorem argS_one {w : World} {q : Pr} (h : IsI w q) : ArgS (w.alloc (.cells #[.string q.2.1, .slice q.1.2.1.1 q.1.2.1.2.1 q.1.2.1.2.2, .slice q.1.2.2.1 q.1.2.2.2.1 q.1.2.2.2.2] 33)) (some ⟨w.heap.size, 0, none⟩) 1 1 [q] := by
  have hO := OwnS.made w [q] (by unfold maxLen; simp)
  have e : (rflat [q]).toArray = #[.string q.2.1, .slice q.1.2.1.1 q.1.2.1.2.1 q.1.2.1.2.2, .slice q.1.2.2.1 q.1.2.2.2.1 q.1.2.2.2.2] := by
    rw [← h.name]; rfl
  rw [e] at hO
  obtain ⟨ao, c, e2, ha⟩ := hO.arg fun p hp => by rw [List.mem_singleton.1 hp]; exact h.below (below_box _ _)
  injection e2 with e3 e4 e5
  subst e3; subst e5
  exact ha
/-- The items whose names are in a list, with their cells. -/
def someP (R : List ByteArray) (ps : List Pr) : List Pr := ps.filter fun p => hasB R p.2.1
theorem some_its (R : List ByteArray) (ps : List Pr) : itsOf (someP R ps) = someI R (itsOf ps) := by
  unfold itsOf someP someI
  rw [List.filter_map]; rfl
theorem some_step {R : List ByteArray} {ps : List Pr} {k : Nat} {q : Pr} (h : ps[k]? = some q) : someP R (ps.take (k + 1)) = someP R (ps.take k) ++ if hasB R q.2.1 = true then [q] else [] := by
  obtain ⟨hk, rfl⟩ := List.getElem?_eq_some_iff.1 h
  unfold someP
  rw [List.take_succ_eq_append_getElem hk, List.filter_append, List.filter_cons]
  simp
theorem names_step {is : List It} {k : Nat} {i : It} (h : is[k]? = some i) : namesI (is.take (k + 1)) = namesI (is.take k) ++ [i.1] := by
  obtain ⟨hk, rfl⟩ := List.getElem?_eq_some_iff.1 h
  unfold namesI
  rw [List.take_succ_eq_append_getElem hk, List.map_append]; rfl

set_option maxRecDepth 100000 in
set_option maxHeartbeats 8000000 in
theorem reached_walk (p : ByteArray) (ao : Option Addr) (n c : Nat) (ps : List Pr) (bo : Option Addr) (m d : Nat) (xs : List ByteArray) (s : ByteArray) (w : World) (hsh : w.ShapedOpen Tryd.prog) (hp : p.size ≤ maxLen)
    (ha : ArgS w ao n c ps) (hn : n ≤ maxLen) (hL : Lens (itsOf ps)) (hb : Arg w bo m d xs) (hm : m ≤ maxLen) (_ : ∀ x ∈ xs, x.size ≤ maxLen) (hs : s.size ≤ maxLen) :
    Calls Tryd.prog 6 #[.string p, .slice ao n c, .slice bo m d, .string s] w fun e w' => e = .returned (.bool true) ∧ Below w.heap.size w w' := by
  have HSH := hide hsh
  have HA := hide ha
  have HL := hide hL
  have HXS := hide hb
  have HN : Hid (ps.length = n) := ha.len
  have HNI : Hid ((itsOf ps).length = n) := by rw [its_len]; exact HN
  have HXL : Hid (xs.length = m) := hb.len
  have hpi : (p.size : Int) ≤ 9223372036854775807 := by unfold maxLen at hp; omega
  have hsi : (s.size : Int) ≤ 9223372036854775807 := by unfold maxLen at hs; omega
  have HIT := hide ha.sls.its
  obtain ⟨g, hg⟩ : ∃ g, greatI (itsOf ps) = g := ⟨_, rfl⟩
  have HG := hide hg
  obtain ⟨g1, hg1⟩ : ∃ g, greatT 12 100 xs = g := ⟨_, rfl⟩
  have HG1 := hide hg1
  obtain ⟨r, hr⟩ : ∃ r, valV p (itsOf ps) = r := ⟨_, rfl⟩
  have HV := hide hr
  have HMX : Hid ((itsOf ps).length ≤ maxLen) := by rw [HNI.out]; exact hn
  have HMX1 : Hid (xs.length ≤ maxLen) := by rw [HXL.out]; exact hm
  have HPX : Hid (p.size ≤ 9223372036854775807) := by unfold maxLen at hp; show _ ≤ _; omega
  have HSX : Hid (s.size ≤ 9223372036854775807) := by unfold maxLen at hs; show _ ≤ _; omega
  clear hsh ha hL hg hr hp hn hb hm hs hg1
  go_enter Tryd.func6, Tryd.ntmps6
  by_cases hp1 : p.size ≤ 100
  case neg =>
    have hp1i : (100 : Int) < (p.size : Int) := by omega
    go_wp2_with fail
    refine (awake9_ok w w ⟨HSH.out, Below.refl _ _⟩).mono ?_
    rintro e w1 ⟨rfl, ok1, _⟩
    go_wp2
    go_ret
    exact ⟨rfl, ok1.2⟩
  have hp1i : (p.size : Int) ≤ 100 := by omega
  by_cases hs1 : s.size ≤ 100
  case neg =>
    have hs1i : (100 : Int) < (s.size : Int) := by omega
    go_wp2_with fail
    refine (awake9_ok w w ⟨HSH.out, Below.refl _ _⟩).mono ?_
    rintro e w1 ⟨rfl, ok1, _⟩
    go_wp2
    go_ret
    exact ⟨rfl, ok1.2⟩
  have hs1i : (s.size : Int) ≤ 100 := by omega
  clear hpi hsi
  go_wp2_with fail
  refine (greatI_ok _ (itsOf ps) g w HIT.out HMX.out HL.out HG.out).mono ?_
  rintro e w1 ⟨rfl, hw1⟩
  obtain rfl := hw1
  cases g with
  | true =>
    go_wp2_with fail
    refine (awake9_ok w1 w1 ⟨HSH.out, Below.refl _ _⟩).mono ?_
    rintro e w2 ⟨rfl, ok2, _⟩
    go_wp2
    go_ret
    exact ⟨rfl, ok2.2⟩
  | false =>
  go_wp2_with fail
  refine (greatT_ok _ 12 100 xs g1 w1 HXS.out.txt HMX1.out (by decide) (by decide) HG1.out).mono ?_
  rintro e w2 ⟨rfl, hw2⟩
  obtain rfl := hw2
  cases g1 with
  | true =>
    go_wp2_with fail
    refine (awake9_ok w2 w2 ⟨HSH.out, Below.refl _ _⟩).mono ?_
    rintro e w3 ⟨rfl, ok3, _⟩
    go_wp2
    go_ret
    exact ⟨rfl, ok3.2⟩
  | false =>
  rename World => w
  have HFAIR : Hid (∀ i ∈ itsOf ps, Fair i) := fun i hi => bigI_fair ((greatI_not HG.out).2 i hi)
  have HREF : Hid (∀ i ∈ itsOf ps, i.2.1.length < 900000) := fun i hi => (HFAIR.out i hi).refs
  have hn10 : n ≤ 10 := by have := (greatI_not HG.out).1; rw [HNI.out] at this; exact this
  have hm12 : m ≤ 12 := by have := (greatT_not HG1.out).1; rw [HXL.out] at this; omega
  go_wp2_with fail
  refine (validate_ok p _ (itsOf ps) r w w ⟨HSH.out, Below.refl _ _⟩ HIT.out HPX.out HMX.out HFAIR.out HV.out).mono ?_
  rintro e w2 ⟨rfl, ok2, _⟩
  have HB2 := hide ok2.2
  clear ok2
  by_cases hr0 : r = 0
  case neg =>
    have hrb : (r != 0) = true := by rw [bne_iff_ne]; exact hr0
    clear hr0
    go_wp2_with fail
    refine (awake9_ok w w2 ⟨HSH.out, HB2.out⟩).mono ?_
    rintro e w3 ⟨rfl, ok3, _⟩
    go_wp2
    go_ret
    exact ⟨rfl, ok3.2⟩
  have hrb : (r != 0) = false := by rw [hr0]; rfl
  have HVI := hide (val_iff.1 (HV.out.trans hr0))
  clear hr0
  obtain ⟨R, hR⟩ := reach_ex (itsOf ps) xs
  have HR := hide hR
  have hrn : R.length ≤ 10 := by have := hR.few; rw [HNI.out] at this; omega
  clear hR
  go_wp2_with fail
  refine (reach_ok _ _ (itsOf ps) xs R w2 (HIT.out.below HB2.out) (by rw [HNI.out]; omega) (HXS.out.txt.below HB2.out) (by rw [HXL.out]; omega) HREF.out HR.out).mono ?_
  rintro e w5 ⟨aR, cR, rfl, ho5, hb5⟩
  obtain ⟨q, hq⟩ : ∃ q, R.length = q := ⟨_, rfl⟩
  rw [hq] at ho5 hrn ⊢
  have HQ := hide hq
  have HTR := hide ho5.txt
  have HB5 := hide (below_two HB2.out hb5)
  clear hq ho5 hb5
  go_wp2
  go_loopw [10, 11, 12] (fun v u i wr => ∃ (k qs : Nat) (aS : Option Addr) (cS : Nat) (aA : Option Addr) (cA : Nat), k ≤ n ∧ qs ≤ k ∧ v = .slice aS qs cS ∧ u = .slice aA k cA ∧ i = .int .i64 k ∧ Hid ((someP R (ps.take k)).length = qs) ∧ Hid (OwnS w5.heap.size wr (.slice aS qs cS) (someP R (ps.take k))) ∧
    Hid (Own w5.heap.size wr (.slice aA k cA) (namesI ((itsOf ps).take k))) ∧ Hid (Apart (.slice aS qs cS) (.slice aA k cA)) ∧ Hid (Below w5.heap.size w5 wr)) (fun _ _ i _ => n - (intOf i).toNat)
  case atStart => exact ⟨0, 0, none, 0, none, 0, Nat.zero_le _, Nat.le_refl _, rfl, rfl, rfl, rfl, OwnS.nil _ _, Own.nil _ _, Apart.nil _, Below.refl _ _⟩
  case round =>
    obtain ⟨k, qs, aS, cS, aA, cA, hk, hqs, rfl, rfl, rfl, hlen, hoS, hoA, hap, hbl⟩ := hrel
    have HBR := hide (below_two HB5.out hbl.out)
    have h5r : w5.heap.size ≤ wr.heap.size := hbl.out.size
    by_cases hlt : k < n
    case pos =>
      obtain ⟨pr, hpr⟩ : ∃ x, ps[k]? = some x := ⟨ps[k]'(by have := HN.out; omega), List.getElem?_eq_some_iff.2 ⟨_, rfl⟩⟩
      obtain ⟨b, o, hab, hbw, hat⟩ := HA.out.at' k pr hpr
      subst hab
      have HC : Hid (∀ W, Below w.heap.size w W → AtS W b (o + k * 3) pr) := fun W hb => hat.below hb
      have HP := hide hpr
      have HPI := hide (its_at hpr)
      have hki : (k : Int) < (n : Int) := by omega
      have q0 := (HC.out wr HBR.out).c0
      have HNL : Hid ((namesI ((itsOf ps).take k)).length = k) := by unfold namesI; rw [List.length_map, List.length_take, HNI.out]; exact Nat.min_eq_left hk
      have HOA := hide (hoA.out.alloc (.cells #[.string pr.2.1] 9))
      have HOS := hide (hoS.out.below (below_box wr (.cells #[.string pr.2.1] 9)))
      have HAO := hide (arg_one wr pr.2.1)
      have HBX := hide (hbl.out.alloc h5r (.cells #[.string pr.2.1] 9))
      clear hpr hat
      go_wp2_with (at_builtin; refine wpList_append_whereT2 rfl _ _ rfl w5.heap.size _ _ rfl HOA.out _ _ _ [pr.2.1] rfl HAO.out (k + 1) ?d1 _ (names_step HPI.out).symm ?d2 ?d3 ?_)
      case d1 => rw [HNL.out]; rfl
      case d2 => omega
      case d3 => simp; omega
      intro b6 c6 w6 ho6 hg6 hs6
      have HOA6 := hide ho6
      have HOS6 : Hid (OwnS w5.heap.size w6 (.slice aS qs cS) (someP R (ps.take k))) := World.ownsRow.kept HOS.out hg6 (hap.out.symm.row)
      have HAP6 : Hid (Apart (.slice b6 (k + 1) c6) (.slice aS qs cS)) := hap.out.symm.stays hs6 (fun j hj => (HOS.out.lt j hj).2)
      have HB6 := hide (HBX.out.grown hg6 HBX.out.size (fun j hj => (HOA.out.lt j hj).1))
      have HBW6 := hide (below_two HB5.out HB6.out)
      have h56 : w5.heap.size ≤ w6.heap.size := HB6.out.size
      have hat6 := HC.out w6 HBW6.out
      have z0 := hat6.c0
      have z1 := hat6.c1
      have z2 := hat6.c2
      unfold refsV at z1
      unfold treeV at z2
      have HIS := hide hat6.is
      clear ho6 hg6 hs6 hat6 q0
      obtain ⟨t, ht⟩ : ∃ t, hasB R pr.2.1 = t := ⟨_, rfl⟩
      have HT := hide ht
      have HST := hide (some_step (R := R) HP.out)
      clear ht
      go_wp2_with fail
      refine (has9_ok _ R pr.2.1 t w6 (HTR.out.below HB6.out) (by rw [HQ.out]; omega) HT.out).mono ?_
      rintro e w7 ⟨rfl, hw7⟩
      obtain rfl := hw7
      cases t with
      | false =>
        have HS2 : Hid (someP R (ps.take (k + 1)) = someP R (ps.take k)) := by
          rw [HST.out, if_neg (by rw [HT.out]; decide), List.append_nil]; exact hide rfl
        clear z0 z1 z2
        go_wp2
        go_roundw
        case rel => exact ⟨k + 1, qs, aS, cS, b6, c6, by omega, by omega, rfl, rfl, by go_num, by rw [HS2.out]; exact hlen, by rw [HS2.out]; exact HOS6, HOA6, HAP6.out.symm, HB6⟩
        case measure => simp [intOf]; omega
      | true =>
        have HS2 : Hid (someP R (ps.take k) ++ [pr] = someP R (ps.take (k + 1))) := by
          rw [HST.out, if_pos HT.out]; exact hide rfl
        have HOS7 := hide (HOS6.out.below (below_box w7 (.cells #[.string pr.2.1, .slice pr.1.2.1.1 pr.1.2.1.2.1 pr.1.2.1.2.2, .slice pr.1.2.2.1 pr.1.2.2.2.1 pr.1.2.2.2.2] 33)))
        have HOA7 := hide (HOA6.out.alloc (.cells #[.string pr.2.1, .slice pr.1.2.1.1 pr.1.2.1.2.1 pr.1.2.1.2.2, .slice pr.1.2.2.1 pr.1.2.2.2.1 pr.1.2.2.2.2] 33))
        have HAS := hide (argS_one HIS.out)
        have HB7 := hide (HB6.out.alloc h56 (.cells #[.string pr.2.1, .slice pr.1.2.1.1 pr.1.2.1.2.1 pr.1.2.1.2.2, .slice pr.1.2.2.1 pr.1.2.2.2.1 pr.1.2.2.2.2] 33))
        go_wp2_with (at_builtin; refine wpList_append_whereS rfl _ _ rfl w5.heap.size _ _ rfl HOS7.out _ _ _ [pr] rfl HAS.out (qs + 1) ?d1 _ HS2.out ?d2 ?d3 ?_)
        case d1 => rw [hlen.out]; rfl
        case d2 => omega
        case d3 => simp; omega
        intro b8 c8 w8 ho8 hg8 hs8
        have HOS8 := hide ho8
        have HOA8 : Hid (Own w5.heap.size w8 (.slice b6 (k + 1) c6) (namesI ((itsOf ps).take (k + 1)))) := World.ownsRow.kept HOA7.out hg8 (HAP6.out.symm.row)
        have HAP8 : Hid (Apart (.slice b8 (qs + 1) c8) (.slice b6 (k + 1) c6)) := HAP6.out.symm.stays hs8 (fun j hj => (HOA7.out.lt j hj).2)
        have HB8 := hide (HB7.out.grown hg8 HB7.out.size (fun j hj => (HOS7.out.lt j hj).1))
        clear ho8 hg8 hs8 z0 z1 z2
        go_wp2
        go_roundw
        case rel => exact ⟨k + 1, qs + 1, b8, c8, b6, c6, by omega, by omega, rfl, rfl, by go_num, by rw [← HS2.out, List.length_append, hlen.out]; exact hide rfl, HOS8, HOA8, HAP8, HB8⟩
        case measure => simp [intOf]; omega
    case neg =>
      have hkd : decide (k < n) = false := by rw [decide_eq_false_iff_not]; exact hlt
      obtain rfl : k = n := by omega
      have HPT : Hid (ps.take k = ps) := List.take_of_length_le (by rw [HN.out]; exact Nat.le_refl _)
      have HIK : Hid ((itsOf ps).take k = itsOf ps) := List.take_of_length_le (by rw [HNI.out]; exact Nat.le_refl _)
      rw [HPT.out] at hlen hoS
      rw [HIK.out] at hoA
      obtain ⟨LI, hLI⟩ : ∃ LI, someI R (itsOf ps) = LI := ⟨_, rfl⟩
      have HLI : Hid (itsOf (someP R ps) = LI) := by rw [some_its]; exact hLI
      have HCL : Hid (Clos LI) := by rw [← hLI]; exact hide (some_clos HVI.out.2 HR.out)
      have HSR : Hid (RchIs LI R R) := by rw [← hLI]; exact hide (some_reach HVI.out.2 HR.out)
      have HLN : Hid (LI.length = qs) := by rw [← HLI.out, its_len]; exact hlen
      have hqq : qs = q := by
        have h1 := congrArg List.length (some_names HVI.out.2 HR.out)
        rw [hLI] at h1
        unfold namesI at h1
        rw [List.length_map, HLN.out, HQ.out] at h1
        exact h1
      subst hqq
      have HSUB : Hid (∀ x ∈ LI, x ∈ itsOf ps) := by rw [← hLI]; exact hide (fun x hx => (List.mem_filter.1 hx).1)
      have HFS : Hid (∀ x ∈ LI, Fair x) := fun x hx => HFAIR.out x (HSUB.out x hx)
      have HITS : Hid (Its wr (.slice aS qs cS) LI) := by
        rw [← HLI.out]
        exact hide (hoS.out.sls fun x hx => (HA.out.each x (List.mem_filter.1 hx).1).below HBR.out).its
      have HTA := hide hoA.out.txt
      have HALL := hide (reach_all HVI.out.2)
      have HAN : Hid ((namesI (itsOf ps)).length = k) := by unfold namesI; rw [List.length_map]; exact HNI
      have hqb : ((qs : Int) != (qs : Int)) = false := by simp
      clear hlt hk hkd hLI hlen hoS hoA hap HPT HIK
      go_wp2_with fail
      refine (validate_ok p _ LI 0 w wr ⟨HSH.out, HBR.out⟩ HITS.out HPX.out (by rw [HLN.out]; unfold maxLen; omega) HFS.out (val_iff.2 ⟨HVI.out.1, HCL.out⟩)).mono ?_
      rintro e wa ⟨rfl, oka, hba⟩
      have HBA := hide oka.2
      have HBRA := hide hba
      clear oka hba
      go_wp2_with fail
      refine (reach_ok _ _ (itsOf ps) (namesI (itsOf ps)) (namesI (itsOf ps)) wa (HIT.out.below HBA.out) (by rw [HNI.out]; omega) (HTA.out.below HBRA.out) (by rw [HAN.out]; omega) HREF.out HALL.out).mono ?_
      rintro e wb ⟨aB, cB, rfl, hob, hbb⟩
      rw [HAN.out] at hob ⊢
      have HOB := hide hob.txt
      have HBRB := hide (below_two HBRA.out hbb)
      have HBB := hide (below_two HBA.out hbb)
      clear hob hbb
      go_wp2_with fail
      refine (same_any _ _ (namesI (itsOf ps)) (namesI (itsOf ps)) wb HOB.out (HTA.out.below HBRB.out) (by rw [HAN.out]; omega)).mono ?_
      rintro e wc ⟨rfl, hbc⟩
      rw [decide_eq_true rfl]
      have HBRC := hide (below_two HBRB.out hbc)
      have HBC := hide (below_two HBB.out hbc)
      clear hbc HOB HBRB HBRA
      obtain ⟨z, hz⟩ : ∃ z, prefB s = z := ⟨_, rfl⟩
      have HZ := hide hz
      clear hz
      go_wp2_with fail
      refine (prefix_ok s z wc HSX.out HZ.out).mono ?_
      rintro e wd ⟨rfl, hwd⟩
      obtain rfl := hwd
      cases z with
      | true =>
        go_wp2_with fail
        refine (validate_ok s _ LI 0 w wd ⟨HSH.out, HBC.out⟩ (HITS.out.below HBRC.out) HSX.out (by rw [HLN.out]; unfold maxLen; omega) HFS.out (val_iff.2 ⟨HZ.out, HCL.out⟩)).mono ?_
        rintro e we ⟨rfl, oke, hbe⟩
        have HBE := hide oke.2
        have HBRE := hide (below_two HBRC.out hbe)
        clear oke hbe
        go_wp2_with fail
        refine (reach_ok _ _ LI R R we (HITS.out.below HBRE.out) (by rw [HLN.out]; omega) (HTR.out.below (below_two hbl.out HBRE.out)) (by rw [HQ.out]; omega) (fun x hx => (HFS.out x hx).refs) HSR.out).mono ?_
        rintro e wf ⟨aF, cF, rfl, hof, hbf⟩
        rw [HQ.out] at hof ⊢
        have HOF := hide hof.txt
        have HBRF := hide (below_two HBRE.out hbf)
        have HBF := hide (below_two HBE.out hbf)
        clear hof hbf
        go_wp2_with fail
        refine (same_any _ _ R R wf HOF.out (HTR.out.below (below_two hbl.out HBRF.out)) (by rw [HQ.out]; omega)).mono ?_
        rintro e wg ⟨rfl, hbg⟩
        rw [decide_eq_true rfl]
        have HBG := hide (below_two HBF.out hbg)
        clear hbg
        go_wp2_with fail
        refine (awake9_ok w wg ⟨HSH.out, HBG.out⟩).mono ?_
        rintro e wh ⟨rfl, okh, _⟩
        go_wp2
        go_ret
        exact ⟨rfl, okh.2⟩
      | false =>
        go_wp2_with fail
        refine (validate_ok s _ LI 11 w wd ⟨HSH.out, HBC.out⟩ (HITS.out.below HBRC.out) HSX.out (by rw [HLN.out]; unfold maxLen; omega) HFS.out (val_pref.2 HZ.out)).mono ?_
        rintro e we ⟨rfl, oke, hbe⟩
        have HBE := hide oke.2
        have HBRE := hide (below_two HBRC.out hbe)
        clear oke hbe
        go_wp2_with fail
        refine (reach_ok _ _ LI R R we (HITS.out.below HBRE.out) (by rw [HLN.out]; omega) (HTR.out.below (below_two hbl.out HBRE.out)) (by rw [HQ.out]; omega) (fun x hx => (HFS.out x hx).refs) HSR.out).mono ?_
        rintro e wf ⟨aF, cF, rfl, hof, hbf⟩
        rw [HQ.out] at hof ⊢
        have HOF := hide hof.txt
        have HBRF := hide (below_two HBRE.out hbf)
        have HBF := hide (below_two HBE.out hbf)
        clear hof hbf
        go_wp2_with fail
        refine (same_any _ _ R R wf HOF.out (HTR.out.below (below_two hbl.out HBRF.out)) (by rw [HQ.out]; omega)).mono ?_
        rintro e wg ⟨rfl, hbg⟩
        rw [decide_eq_true rfl]
        have HBG := hide (below_two HBF.out hbg)
        clear hbg
        go_wp2_with fail
        refine (awake9_ok w wg ⟨HSH.out, HBG.out⟩).mono ?_
        rintro e wh ⟨rfl, okh, _⟩
        go_wp2
        go_ret
        exact ⟨rfl, okh.2⟩
end Go.Proofs.YtinjbijigjfdfaaDoor
