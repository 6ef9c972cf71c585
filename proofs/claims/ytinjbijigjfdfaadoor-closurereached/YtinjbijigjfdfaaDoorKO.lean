/- The walk of ClosureTurned. -/
import Derived.Test.YtinjbijigjfdfaaDoorKN
namespace Go.Proofs.YtinjbijigjfdfaaDoor
open Go.RowKit

theorem OwnS.letters {base : Nat} {w : World} {a : Option Addr} {m c : Nat} {ps : List Pr} (h : OwnS base w (.slice a m c) ps) : m = ps.length := by
  obtain ⟨a', c', e⟩ := h.form
  simp only [Value.slice.injEq] at e
  exact e.2.1
theorem OwnS.block {base : Nat} {w : World} {b : Option Addr} {n c : Nat} {ps : List Pr} (h : OwnS base w (.slice b n c) ps) (hn : 0 < n) : ∃ g, b = .some ⟨g, 0, Option.none⟩ ∧ base ≤ g ∧ g < w.heap.size ∧ n ≤ c := by
  rcases h.2 with ⟨e, h0⟩ | ⟨g, cap, cur, e, hb, hg, hc, _⟩
  · have := h.letters; omega
  · obtain ⟨rfl, rfl, rfl⟩ : b = .some ⟨g, 0, Option.none⟩ ∧ n = ps.length ∧ c = cap := by simpa using e
    exact ⟨g, rfl, hb, (Array.getElem?_eq_some_iff.1 hg).1, hc⟩
theorem OwnS.free {base : Nat} {w : World} {g m c : Nat} {ps : List Pr} (h : OwnS base w (.slice (some ⟨g, 0, Option.none⟩) m c) ps) (j : Nat) : w.frozen? ⟨g, j, Option.none⟩ = false := by
  have hm := h.letters
  subst hm
  exact World.ownsRow.frozenAt h j
theorem OwnS.cellAt {base : Nat} {w : World} {g m c : Nat} {ps : List Pr} (h : OwnS base w (.slice (some ⟨g, 0, Option.none⟩) m c) ps) {j : Nat} {p : Pr} (hp : ps[j]? = some p) : w.cell? ⟨g, j * 3 + 1, Option.none⟩ = some (refsV p.1) := by
  have hm := h.letters
  subst hm
  have hj := (List.getElem?_eq_some_iff.1 hp).1
  exact (World.ownsRow.cellAt h (j * 3 + 1) (by omega)).trans (rflat_get hp).2.1
/-- An item's references, others put in. -/
def putR (p : Pr) (a : Option Addr) (l c : Nat) (rs : List ByteArray) : Pr := ((p.1.1, (a, l, c), p.1.2.2), (p.2.1, rs, p.2.2.2))
theorem rflat_put : ∀ {ps : List Pr} {j : Nat} {p : Pr}, ps[j]? = some p → ∀ (a : Option Addr) (l c : Nat) (rs : List ByteArray), (rflat ps).set (j * 3 + 1) (.slice a l c) = rflat (ps.set j (putR p a l c rs))
  | [], j, p, h, a, l, c, rs => by simp at h
  | y :: r, 0, p, h, a, l, c, rs => by
    simp at h
    subst h
    simp [rflat, rcells, putR, refsV, treeV]
  | y :: r, j + 1, p, h, a, l, c, rs => by
    rw [List.set_cons_succ, rflat_cons, rflat_cons, ← rflat_put (by simpa using h) a l c rs]
    simp [rcells, Nat.add_mul]
theorem OwnS.put {base : Nat} {w : World} {g m c : Nat} {ps : List Pr} (h : OwnS base w (.slice (some ⟨g, 0, Option.none⟩) m c) ps) {j : Nat} {p : Pr} (hp : ps[j]? = some p) (a : Option Addr) (l cc : Nat) (rs : List ByteArray) :
    OwnS base (w.setCell ⟨g, j * 3 + 1, Option.none⟩ (.slice a l cc)) (.slice (some ⟨g, 0, Option.none⟩) m c) (ps.set j (putR p a l cc rs)) := by
  have hm := h.letters
  subst hm
  have h1 := (World.ownsRow.stored h (j * 3 + 1) (.slice a l cc)).1
  unfold OwnS
  rw [rflat_put hp a l cc rs] at h1
  rw [List.length_set]
  exact h1
theorem its_put {ps : List Pr} {j : Nat} {p : Pr} (a : Option Addr) (l c : Nat) (rs : List ByteArray) : itsOf (ps.set j (putR p a l c rs)) = (itsOf ps).set j (p.2.1, rs, p.2.2.2) := by
  unfold itsOf
  rw [List.map_set]; rfl
theorem its_less (ps : List Pr) (k : Nat) : itsOf (ps.take k ++ ps.drop (k + 1)) = lessI (itsOf ps) k := by
  unfold itsOf lessI
  rw [List.map_append, List.map_take, List.map_drop]

theorem put_sls {base : Nat} {w W : World} {g n c k : Nat} {ps : List Pr} {q : Pr} {a : Option Addr} {l cc : Nat} {rs : List ByteArray} (hO : OwnS base W (.slice (some ⟨g, 0, Option.none⟩) n c) (ps.set k (putR q a l cc rs))) (he : ∀ p ∈ ps, IsI w p) (hb : Below w.heap.size w W) (hq : q ∈ ps) (hr : Arg W a l cc rs) :
    Sls W (.slice (some ⟨g, 0, Option.none⟩) n c) (ps.set k (putR q a l cc rs)) := by
  have hm := hO.letters
  have h := hO.sls fun p hp => by
    rcases List.mem_or_eq_of_mem_set hp with hp | rfl
    · exact (he p hp).below hb
    · exact ⟨(he q hq).name, hr, ((he q hq).below hb).tree⟩
  exact h
theorem fair_set {is : List It} {k : Nat} {i : It} {rs : List ByteArray} (h : ∀ j ∈ is, Fair j) (hi : i ∈ is) (h1 : rs.length < 900000) (h2 : ∀ x ∈ rs, x.size < 900000) : ∀ j ∈ is.set k (i.1, rs, i.2.2), Fair j := by
  intro j hj
  rcases List.mem_or_eq_of_mem_set hj with hj | rfl
  · exact h j hj
  · exact ⟨(h i hi).name, h1, h2, (h i hi).tree, (h i hi).path⟩
theorem want_step {is : List It} {j : Nat} {x : It} (hx : is[j]? = some x) (y : ByteArray) : wantB (is.take (j + 1)) y = (wantB (is.take j) y || hasB x.2.1 y) := by
  obtain ⟨hk, rfl⟩ := List.getElem?_eq_some_iff.1 hx
  unfold wantB
  rw [List.take_succ_eq_append_getElem hk, List.any_append]
  simp

/-- An append of items onto items of one's own, as a step of a region. -/
theorem step_append_items {ops : Array Oper} {o : Oper} {a : Act} {w : World} {K : Act → World → Prop} {Q : Exit → Act → World → Prop} {E : Prop} (hgd : o.guard = none) (s x : Operand)
    (ho : o.op = .call { callee := .builtin .append, args := #[s, x], argTypes := #[22, 22] })
    (base : Nat) (v : Value) (xs : List Pr) (hs : a.eval s = v) (hown : OwnS base w v xs) (ad : Addr) (m c : Nat) (ys : List Pr) (hx : a.eval x = .slice (some ad) m c) (hu : ArgS w (some ad) m c ys)
    (q : Nat) (hq : xs.length + ys.length = q) (zs : List Pr) (hz : xs ++ ys = zs) (hlen : q < 1000000) (hbase : base ≤ w.heap.size)
    (h : ∀ b c w', OwnS base w' (.slice b q c) zs → Below base w w' → K (a.put o.dst (.slice b q c)) w') :
    if Region.wanted o (yielded ops a.tmps) = true then Oper.wp Tryd.prog o a w K Q else E := by
  have hw : Region.wanted o (yielded ops a.tmps) = true := by simp [Region.wanted, hgd]
  rw [if_pos hw]
  subst hq hz
  obtain ⟨i0, hi, hz0, hz1, hz2⟩ := info_parts AItem
  obtain rfl := hu.len
  obtain ⟨v', w', hr, h2, h3, h4⟩ := run_append_own (P := Tryd.prog) w base 22 o.type 33 i0 (.agg #[.string ByteArray.empty, .slice none 0 0, .slice none 0 0]) 3 64 Tryd.underlying22 hi hz0 hz1 hz2 rfl (by decide) v xs.length (rflat xs) hown ad ys.length c (rflat ys) (rflat_len ys) (hu.cell ad rfl) (rflat_one ys) (by unfold maxLen; omega) (by omega) hbase
  have h5 : OwnS base w' v' (xs ++ ys) := OwnS.joined h2
  obtain ⟨b, c', e⟩ := h5.form
  rw [List.length_append] at e
  subst e
  unfold Oper.wp
  simp [execOp, ho, resolve, invoke, builtin, hs, hx, hr, Result.andThen]
  exact h b c' w' h5 (hown.grownBelow h3 hbase)

set_option maxRecDepth 100000 in
set_option maxHeartbeats 8000000 in
theorem turned_walk (p : ByteArray) (ao : Option Addr) (n c : Nat) (ps : List Pr) (kk : Int) (w : World) (hsh : w.ShapedOpen Tryd.prog) (hp : p.size ≤ maxLen) (ha : ArgS w ao n c ps) (hn : n ≤ maxLen) (hL : Lens (itsOf ps)) :
    Calls Tryd.prog 5 #[.string p, .slice ao n c, .int .i64 kk] w fun e w' => e = .returned (.bool true) ∧ Below w.heap.size w w' := by
  have HSH := hide hsh
  have HA := hide ha
  have HL := hide hL
  have HN : Hid (ps.length = n) := ha.len
  have HNI : Hid ((itsOf ps).length = n) := by rw [its_len]; exact HN
  have hpi : (p.size : Int) ≤ 9223372036854775807 := by unfold maxLen at hp; omega
  have hni : (n : Int) ≤ 9223372036854775807 := by unfold maxLen at hn; omega
  have HIT := hide ha.sls.its
  obtain ⟨g, hg⟩ : ∃ g, greatI (itsOf ps) = g := ⟨_, rfl⟩
  have HG := hide hg
  obtain ⟨r, hr⟩ : ∃ r, valV p (itsOf ps) = r := ⟨_, rfl⟩
  have HV := hide hr
  have HMX : Hid ((itsOf ps).length ≤ maxLen) := by rw [HNI.out]; exact hn
  have HPX : Hid (p.size ≤ 9223372036854775807) := by unfold maxLen at hp; show _ ≤ _; omega
  clear hsh ha hL hg hr hp hn
  go_enter Tryd.func5, Tryd.ntmps5
  by_cases hp1 : p.size ≤ 100
  case neg =>
    have hp1i : (100 : Int) < (p.size : Int) := by omega
    go_wp2_with fail
    refine (awake9_ok w w ⟨HSH.out, Below.refl _ _⟩).mono ?_
    rintro e w1 ⟨rfl, ok1, _⟩
    go_wp2
    go_ret
    exact ⟨rfl, ok1.2⟩
  have hp1i : (p.size : Int) ≤ 100 := by omega
  clear hpi
  go_wp2_with fail
  refine (greatI_ok _ (itsOf ps) g w HIT.out HMX.out HL.out HG.out).mono ?_
  rintro e w1 ⟨rfl, hw1⟩
  obtain rfl := hw1
  cases g with
  | true =>
    go_wp2_with fail
    refine (awake9_ok w1 w1 ⟨HSH.out, Below.refl _ _⟩).mono ?_
    rintro e w2 ⟨rfl, ok2, _⟩
    go_wp2
    go_ret
    exact ⟨rfl, ok2.2⟩
  | false =>
  rename World => w
  have HFAIR : Hid (∀ i ∈ itsOf ps, Fair i) := fun i hi => bigI_fair ((greatI_not HG.out).2 i hi)
  have hn10 : n ≤ 10 := by have := (greatI_not HG.out).1; rw [HNI.out] at this; exact this
  have hn10i : (n : Int) ≤ 10 := by omega
  by_cases hn0 : n = 0
  · have hn0i : ((n : Int) == 0) = true := by rw [hn0]; rfl
    clear hn0
    go_wp2_with fail
    refine (awake9_ok w w ⟨HSH.out, Below.refl _ _⟩).mono ?_
    rintro e w2 ⟨rfl, ok2, _⟩
    go_wp2
    go_ret
    exact ⟨rfl, ok2.2⟩
  have hn0i : ((n : Int) == 0) = false := by rw [beq_eq_false_iff_ne]; omega
  have hnp : 0 < n := by omega
  clear hn0 hni
  go_wp2_with fail
  refine (validate_ok p _ (itsOf ps) r w w ⟨HSH.out, Below.refl _ _⟩ HIT.out HPX.out HMX.out HFAIR.out HV.out).mono ?_
  rintro e w2 ⟨rfl, ok2, _⟩
  have HB2 := hide ok2.2
  clear ok2
  by_cases hr0 : r = 0
  case neg =>
    have hrb : (r != 0) = true := by rw [bne_iff_ne]; exact hr0
    clear hr0
    go_wp2_with fail
    refine (awake9_ok w w2 ⟨HSH.out, HB2.out⟩).mono ?_
    rintro e w3 ⟨rfl, ok3, _⟩
    go_wp2
    go_ret
    exact ⟨rfl, ok3.2⟩
  have hrb : (r != 0) = false := by rw [hr0]; rfl
  have HVI := hide (val_iff.1 (HV.out.trans hr0))
  clear hr0
  go_wp2_with fail
  refine (low_any kk n w2 (by omega) (by omega)).mono ?_
  rintro e w3 ⟨k, rfl, hkn, hw3⟩
  obtain rfl := hw3
  have hkn' : k < n := by omega
  obtain ⟨q, hq⟩ : ∃ q, ps[k]? = some q := ⟨ps[k]'(by have := HN.out; omega), List.getElem?_eq_some_iff.2 ⟨_, rfl⟩⟩
  have hqi := its_at hq
  obtain ⟨i, hi⟩ : ∃ i, q.2 = i := ⟨_, rfl⟩
  rw [hi] at hqi
  obtain ⟨b, o, ra, rn, rc, ta, tn, tc, hab, hbw, e0, e1, e2, hrf, htr⟩ := HA.out.it hqi
  subst hab
  have HQ := hide hq
  have HQI := hide hi
  have HI := hide hqi
  have HRN : Hid (i.2.1.length = rn) := hrf.len
  have hr12 : rn ≤ 12 := by have := (bigI_not ((greatI_not HG.out).2 i (List.mem_of_getElem? hqi))).2.1; rw [hrf.len] at this; exact this
  have HC : Hid (∀ W, Below w.heap.size w W → W.cell? ⟨b, o + k * 3, none⟩ = some (.string i.1) ∧ W.cell? ⟨b, o + k * 3 + 1, none⟩ = some (.slice ra rn rc)) := fun W hb => ⟨(hb.cell (p := ⟨b, o + k * 3, none⟩) hbw).trans e0, (hb.cell (p := ⟨b, o + k * 3 + 1, none⟩) hbw).trans e1⟩
  have hws : w.heap.size ≤ w3.heap.size := HB2.out.size
  clear hq hqi hi e0 e1 e2 hrf htr
  go_wp2_with (at_builtin; refine wpList_append_items rfl _ _ rfl w3.heap.size _ [] rfl (OwnS.nil _ _) _ _ _ ps rfl (HA.out.below HB2.out) n ?d1 ps ?d2 ?d3 (Nat.le_refl _) ?_)
  case d1 => rw [HN.out]; simp
  case d2 => rfl
  case d3 => omega
  intro b4 c4 w4 ho4 hg4
  obtain ⟨gm, hbm, hgm1, hgm2, hgm3⟩ := ho4.block hnp
  subst hbm
  have HO4 := hide ho4
  have HB34 : Hid (Below w3.heap.size w3 w4) := (Below.refl _ w3).grown hg4 (Nat.le_refl _) (fun k hk => by cases hk)
  have HB4 := hide (below_two HB2.out HB34.out)
  have z1 := ho4.free (k * 3 + 1)
  have z2 := ho4.cellAt HQ.out
  unfold refsV at z2
  have hbg : ¬ b = gm := by omega
  have hgb : ¬ gm = b := by omega
  obtain ⟨y0, y1⟩ := HC.out w4 HB4.out
  clear ho4 hg4
  have HEACH : Hid (∀ p ∈ ps, IsI w p) := HA.out.each
  have HMQ := hide (List.mem_of_getElem? HQ.out)
  have HMI := hide (List.mem_of_getElem? HI.out)
  have HQN : Hid (q.2.1 = i.1 ∧ q.2.2.2 = i.2.2) := by rw [HQI.out]; exact ⟨rfl, rfl⟩
  have hwg : w.heap.size ≤ gm := by omega
  have hw34 : w.heap.size ≤ w4.heap.size := HB4.out.size
  by_cases hrn0 : rn = 0
  · have hrni : ((rn : Int) == 0) = true := by rw [hrn0]; rfl
    have HNE : Hid ([i.1] ≠ i.2.1) := fun e => by
      have := HRN.out
      rw [← e, hrn0] at this
      simp at this
    clear hrn0
    have HO5 := hide ((HO4.out.put HQ.out none 0 0 []).put (j := k) (p := putR q none 0 0 []) (by rw [List.getElem?_set, if_pos rfl, if_pos (List.getElem?_eq_some_iff.1 HQ.out).1]) (some ⟨w4.heap.size, 0, none⟩) 1 1 [i.1])
    rw [List.set_set, show putR (putR q none 0 0 []) (some ⟨w4.heap.size, 0, none⟩) 1 1 [i.1] = putR q (some ⟨w4.heap.size, 0, none⟩) 1 1 [i.1] from rfl] at HO5
    obtain ⟨V, hV⟩ : ∃ V, V = (w4.setCell ⟨gm, k * 3 + 1, none⟩ (.slice none 0 0)).setCell ⟨gm, k * 3 + 1, none⟩ (.slice (some ⟨w4.heap.size, 0, none⟩) 1 1) := ⟨_, rfl⟩
    rw [← hV] at HO5
    have hvs : V.heap.size = w4.heap.size := by rw [hV]; simp [World.setCell]
    have HBV : Hid (Below w.heap.size w (V.alloc (.cells #[.string i.1] 9))) := by
      rw [hV]
      exact hide (((HB4.out.setCell (p := ⟨gm, k * 3 + 1, none⟩) hwg _).setCell (p := ⟨gm, k * 3 + 1, none⟩) hwg _).alloc (by simp [World.setCell]; omega) _)
    have HARG : Hid (Arg (V.alloc (.cells #[.string i.1] 9)) (some ⟨w4.heap.size, 0, none⟩) 1 1 [i.1]) := by rw [← hvs]; exact hide (arg_one V i.1)
    have HS5 := hide (put_sls (HO5.out.below (below_box V (.cells #[.string i.1] 9))) HEACH.out HBV.out HMQ.out HARG.out)
    have HIT5 := hide HS5.out.its
    rw [its_put, HQN.out.1, HQN.out.2] at HIT5
    have HVV := hide hV.symm
    clear HO5 HARG HS5 hV hvs
    go_wp2_with fail
    rw [HVV.out]
    refine (validate_ok p _ _ 8 w (V.alloc (.cells #[.string i.1] 9)) ⟨HSH.out, HBV.out⟩ HIT5.out HPX.out (by rw [List.length_set, HNI.out]; unfold maxLen; omega) (fair_set HFAIR.out HMI.out (by simp) (fun x hx => by rw [List.mem_singleton.1 hx]; exact (HFAIR.out i HMI.out).name)) (val_more HVI.out.1 HVI.out.2 HI.out HNE.out)).mono ?_
    rintro e w6 ⟨rfl, ok6, _⟩
    clear HIT5 HBV HVV
    have HB6 := hide ok6.2
    clear ok6
    clear y0 y1 z1 z2 hrni HO4 HB34 HB4 HNE
    go_wp2_with fail
    have hA6 := HA.out.below HB6.out
    have hcap : n ≤ c := hA6.cap
    have hkc : (k : Int) ≤ (c : Int) := by omega
    have hkn2 : (k : Int) ≤ (n : Int) := by omega
    have hk1n : (k : Int) + 1 ≤ (n : Int) := by omega
    have hkw : IntKind.i64.wrap ((k : Int) + 1) = (k : Int) + 1 := wrapK (by omega)
    have hk1t : ((k : Int) + 1).toNat = k + 1 := by omega
    obtain ⟨ad7, had7, hA7⟩ : ∃ ad7 : Addr, ((c = k + 1 ∧ ad7 = ⟨b, o, none⟩) ∨ (¬ c = k + 1 ∧ ad7 = ⟨b, o + (k + 1) * 3, none⟩)) ∧ ArgS w6 (some ad7) (n - (k + 1)) (c - (k + 1)) (ps.drop (k + 1)) := by
      by_cases hck : c = k + 1
      · refine ⟨⟨b, o, none⟩, .inl ⟨hck, rfl⟩, ?_⟩
        have e : ps.drop (k + 1) = [] := List.drop_eq_nil_of_le (by rw [HN.out]; omega)
        rw [e, show n - (k + 1) = 0 by omega]
        exact ArgS.empty _ _ _
      · exact ⟨⟨b, o + (k + 1) * 3, none⟩, .inr ⟨hck, rfl⟩, hA6.drop (by omega)⟩
    have HAD := hide had7
    have HA7 := hide hA7
    have HAT := hide (hA6.take (k := k) (by omega))
    clear had7 hA7 hA6
    have hS0 : Below w6.heap.size w6 w6.drew := (Below.refl _ w6).drew
    refine wp_region_held (S := fun w' => Below w6.heap.size w6 w') (by kernel_rfl) ?_
    change wpAnyH _ _ _ _ _ _ _ _ (World.drew _)
    refine wpAnyH_take (i := 0) (v := (.slice (some ⟨b, o, none⟩) n c)) rfl (by kernel_rfl) (by kernel_rfl) (by kernel_rfl) (fun _ _ _ h => h) (Or.inl ⟨by kernel_rfl, ?_⟩) hS0 ?_
    · intro w' hw'
      go_simp
    refine wpAnyH_take (i := 1) (v := (.int .i64 k)) rfl (by kernel_rfl) (by kernel_rfl) (by kernel_rfl) (fun _ _ _ h => h) (Or.inl ⟨by kernel_rfl, ?_⟩) hS0 ?_
    · intro w' hw'
      go_simp
    refine wpAnyH_take (i := 2) (v := (.slice (some ⟨b, o, none⟩) k c)) rfl (by kernel_rfl) (by kernel_rfl) (by kernel_rfl) (fun _ _ _ h => h) (Or.inl ⟨by kernel_rfl, ?_⟩) hS0 ?_
    · intro w' hw'
      go_simp
    refine wpAnyH_take (i := 4) (v := (.slice (some ⟨b, o, none⟩) n c)) rfl (by kernel_rfl) (by kernel_rfl) (by kernel_rfl) (fun _ _ _ h => h) (Or.inl ⟨by kernel_rfl, ?_⟩) hS0 ?_
    · intro w' hw'
      go_simp
    refine wpAnyH_take (i := 5) (v := (.int .i64 k)) rfl (by kernel_rfl) (by kernel_rfl) (by kernel_rfl) (fun _ _ _ h => h) (Or.inl ⟨by kernel_rfl, ?_⟩) hS0 ?_
    · intro w' hw'
      go_simp
    refine wpAnyH_take (i := 6) (v := (.int .i64 ((k : Int) + 1))) rfl (by kernel_rfl) (by kernel_rfl) (by kernel_rfl) (fun _ _ _ h => h) (Or.inl ⟨by kernel_rfl, ?_⟩) hS0 ?_
    · intro w' hw'
      go_simp
    refine wpAnyH_take (i := 7) (v := (.slice (some ad7) (n - (k + 1)) (c - (k + 1)))) rfl (by kernel_rfl) (by kernel_rfl) (by kernel_rfl) (fun _ _ _ h => h) (Or.inl ⟨by kernel_rfl, ?_⟩) hS0 ?_
    · intro w' hw'
      rcases HAD.out with ⟨hc7, e7⟩ | ⟨hc7, e7⟩
      · subst e7
        subst hc7
        go_simp
        intro h9
        omega
      · subst e7
        have hc8 : ¬ (c : Int) = (k : Int) + 1 := by omega
        go_simp
        intro h9
        omega
    refine wpAnyH_ready (rs := [3]) (by kernel_rfl) (by simp) (AllReadyH.cons rfl (fun K hK => ?_) AllReadyH.nil)
    refine step_append_items rfl (.const (.slice none 0 0)) (.tmp 64) rfl w6.heap.size _ [] rfl (OwnS.nil _ _) ⟨b, o, none⟩ k c (ps.take k) (by first | (simp [Act.eval]; done) | simp [Act.eval, Act.put]) (HAT.out.below hS0) k (by rw [List.length_take, HN.out]; simp; omega) _ (List.nil_append _) (by omega) hS0.size ?_
    intro b7 c7 w7 ho7 hb7
    have hS7 : Below w6.heap.size w6 w7 := hS0.trans hb7
    refine hK.out _ _ hS7 (fun _ => ?_)
    clear hK K
    refine wpAnyH_ready (rs := [8]) (by kernel_rfl) (by simp) (AllReadyH.cons rfl (fun K hK => ?_) AllReadyH.nil)
    refine step_append_items rfl (.tmp 65) (.tmp 69) rfl w6.heap.size _ (ps.take k) (by first | (simp [Act.eval]; done) | simp [Act.eval, Act.put]) ho7 ad7 (n - (k + 1)) (c - (k + 1)) (ps.drop (k + 1)) (by first | (simp [Act.eval]; done) | simp [Act.eval, Act.put]) (HA7.out.below hS7) (n - 1) (by rw [List.length_take, List.length_drop, HN.out]; omega) _ rfl (by omega) hS7.size ?_
    intro b9 c9 w9 ho9 hb9
    have hS9 : Below w6.heap.size w6 w9 := hS7.trans hb9
    refine hK.out _ _ hS9 (fun _ => ?_)
    clear hK K
    refine wpAnyH_ready (rs := [9]) (by kernel_rfl) (by simp) (AllReadyH.cons rfl (fun K hK => ?_) AllReadyH.nil)
    go_simp
    refine hK.out _ _ hS9 (fun _ => ?_)
    clear hK K
    refine wpAnyH_done (by kernel_rfl) ?_ _
    have HO9 := hide ho9
    have HB9 := hide (below_two HB6.out hS9)
    have HE9 : Hid (∀ p ∈ ps.take k ++ ps.drop (k + 1), IsI w9 p) := fun p hp => (HEACH.out p (by
      rcases List.mem_append.1 hp with hp | hp
      · exact List.mem_of_mem_take hp
      · exact List.mem_of_mem_drop hp)).below HB9.out
    clear ho9 hb9 hb7 ho7 hS9 hS7 hS0 HAD HA7 HAT hkw hk1t hk1n hkn2 hkc
    obtain ⟨m, hm⟩ : ∃ m, n - 1 = m := ⟨_, rfl⟩
    rw [hm] at HO9 ⊢
    obtain ⟨LP, hLP⟩ : ∃ LP, ps.take k ++ ps.drop (k + 1) = LP := ⟨_, rfl⟩
    rw [hLP] at HO9 HE9
    have HLL : Hid (LP.length = m) := HO9.out.letters.symm
    obtain ⟨LI, hLI⟩ : ∃ LI, lessI (itsOf ps) k = LI := ⟨_, rfl⟩
    have HIL : Hid (itsOf LP = LI) := by rw [← hLP, its_less]; exact hLI
    have HSUB : Hid (∀ x ∈ LI, x ∈ itsOf ps) := by rw [← hLI]; exact hide (fun x hx => (less_sub (itsOf ps) k).subset hx)
    have HVL : Hid (valV p LI = if wantB LI i.1 = true then 8 else 0) := by rw [← hLI]; exact hide (val_less HVI.out.1 HVI.out.2 HI.out)
    have HLN : Hid (LI.length = m) := by rw [← HIL.out, its_len]; exact HLL
    have HS9 := hide (HO9.out.sls HE9.out)
    obtain ⟨av, cv, hv9, HAV⟩ := HO9.out.arg HE9.out
    obtain ⟨hv1, hv2, hv3⟩ : b9 = av ∧ m = LP.length ∧ c9 = cv := by simpa using hv9
    subst hv1
    subst hv3
    rw [HLL.out] at HAV
    have HAV := hide HAV
    have hm10 : m ≤ 10 := by omega
    clear hm hLP hLI hv9 hv2 hcap
    go_wp2
    go_loopw [9, 10] (fun v u wr => ∃ j : Nat, j ≤ m ∧ v = .bool (wantB (LI.take j) i.1) ∧ u = .int .i64 j ∧ Hid (Below w9.heap.size w9 wr)) (fun _ u _ => m - (intOf u).toNat)
    case atStart => exact ⟨0, Nat.zero_le _, rfl, rfl, Below.refl _ _⟩
    case round =>
      rename World => wr
      obtain ⟨j, hj, rfl, rfl, hbl⟩ := hrel
      have HBR := hide (below_two HB9.out hbl.out)
      by_cases hjm : j < m
      case pos =>
        obtain ⟨x, hx⟩ : ∃ x, LI[j]? = some x := ⟨LI[j]'(by have := HLN.out; omega), List.getElem?_eq_some_iff.2 ⟨_, rfl⟩⟩
        obtain ⟨bl, ol, rx, rnx, rcx, _, _, _, hbl9, hblw, _, x1, _, hrx, _⟩ := HAV.out.it (by rw [HIL.out]; exact hx)
        subst hbl9
        have hji : (j : Int) < (m : Int) := by omega
        have HST := hide (want_step hx i.1)
        have hxl : x.2.1.length ≤ 12 := (bigI_not ((greatI_not HG.out).2 x (HSUB.out x (List.mem_of_getElem? hx)))).2.1
        have hblr : bl < wr.heap.size := Nat.lt_of_lt_of_le hblw hbl.out.size
        have hbr : b < wr.heap.size := Nat.lt_of_lt_of_le hbw HBR.out.size
        have hx1 := (hbl.out.cell (p := ⟨bl, ol + j * 3 + 1, none⟩) hblw).trans x1
        have hi1 := (HC.out wr HBR.out).1
        have HRX := hide (hrx.below hbl.out)
        clear hx x1 hrx
        cases hcur : wantB (LI.take j) i.1 with
        | true =>
          have HC2 : Hid (wantB (LI.take (j + 1)) i.1 = true) := by rw [HST.out, hcur, Bool.true_or]; exact hide rfl
          clear hcur
          go_wp2
          go_quiet (fail)
          go_wp2
          go_roundw
          case rel => exact ⟨j + 1, by omega, by rw [HC2.out], by go_num, hide (below_two hbl.out (below_drewN (Below.refl _ _) nq))⟩
          case measure => simp [intOf]; omega
        | false =>
          obtain ⟨z, hz⟩ : ∃ z, hasB x.2.1 i.1 = z := ⟨_, rfl⟩
          have HC2 : Hid (wantB (LI.take (j + 1)) i.1 = z) := by rw [HST.out, hcur, Bool.false_or]; exact hide hz
          have f1 : ∀ p : Later wr, p.w1.cell? ⟨bl, ol + j * 3 + 1, none⟩ = some (.slice rx rnx rcx) := fun p => p.cell hblr hx1
          have f2 : ∀ p : Later wr, p.w1.cell? ⟨b, o + k * 3, none⟩ = some (.string i.1) := fun p => p.cell hbr hi1
          have HC1 : Hid (∀ p : Later wr, Calls Tryd.prog 19 #[.slice rx rnx rcx, .string i.1] p.w1 fun e w' => e = .returned (.bool z) ∧ Below p.w1.heap.size p.w1 w') := fun p =>
            (has9_ok _ x.2.1 i.1 z p.w1 (HRX.out.txt.below p.below) (by omega) hz).mono fun e w' ⟨q1, q2⟩ => ⟨q1, by rw [q2]; exact Below.refl _ _⟩
          have hne2 := later_one wr
          clear hcur hz
          go_wp2
          refine wp_region_later (by kernel_rfl) (by kernel_rfl) ?_
          repeat (first
            | go_big_quiet_step ((go_at_call 19; exact Calls.later_of (HC1.out _)))
            | quiet_step ((go_at_call 19; exact Calls.later_of (HC1.out _))))
          refine wpQuiet_nil ?_
          intro W5 hw'
          have HB5 := hide (below_two hbl.out (later_below hw'))
          clear hw' f1 f2 HC1 hne2
          go_wp2
          go_roundw
          case rel => exact ⟨j + 1, by omega, by rw [HC2.out], by go_num, HB5⟩
          case measure => simp [intOf]; omega
      case neg =>
        have hjd : decide (j < m) = false := by rw [decide_eq_false_iff_not]; exact hjm
        obtain rfl : j = m := by omega
        obtain ⟨z, hz⟩ : ∃ z, wantB (LI.take j) i.1 = z := ⟨_, rfl⟩
        have HW9 : Hid (wantB LI i.1 = z) := by rw [← hz, List.take_of_length_le (by rw [HLN.out]; exact Nat.le_refl _)]; exact hide rfl
        rw [hz]
        have HITL : Hid (Its wr (.slice b9 j c9) LI) := by rw [← HIL.out]; exact hide (HS9.out.below hbl.out).its
        clear hz hjm hj
        cases z with
        | true =>
          go_wp2_with fail
          refine (validate_ok p _ LI 8 w wr ⟨HSH.out, HBR.out⟩ HITL.out HPX.out (by rw [HLN.out]; unfold maxLen; omega) (fun x hx => HFAIR.out x (HSUB.out x hx)) (by rw [HVL.out, HW9.out]; rfl)).mono ?_
          rintro e wz ⟨rfl, okz, _⟩
          go_wp2_with fail
          refine (awake9_ok w wz okz).mono ?_
          rintro e wy ⟨rfl, oky, _⟩
          go_wp2
          go_ret
          exact ⟨rfl, oky.2⟩
        | false =>
          go_wp2_with fail
          refine (validate_ok p _ LI 0 w wr ⟨HSH.out, HBR.out⟩ HITL.out HPX.out (by rw [HLN.out]; unfold maxLen; omega) (fun x hx => HFAIR.out x (HSUB.out x hx)) (by rw [HVL.out, HW9.out]; rfl)).mono ?_
          rintro e wz ⟨rfl, okz, _⟩
          go_wp2_with fail
          refine (awake9_ok w wz okz).mono ?_
          rintro e wy ⟨rfl, oky, _⟩
          go_wp2
          go_ret
          exact ⟨rfl, oky.2⟩
  · have hrni : ((rn : Int) == 0) = false := by rw [beq_eq_false_iff_ne]; omega
    have HNE : Hid ([] ≠ i.2.1) := fun e => by
      have := HRN.out
      rw [← e] at this
      simp at this
      omega
    clear hrn0
    have HO5 := hide (HO4.out.put HQ.out none 0 0 [])
    have HBV : Hid (Below w.heap.size w (w4.setCell ⟨gm, k * 3 + 1, none⟩ (.slice none 0 0))) := hide (HB4.out.setCell (p := ⟨gm, k * 3 + 1, none⟩) hwg _)
    have HS5 := hide (put_sls HO5.out HEACH.out HBV.out HMQ.out ⟨rfl, fun _ => ⟨rfl, rfl⟩, Nat.le_refl _, fun ad e => by cases e⟩)
    have HIT5 := hide HS5.out.its
    rw [its_put, HQN.out.1, HQN.out.2] at HIT5
    clear HO5 HS5
    go_wp2_with fail
    refine (validate_ok p _ _ 8 w _ ⟨HSH.out, HBV.out⟩ HIT5.out HPX.out (by rw [List.length_set, HNI.out]; unfold maxLen; omega) (fair_set HFAIR.out HMI.out (by simp) (fun x hx => absurd hx (by simp))) (val_more HVI.out.1 HVI.out.2 HI.out HNE.out)).mono ?_
    rintro e w6 ⟨rfl, ok6, _⟩
    clear HIT5 HBV
    have HB6 := hide ok6.2
    clear ok6
    clear y0 y1 z1 z2 hrni HO4 HB34 HB4 HNE
    go_wp2_with fail
    have hA6 := HA.out.below HB6.out
    have hcap : n ≤ c := hA6.cap
    have hkc : (k : Int) ≤ (c : Int) := by omega
    have hkn2 : (k : Int) ≤ (n : Int) := by omega
    have hk1n : (k : Int) + 1 ≤ (n : Int) := by omega
    have hkw : IntKind.i64.wrap ((k : Int) + 1) = (k : Int) + 1 := wrapK (by omega)
    have hk1t : ((k : Int) + 1).toNat = k + 1 := by omega
    obtain ⟨ad7, had7, hA7⟩ : ∃ ad7 : Addr, ((c = k + 1 ∧ ad7 = ⟨b, o, none⟩) ∨ (¬ c = k + 1 ∧ ad7 = ⟨b, o + (k + 1) * 3, none⟩)) ∧ ArgS w6 (some ad7) (n - (k + 1)) (c - (k + 1)) (ps.drop (k + 1)) := by
      by_cases hck : c = k + 1
      · refine ⟨⟨b, o, none⟩, .inl ⟨hck, rfl⟩, ?_⟩
        have e : ps.drop (k + 1) = [] := List.drop_eq_nil_of_le (by rw [HN.out]; omega)
        rw [e, show n - (k + 1) = 0 by omega]
        exact ArgS.empty _ _ _
      · exact ⟨⟨b, o + (k + 1) * 3, none⟩, .inr ⟨hck, rfl⟩, hA6.drop (by omega)⟩
    have HAD := hide had7
    have HA7 := hide hA7
    have HAT := hide (hA6.take (k := k) (by omega))
    clear had7 hA7 hA6
    have hS0 : Below w6.heap.size w6 w6.drew := (Below.refl _ w6).drew
    refine wp_region_held (S := fun w' => Below w6.heap.size w6 w') (by kernel_rfl) ?_
    change wpAnyH _ _ _ _ _ _ _ _ (World.drew _)
    refine wpAnyH_take (i := 0) (v := (.slice (some ⟨b, o, none⟩) n c)) rfl (by kernel_rfl) (by kernel_rfl) (by kernel_rfl) (fun _ _ _ h => h) (Or.inl ⟨by kernel_rfl, ?_⟩) hS0 ?_
    · intro w' hw'
      go_simp
    refine wpAnyH_take (i := 1) (v := (.int .i64 k)) rfl (by kernel_rfl) (by kernel_rfl) (by kernel_rfl) (fun _ _ _ h => h) (Or.inl ⟨by kernel_rfl, ?_⟩) hS0 ?_
    · intro w' hw'
      go_simp
    refine wpAnyH_take (i := 2) (v := (.slice (some ⟨b, o, none⟩) k c)) rfl (by kernel_rfl) (by kernel_rfl) (by kernel_rfl) (fun _ _ _ h => h) (Or.inl ⟨by kernel_rfl, ?_⟩) hS0 ?_
    · intro w' hw'
      go_simp
    refine wpAnyH_take (i := 4) (v := (.slice (some ⟨b, o, none⟩) n c)) rfl (by kernel_rfl) (by kernel_rfl) (by kernel_rfl) (fun _ _ _ h => h) (Or.inl ⟨by kernel_rfl, ?_⟩) hS0 ?_
    · intro w' hw'
      go_simp
    refine wpAnyH_take (i := 5) (v := (.int .i64 k)) rfl (by kernel_rfl) (by kernel_rfl) (by kernel_rfl) (fun _ _ _ h => h) (Or.inl ⟨by kernel_rfl, ?_⟩) hS0 ?_
    · intro w' hw'
      go_simp
    refine wpAnyH_take (i := 6) (v := (.int .i64 ((k : Int) + 1))) rfl (by kernel_rfl) (by kernel_rfl) (by kernel_rfl) (fun _ _ _ h => h) (Or.inl ⟨by kernel_rfl, ?_⟩) hS0 ?_
    · intro w' hw'
      go_simp
    refine wpAnyH_take (i := 7) (v := (.slice (some ad7) (n - (k + 1)) (c - (k + 1)))) rfl (by kernel_rfl) (by kernel_rfl) (by kernel_rfl) (fun _ _ _ h => h) (Or.inl ⟨by kernel_rfl, ?_⟩) hS0 ?_
    · intro w' hw'
      rcases HAD.out with ⟨hc7, e7⟩ | ⟨hc7, e7⟩
      · subst e7
        subst hc7
        go_simp
        intro h9
        omega
      · subst e7
        have hc8 : ¬ (c : Int) = (k : Int) + 1 := by omega
        go_simp
        intro h9
        omega
    refine wpAnyH_ready (rs := [3]) (by kernel_rfl) (by simp) (AllReadyH.cons rfl (fun K hK => ?_) AllReadyH.nil)
    refine step_append_items rfl (.const (.slice none 0 0)) (.tmp 64) rfl w6.heap.size _ [] rfl (OwnS.nil _ _) ⟨b, o, none⟩ k c (ps.take k) (by first | (simp [Act.eval]; done) | simp [Act.eval, Act.put]) (HAT.out.below hS0) k (by rw [List.length_take, HN.out]; simp; omega) _ (List.nil_append _) (by omega) hS0.size ?_
    intro b7 c7 w7 ho7 hb7
    have hS7 : Below w6.heap.size w6 w7 := hS0.trans hb7
    refine hK.out _ _ hS7 (fun _ => ?_)
    clear hK K
    refine wpAnyH_ready (rs := [8]) (by kernel_rfl) (by simp) (AllReadyH.cons rfl (fun K hK => ?_) AllReadyH.nil)
    refine step_append_items rfl (.tmp 65) (.tmp 69) rfl w6.heap.size _ (ps.take k) (by first | (simp [Act.eval]; done) | simp [Act.eval, Act.put]) ho7 ad7 (n - (k + 1)) (c - (k + 1)) (ps.drop (k + 1)) (by first | (simp [Act.eval]; done) | simp [Act.eval, Act.put]) (HA7.out.below hS7) (n - 1) (by rw [List.length_take, List.length_drop, HN.out]; omega) _ rfl (by omega) hS7.size ?_
    intro b9 c9 w9 ho9 hb9
    have hS9 : Below w6.heap.size w6 w9 := hS7.trans hb9
    refine hK.out _ _ hS9 (fun _ => ?_)
    clear hK K
    refine wpAnyH_ready (rs := [9]) (by kernel_rfl) (by simp) (AllReadyH.cons rfl (fun K hK => ?_) AllReadyH.nil)
    go_simp
    refine hK.out _ _ hS9 (fun _ => ?_)
    clear hK K
    refine wpAnyH_done (by kernel_rfl) ?_ _
    have HO9 := hide ho9
    have HB9 := hide (below_two HB6.out hS9)
    have HE9 : Hid (∀ p ∈ ps.take k ++ ps.drop (k + 1), IsI w9 p) := fun p hp => (HEACH.out p (by
      rcases List.mem_append.1 hp with hp | hp
      · exact List.mem_of_mem_take hp
      · exact List.mem_of_mem_drop hp)).below HB9.out
    clear ho9 hb9 hb7 ho7 hS9 hS7 hS0 HAD HA7 HAT hkw hk1t hk1n hkn2 hkc
    obtain ⟨m, hm⟩ : ∃ m, n - 1 = m := ⟨_, rfl⟩
    rw [hm] at HO9 ⊢
    obtain ⟨LP, hLP⟩ : ∃ LP, ps.take k ++ ps.drop (k + 1) = LP := ⟨_, rfl⟩
    rw [hLP] at HO9 HE9
    have HLL : Hid (LP.length = m) := HO9.out.letters.symm
    obtain ⟨LI, hLI⟩ : ∃ LI, lessI (itsOf ps) k = LI := ⟨_, rfl⟩
    have HIL : Hid (itsOf LP = LI) := by rw [← hLP, its_less]; exact hLI
    have HSUB : Hid (∀ x ∈ LI, x ∈ itsOf ps) := by rw [← hLI]; exact hide (fun x hx => (less_sub (itsOf ps) k).subset hx)
    have HVL : Hid (valV p LI = if wantB LI i.1 = true then 8 else 0) := by rw [← hLI]; exact hide (val_less HVI.out.1 HVI.out.2 HI.out)
    have HLN : Hid (LI.length = m) := by rw [← HIL.out, its_len]; exact HLL
    have HS9 := hide (HO9.out.sls HE9.out)
    obtain ⟨av, cv, hv9, HAV⟩ := HO9.out.arg HE9.out
    obtain ⟨hv1, hv2, hv3⟩ : b9 = av ∧ m = LP.length ∧ c9 = cv := by simpa using hv9
    subst hv1
    subst hv3
    rw [HLL.out] at HAV
    have HAV := hide HAV
    have hm10 : m ≤ 10 := by omega
    clear hm hLP hLI hv9 hv2 hcap
    go_wp2
    go_loopw [9, 10] (fun v u wr => ∃ j : Nat, j ≤ m ∧ v = .bool (wantB (LI.take j) i.1) ∧ u = .int .i64 j ∧ Hid (Below w9.heap.size w9 wr)) (fun _ u _ => m - (intOf u).toNat)
    case atStart => exact ⟨0, Nat.zero_le _, rfl, rfl, Below.refl _ _⟩
    case round =>
      rename World => wr
      obtain ⟨j, hj, rfl, rfl, hbl⟩ := hrel
      have HBR := hide (below_two HB9.out hbl.out)
      by_cases hjm : j < m
      case pos =>
        obtain ⟨x, hx⟩ : ∃ x, LI[j]? = some x := ⟨LI[j]'(by have := HLN.out; omega), List.getElem?_eq_some_iff.2 ⟨_, rfl⟩⟩
        obtain ⟨bl, ol, rx, rnx, rcx, _, _, _, hbl9, hblw, _, x1, _, hrx, _⟩ := HAV.out.it (by rw [HIL.out]; exact hx)
        subst hbl9
        have hji : (j : Int) < (m : Int) := by omega
        have HST := hide (want_step hx i.1)
        have hxl : x.2.1.length ≤ 12 := (bigI_not ((greatI_not HG.out).2 x (HSUB.out x (List.mem_of_getElem? hx)))).2.1
        have hblr : bl < wr.heap.size := Nat.lt_of_lt_of_le hblw hbl.out.size
        have hbr : b < wr.heap.size := Nat.lt_of_lt_of_le hbw HBR.out.size
        have hx1 := (hbl.out.cell (p := ⟨bl, ol + j * 3 + 1, none⟩) hblw).trans x1
        have hi1 := (HC.out wr HBR.out).1
        have HRX := hide (hrx.below hbl.out)
        clear hx x1 hrx
        cases hcur : wantB (LI.take j) i.1 with
        | true =>
          have HC2 : Hid (wantB (LI.take (j + 1)) i.1 = true) := by rw [HST.out, hcur, Bool.true_or]; exact hide rfl
          clear hcur
          go_wp2
          go_quiet (fail)
          go_wp2
          go_roundw
          case rel => exact ⟨j + 1, by omega, by rw [HC2.out], by go_num, hide (below_two hbl.out (below_drewN (Below.refl _ _) nq))⟩
          case measure => simp [intOf]; omega
        | false =>
          obtain ⟨z, hz⟩ : ∃ z, hasB x.2.1 i.1 = z := ⟨_, rfl⟩
          have HC2 : Hid (wantB (LI.take (j + 1)) i.1 = z) := by rw [HST.out, hcur, Bool.false_or]; exact hide hz
          have f1 : ∀ p : Later wr, p.w1.cell? ⟨bl, ol + j * 3 + 1, none⟩ = some (.slice rx rnx rcx) := fun p => p.cell hblr hx1
          have f2 : ∀ p : Later wr, p.w1.cell? ⟨b, o + k * 3, none⟩ = some (.string i.1) := fun p => p.cell hbr hi1
          have HC1 : Hid (∀ p : Later wr, Calls Tryd.prog 19 #[.slice rx rnx rcx, .string i.1] p.w1 fun e w' => e = .returned (.bool z) ∧ Below p.w1.heap.size p.w1 w') := fun p =>
            (has9_ok _ x.2.1 i.1 z p.w1 (HRX.out.txt.below p.below) (by omega) hz).mono fun e w' ⟨q1, q2⟩ => ⟨q1, by rw [q2]; exact Below.refl _ _⟩
          have hne2 := later_one wr
          clear hcur hz
          go_wp2
          refine wp_region_later (by kernel_rfl) (by kernel_rfl) ?_
          repeat (first
            | go_big_quiet_step ((go_at_call 19; exact Calls.later_of (HC1.out _)))
            | quiet_step ((go_at_call 19; exact Calls.later_of (HC1.out _))))
          refine wpQuiet_nil ?_
          intro W5 hw'
          have HB5 := hide (below_two hbl.out (later_below hw'))
          clear hw' f1 f2 HC1 hne2
          go_wp2
          go_roundw
          case rel => exact ⟨j + 1, by omega, by rw [HC2.out], by go_num, HB5⟩
          case measure => simp [intOf]; omega
      case neg =>
        have hjd : decide (j < m) = false := by rw [decide_eq_false_iff_not]; exact hjm
        obtain rfl : j = m := by omega
        obtain ⟨z, hz⟩ : ∃ z, wantB (LI.take j) i.1 = z := ⟨_, rfl⟩
        have HW9 : Hid (wantB LI i.1 = z) := by rw [← hz, List.take_of_length_le (by rw [HLN.out]; exact Nat.le_refl _)]; exact hide rfl
        rw [hz]
        have HITL : Hid (Its wr (.slice b9 j c9) LI) := by rw [← HIL.out]; exact hide (HS9.out.below hbl.out).its
        clear hz hjm hj
        cases z with
        | true =>
          go_wp2_with fail
          refine (validate_ok p _ LI 8 w wr ⟨HSH.out, HBR.out⟩ HITL.out HPX.out (by rw [HLN.out]; unfold maxLen; omega) (fun x hx => HFAIR.out x (HSUB.out x hx)) (by rw [HVL.out, HW9.out]; rfl)).mono ?_
          rintro e wz ⟨rfl, okz, _⟩
          go_wp2_with fail
          refine (awake9_ok w wz okz).mono ?_
          rintro e wy ⟨rfl, oky, _⟩
          go_wp2
          go_ret
          exact ⟨rfl, oky.2⟩
        | false =>
          go_wp2_with fail
          refine (validate_ok p _ LI 0 w wr ⟨HSH.out, HBR.out⟩ HITL.out HPX.out (by rw [HLN.out]; unfold maxLen; omega) (fun x hx => HFAIR.out x (HSUB.out x hx)) (by rw [HVL.out, HW9.out]; rfl)).mono ?_
          rintro e wz ⟨rfl, okz, _⟩
          go_wp2_with fail
          refine (awake9_ok w wz okz).mono ?_
          rintro e wy ⟨rfl, oky, _⟩
          go_wp2
          go_ret
          exact ⟨rfl, oky.2⟩
end Go.Proofs.YtinjbijigjfdfaaDoor
