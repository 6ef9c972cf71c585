/- The walk of the statement FindLists: for every nodes and every number it answers true. -/
import Derived.Test.YtomomeckgiiapaaDoorD1
import Derived.Deep.RegionHeld
namespace Go.Proofs.YtomomeckgiiapaaDoor
open Go.RowKit

set_option maxHeartbeats 400000 in
theorem lists_great (ao : Option Addr) (n c : Nat) (ns : List Nd) (k : Int) (w : World) (hsh : w.ShapedOpen Tryd.prog) (h : ArgN w ao n c ns) (hm : n ≤ maxLen) (hg : greatN 60 ns = true) :
    Calls Tryd.prog 5 #[.slice ao n c, .int .i64 k] w fun e w' => e = .returned (.bool true) ∧ Below w.heap.size w w' := by
  have HA := hide h
  have HG := hide hg
  have HL := hide h.len
  clear h hg
  go_enter Tryd.func5, Tryd.ntmps5
  go_wp2_with fail
  refine (greatN_ok _ 60 ns true w HA.out.nods (by rw [HL.out]; exact hm) (by decide) (by decide) HG.out).mono ?_
  rintro e w1 ⟨rfl, rfl⟩
  go_wp2_with fail
  refine (awake3_ok _ _ (Ok.start hsh)).mono ?_
  rintro e w2 ⟨rfl, ok2, _⟩
  go_wp2_with fail
  go_ret
  exact ⟨rfl, ok2.2⟩
set_option maxHeartbeats 400000 in
theorem lists_none (ao : Option Addr) (n c : Nat) (ns : List Nd) (k : Int) (w : World) (hsh : w.ShapedOpen Tryd.prog) (h : ArgN w ao n c ns) (hg : greatN 60 ns = false) (hy : mayN ns = false) :
    Calls Tryd.prog 5 #[.slice ao n c, .int .i64 k] w fun e w' => e = .returned (.bool true) ∧ Below w.heap.size w w' := by
  have HA := hide h
  have HG := hide hg
  have HL := hide h.len
  have HY := hide hy
  have hn60 : n ≤ 60 := by have := (greatN_not hg).1; rw [h.len] at this; omega
  have HSM := hide (greatN_not hg).2
  clear h hg hy
  go_enter Tryd.func5, Tryd.ntmps5
  go_wp2_with fail
  refine (greatN_ok _ 60 ns false w HA.out.nods (by rw [HL.out]; unfold maxLen; omega) (by decide) (by decide) HG.out).mono ?_
  rintro e w1 ⟨rfl, rfl⟩
  go_wp2_with fail
  refine (mayT_ok _ ns false _ _ (Ok.start hsh) (fun z hz => by have := (HSM.out z hz).1; omega) HA.out.nods (by rw [HL.out]; omega) HY.out).mono ?_
  rintro e w2 ⟨rfl, ok2, _⟩
  go_wp2_with fail
  refine (awake3_ok _ _ ok2).mono ?_
  rintro e w3 ⟨rfl, ok3, _⟩
  go_wp2_with fail
  go_ret
  exact ⟨rfl, ok3.2⟩


/-- How many stand in a directory, counted from the second node on. -/
theorem count_step {t : List Nd} (h : Tree t) {i : Nat} {n : Nd} {d : List UInt8} (hi : 0 < i) (hn : t[i]? = some n) : inDir d n = decide (Hog.parentL (key n) = d) := by
  have hne : key n ≠ [] := by
    have hl := (List.getElem?_eq_some_iff.1 hn).1
    have h0 : t[0]? = some t[0] := List.getElem?_eq_getElem (by omega)
    have := h.rise 0 i _ n hi h0 hn
    intro e
    unfold ltN at this
    rw [show n.1.data.toList = [] from e, Hog.less_nil] at this
    cases this
  unfold inDir
  rw [Hog.parent_ok (h.may (List.mem_of_getElem? hn)) hne, Bool.true_and]
theorem count_first {t : List Nd} (h : Tree t) (d : List UInt8) : (names (t.take 1) d).length = 0 := by
  obtain ⟨r, hr, hr0⟩ := h.root
  obtain ⟨j, hj⟩ := List.mem_iff_getElem?.1 hr
  have hj0 : j = 0 := by
    cases j with
    | zero => rfl
    | succ j =>
      have hl := (List.getElem?_eq_some_iff.1 hj).1
      have h0 : t[0]? = some t[0] := List.getElem?_eq_getElem (by omega)
      have := h.rise 0 (j + 1) _ r (by omega) h0 hj
      unfold ltN at this
      rw [show r.1.data.toList = [] from hr0, Hog.less_nil] at this
      cases this
  subst hj0
  have e : inDir d r = false := by
    unfold inDir Hog.parentOk
    rw [hr0]; rfl
  rw [names_step hj, if_neg (by rw [e]; decide), List.append_nil, List.take_zero]
  rfl

theorem names_get {t : List Nd} {d : List UInt8} {i : Nat} {e : List UInt8} (he : (names t d)[i]? = some e) :
    ∃ y ∈ t, joinV (Hog.cutC d ++ [e]) = key y ∧ Hog.joinOk (Hog.cutC d ++ [e]) = true ∧ e.length ≤ 60 := by
  unfold names at he
  rw [List.getElem?_map] at he
  cases hy : (t.filter (inDir d))[i]? with
  | none => rw [hy] at he; cases he
  | some y =>
    rw [hy] at he
    obtain rfl : Hog.baseL (key y) = e := by simpa using he
    have hm := List.mem_filter.1 (List.mem_of_getElem? hy)
    obtain ⟨i1, i2, i3⟩ := inDir_iff.1 hm.2
    have hc := Hog.parent_cut i2 i1
    rw [i3] at hc
    rw [← hc]
    have hj := Hog.joinOk_cut i2
    refine ⟨y, hm.1, ?_, hj, (Hog.part_parts (Hog.base_part i2 i1)).2.1⟩
    unfold joinV
    rw [if_pos hj]
    exact Hog.join_cutC _
theorem names_less {t : List Nd} (h : Tree t) {d : List UInt8} {i : Nat} {e f : List UInt8} (he : (names t d)[i]? = some e) (hf : (names t d)[i + 1]? = some f) : Op.bytesLess e f = true := by
  have := List.pairwise_iff_getElem.1 (names_rise h.rise d)
  obtain ⟨h1, rfl⟩ := List.getElem?_eq_some_iff.1 he
  obtain ⟨h2, rfl⟩ := List.getElem?_eq_some_iff.1 hf
  exact this i (i + 1) h1 h2 (by omega)

theorem one_cell (w : World) (x : ByteArray) : (w.alloc (.cells #[.string x] 9)).cell? ⟨w.heap.size, 0, none⟩ = some (.string x) := by simp
theorem step_append_texts {ops : Array Oper} {o : Oper} {a : Act} {w : World} {K : Act → World → Prop} {Q : Exit → Act → World → Prop} {E : Prop} (hgd : o.guard = none) (s x : Operand)
    (ho : o.op = .call { callee := .builtin .append, args := #[s, x], argTypes := #[30, 30] })
    (base : Nat) (v : Value) (xs : List ByteArray) (hs : a.eval s = v) (hown : Own base w v xs) (g c : Nat) (y : ByteArray) (hx : a.eval x = .slice (some ⟨g, 0, none⟩) 1 c) (hu : w.cell? ⟨g, 0, none⟩ = some (.string y))
    (hlen : xs.length + 1 < 1000000) (hbase : base ≤ w.heap.size)
    (h : ∀ b c w', Own base w' (.slice b (xs.length + 1) c) (xs ++ [y]) → Below base w w' → K (a.put o.dst (.slice b (xs.length + 1) c)) w') :
    if Region.wanted o (yielded ops a.tmps) = true then Oper.wp Tryd.prog o a w K Q else E := by
  have hw : Region.wanted o (yielded ops a.tmps) = true := by simp [Region.wanted, hgd]
  rw [if_pos hw]
  obtain ⟨i0, hi, hz0, hz1, hz2⟩ := info_parts A9
  obtain ⟨v', w', hr, h2, h3, _⟩ := run_append_own (P := Tryd.prog) w base 30 o.type 9 i0 (.string ByteArray.empty) 1 16 Tryd.underlying30 hi hz0 hz1 hz2 rfl (by decide) v xs.length (xs.map Value.string) hown ⟨g, 0, none⟩ 1 c [.string y] (by simp) (by
    intro j u hj
    match j, hj with
    | 0, hj => simp at hj; subst hj; exact hu
    | j + 1, hj => simp at hj) (by intro u hu; simp at hu; subst hu; rfl) (by unfold maxLen; omega) (by omega) hbase
  have h5 : Own base w' v' (xs ++ [y]) := Own.joined h2
  obtain ⟨b, c', e⟩ := h5.form
  rw [List.length_append] at e
  subst e
  unfold Oper.wp
  simp [execOp, ho, resolve, invoke, builtin, hs, hx, hr, Result.andThen]
  exact h b c' w' h5 (hown.grownBelow h3 hbase)

set_option maxRecDepth 100000 in
set_option maxHeartbeats 4000000 in
theorem lists_main (b o n c : Nat) (ns : List Nd) (k : Int) (w : World) (hsh : w.ShapedOpen Tryd.prog) (h : ArgN w (some ⟨b, o, none⟩) n c ns) (hrun : Run w b o ns) (hg : greatN 60 ns = false) (hy : mayN ns = true) :
    Calls Tryd.prog 5 #[.slice (some ⟨b, o, none⟩) n c, .int .i64 k] w fun e w' => e = .returned (.bool true) ∧ Below w.heap.size w w' := by
  have HA := hide h
  have HRN := hide hrun
  have HG := hide hg
  have HL := hide h.len
  have hnc := h.cap
  have HT := hide (may_tree hy)
  have HMAY := hide hy
  have hn60 : n ≤ 60 := by have := (greatN_not hg).1; rw [h.len] at this; omega
  have hn0 : 0 < n := by rw [← h.len]; exact List.length_pos_iff.2 (mayF_iff.1 hy).1
  clear h hg hy hrun
  go_enter Tryd.func5, Tryd.ntmps5
  go_wp2_with fail
  refine (greatN_ok _ 60 ns false w HA.out.nods (by rw [HL.out]; unfold maxLen; omega) (by decide) (by decide) HG.out).mono ?_
  rintro e w1 ⟨rfl, hw1⟩
  have hw2 := hw1.symm
  clear hw1
  subst hw2
  go_wp2_with fail
  refine (mayT_ok _ ns true _ _ (Ok.start hsh) HT.out.small HA.out.nods (by rw [HL.out]; omega) HMAY.out).mono ?_
  rintro e w2 ⟨rfl, ok2, _⟩
  have HB2 := hide ok2.2
  go_wp2_with fail
  refine (low_any k n w2 (by omega) (by omega)).mono ?_
  rintro e w3 ⟨r, rfl, hr, rfl⟩
  have hrn : r < n := by omega
  obtain ⟨x, hx⟩ : ∃ x, ns[r]? = some x := ⟨ns[r]'(by have := HL.out; omega), List.getElem?_eq_some_iff.2 ⟨_, rfl⟩⟩
  have hxm := List.mem_of_getElem? hx
  have HXM := hide hxm
  have HX := hide hx
  obtain ⟨g1, g2, g3⟩ := (HRN.out.2 r x hx).below HB2.out HRN.out.1
  have hxs := HT.out.small x hxm
  obtain ⟨f, hf⟩ : ∃ f, listB ns x.1 = f := ⟨_, rfl⟩
  obtain ⟨q, hq⟩ : ∃ q, listL ns x.1 = q := ⟨_, rfl⟩
  have HF := hide hf
  have HQ := hide hq
  have hrn' : (r : Int) < (n : Int) := by omega
  clear hx hr hxm hf hq
  go_wp2_with fail
  refine (list_on b o c n ns x.1 q f w w3 ok2 HT.out (HRN.out.below HB2.out HRN.out.1) HL.out hnc (by omega) HF.out HQ.out).mono ?_
  rintro e w4 ⟨a4, c4, rfl, ho4, ok4, hb4⟩
  have HB4 := hide ok4.2
  have HO4 := hide ho4
  clear ho4 hb4 g1 g2 g3 HB2 ok2
  obtain ⟨g1, g2, g3⟩ := (HRN.out.2 r x HX.out).below HB4.out HRN.out.1
  have hfx : f = decide (x.2.1 = 1) := by rw [← HF.out, listB_of HT.out HXM.out]
  have hqx : q = if x.2.1 = 1 then names ns (key x) else [] := by rw [← HQ.out, listL_of HT.out HXM.out]
  by_cases hk : x.2.1 = 1
  · rw [hk] at g2
    rw [decide_eq_true hk] at hfx
    rw [if_pos hk] at hqx
    have HQX := hide hqx
    subst hfx
    clear hqx
    go_wp2
    go_loopw [7, 8, 9, 10] (fun v i _ _ wr => ∃ (m i' : Nat), i' ≤ n ∧ 0 < i' ∧ m ≤ i' ∧ i = .int .i64 i' ∧ v = .int .i64 m ∧ Hid (m = (names (ns.take i') (key x)).length) ∧ Hid (Ok w wr) ∧ Hid (Below w4.heap.size w4 wr)) (fun _ i _ _ _ => n - (intOf i).toNat)
    case atStart => exact ⟨0, 1, by omega, by omega, by omega, rfl, rfl, hide (count_first HT.out _).symm, hide ok4, Below.refl _ _⟩
    case round =>
      obtain ⟨m, i, hi, hi0, hmi, rfl, rfl, HM, OKR, HBR⟩ := hrel
      by_cases hlt : i < n
      · obtain ⟨y, hy⟩ : ∃ y, ns[i]? = some y := ⟨ns[i]'(by have := HL.out; omega), List.getElem?_eq_some_iff.2 ⟨_, rfl⟩⟩
        have hlt' : (i : Int) < (n : Int) := by omega
        obtain ⟨y1, y2, y3⟩ := (HRN.out.2 i y hy).below OKR.out.2 HRN.out.1
        have hys := HT.out.small y (List.mem_of_getElem? hy)
        have HC := hide (count_step HT.out (d := key x) hi0 hy)
        have HST := hide (names_step (d := key x) hy)
        clear hy
        obtain ⟨up, hup⟩ : ∃ up, Hog.parentL y.1.data.toList = up := ⟨_, rfl⟩
        obtain ⟨pb, hpb⟩ : ∃ pb, Hog.parentOk y.1.data.toList = pb := ⟨_, rfl⟩
        have HUP := hide hup
        have HPB := hide hpb
        clear hup hpb
        go_wp2_with fail
        refine (parent_ok y.1 up pb w _ OKR.out hys HUP.out HPB.out).mono ?_
        rintro e w5 ⟨rfl, ok5, hb5⟩
        have HB5 := hide (below_two HBR.out hb5)
        have OK5 := hide ok5
        have x1 := ((HRN.out.2 r x HX.out).below ok5.2 HRN.out.1).path
        have hte := text_eq (q := up) (p := x.1)
        clear ok5 hb5 y1 y2 y3
        by_cases hq : up = x.1.data.toList
        · rw [decide_eq_true hq] at hte
          have hin : inDir (key x) y = true := by rw [HC.out]; exact decide_eq_true (HUP.out.trans hq)
          have HIN := hide hin
          clear hin hq
          go_wp2
          go_roundw
          case rel => exact ⟨m + 1, i + 1, by omega, by omega, by omega, by go_num, by go_num, hide (by rw [HST.out, if_pos HIN.out, List.length_append, ← HM.out]; rfl), OK5, HB5⟩
          case measure => simp [intOf]; omega
        · rw [decide_eq_false hq] at hte
          have hin : inDir (key x) y = false := by rw [HC.out]; exact decide_eq_false (fun e => hq (HUP.out.symm.trans e))
          have HIN := hide hin
          clear hin hq
          go_wp2
          go_roundw
          case rel => exact ⟨m, i + 1, by omega, by omega, by omega, by go_num, rfl, hide (by rw [HST.out, if_neg (by rw [HIN.out]; decide), List.append_nil]; exact HM.out), OK5, HB5⟩
          case measure => simp [intOf]; omega
      · have hlt' : (n : Int) ≤ (i : Int) := by omega
        have hmq : m = q.length := by
          have e : i = ns.length := by have := HL.out; omega
          rw [HM.out, HQX.out, e, List.take_length]
        subst hmq
        have hnn : ((q.length : Int) != (q.length : Int)) = false := by simp
        have hq60 : q.length ≤ 60 := by omega
        have HO5 := hide (HO4.out.below HBR.out)
        clear HO4 ok4 HB4 g1 g2 g3
        go_wp2
        go_loopw [11, 12, 13, 14, 15, 16] (fun i _ _ _ _ _ wr => ∃ (i' : Nat), i' ≤ q.length ∧ i = .int .i64 i' ∧ Hid (Ok w wr) ∧ Hid (Own w3.heap.size wr (.slice a4 q.length c4) (q.map Hog.mk))) (fun i _ _ _ _ _ _ => q.length - (intOf i).toNat)
        case atStart => exact ⟨0, Nat.zero_le _, rfl, OKR, HO5⟩
        case round =>
          obtain ⟨i, hi, rfl, OKR, HO5⟩ := hrel
          by_cases hlt : i < q.length
          · obtain ⟨e, he⟩ : ∃ e, q[i]? = some e := ⟨q[i], List.getElem?_eq_getElem hlt⟩
            have hlt' : (i : Int) < (q.length : Int) := by omega
            obtain ⟨y, hy, hj1, hj2, he60⟩ := names_get (by rw [← HQX.out]; exact he)
            have HY := hide hy
            have HJ1 := hide hj1
            have HJ2 := hide hj2
            have HE := hide he
            obtain ⟨b4, o4, ha4, hb4l, hq4, n1⟩ : ∃ b4 o4, a4 = some ⟨b4, o4, none⟩ ∧ b4 < wr.heap.size ∧ (∀ (j : Nat) e, q[j]? = some e → wr.cell? ⟨b4, o4 + j, none⟩ = some (.string (Hog.mk e))) ∧ wr.cell? ⟨b4, o4 + i, none⟩ = some (.string (Hog.mk e)) := by
              rcases HO5.out.txt with ⟨e0, _⟩ | ⟨b4, o4, c4', e0, _, hb, hc⟩
              · have := congrArg List.length e0; simp at this; rw [this] at hlt; simp at hlt
              · simp only [Value.slice.injEq] at e0
                obtain ⟨rfl, _, _⟩ := e0
                have hall : ∀ (j : Nat) e, q[j]? = some e → wr.cell? ⟨b4, o4 + j, none⟩ = some (.string (Hog.mk e)) := fun j e hje => hc j (Hog.mk e) (by rw [List.getElem?_map, hje]; rfl)
                exact ⟨b4, o4, rfl, hb, hall, hall i e he⟩
            subst ha4
            have HQ4 := hide hq4
            clear hy hj1 hj2 he hq4
            have x1 := ((HRN.out.2 r x HX.out).below OKR.out.2 HRN.out.1).path
            have hbl : b < wr.heap.size := Nat.lt_of_lt_of_le HRN.out.1 OKR.out.2.size
            obtain ⟨lx, hlx⟩ : ∃ lx, Hog.cutC (key x) = lx := ⟨_, rfl⟩
            have HSX := hide (show Hog.splitL x.1.data.toList = lx by rw [← hlx]; exact split_of (HT.out.may HXM.out))
            have hlxn : lx.length ≤ 10 := by rw [← hlx]; exact (Hog.may_parts (HT.out.may HXM.out)).2.1
            rw [hlx] at HJ1 HJ2
            have HLX := hide (show ∀ z ∈ lx ++ [e], z.length < 1000000 by
              intro z hz
              have hpx : ∀ z ∈ lx, Hog.partL z = true := by rw [← hlx]; exact List.all_eq_true.1 (Hog.may_all (HT.out.may HXM.out))
              rcases List.mem_append.1 hz with hz | hz
              · have := (Hog.part_parts (hpx z hz)).2.1; omega
              · simp at hz; subst hz; omega)
            clear hlx
            obtain ⟨ql, hql⟩ : ∃ ql, q.length = ql := ⟨_, rfl⟩
            have HQL := hide hql
            rw [hql] at hlt hlt' hi hq60 ⊢
            clear hql
            have hS0 : Below wr.heap.size wr wr.drew := (Below.refl _ wr).drew
            go_wp2
            refine wp_region_held (S := fun w' => Below wr.heap.size wr w') (by kernel_rfl) ?_
            change wpAnyH _ _ _ _ _ _ _ _ (World.drew _)
            refine wpAnyH_take (i := 0) (v := (.slice (some ⟨b, o, none⟩) n c)) rfl (by kernel_rfl) (by kernel_rfl) (by kernel_rfl) (fun _ _ _ h => h) (Or.inl ⟨by rfl, ?_⟩) hS0 ?_
            · intro w' hw'
              go_simp
            refine wpAnyH_take (i := 1) (v := (.int .i64 r)) rfl (by kernel_rfl) (by kernel_rfl) (by kernel_rfl) (fun _ _ _ h => h) (Or.inl ⟨by rfl, ?_⟩) hS0 ?_
            · intro w' hw'
              go_simp
            refine wpAnyH_take (i := 2) (v := (.pointer (some ⟨b, o + r * 3, none⟩))) rfl (by kernel_rfl) (by kernel_rfl) (by kernel_rfl) (fun _ _ _ h => h) (Or.inl ⟨by rfl, ?_⟩) hS0 ?_
            · intro w' hw'
              go_simp
            refine wpAnyH_take (i := 3) (v := (.pointer (some ⟨b, o + r * 3, none⟩))) rfl (by kernel_rfl) (by kernel_rfl) (by kernel_rfl) (fun _ _ _ h => h) (Or.inl ⟨by rfl, ?_⟩) hS0 ?_
            · intro w' hw'
              go_simp
            refine wpAnyH_take (i := 4) (v := (.string x.1)) rfl (by kernel_rfl) (by kernel_rfl) (by kernel_rfl) (fun _ _ _ h => h) (Or.inl ⟨by rfl, ?_⟩) hS0 ?_
            · intro w' hw'
              have c1 := hw'.cell (p := ⟨b, o + r * 3, none⟩) hbl
              rw [x1] at c1
              go_simp
            refine wpAnyH_take (i := 6) (v := (.slice (some ⟨b4, o4, none⟩) ql c4)) rfl (by kernel_rfl) (by kernel_rfl) (by kernel_rfl) (fun _ _ _ h => h) (Or.inl ⟨by rfl, ?_⟩) hS0 ?_
            · intro w' hw'
              go_simp
            refine wpAnyH_take (i := 7) (v := (.int .i64 i)) rfl (by kernel_rfl) (by kernel_rfl) (by kernel_rfl) (fun _ _ _ h => h) (Or.inl ⟨by rfl, ?_⟩) hS0 ?_
            · intro w' hw'
              go_simp
            refine wpAnyH_take (i := 8) (v := (.pointer (some ⟨b4, o4 + i, none⟩))) rfl (by kernel_rfl) (by kernel_rfl) (by kernel_rfl) (fun _ _ _ h => h) (Or.inl ⟨by rfl, ?_⟩) hS0 ?_
            · intro w' hw'
              go_simp
            refine wpAnyH_take (i := 9) (v := (.string (Hog.mk e))) rfl (by kernel_rfl) (by kernel_rfl) (by kernel_rfl) (fun _ _ _ h => h) (Or.inl ⟨by rfl, ?_⟩) hS0 ?_
            · intro w' hw'
              have c1 := hw'.cell (p := ⟨b4, o4 + i, none⟩) hb4l
              rw [n1] at c1
              go_simp
            have okd : Ok w wr.drew := OKR.out.next (Below.refl _ wr).drew
            refine wpAnyH_ready (rs := [5, 10]) (by kernel_rfl) (by simp) (AllReadyH.cons rfl (fun K hK => ?_) (AllReadyH.cons rfl (fun K hK => ?_) AllReadyH.nil))
            · go_simp
              refine (split_ok x.1 lx w wr.drew okd hxs HSX.out).mono ?_
              rintro e6 w6 ⟨a6, c6, rfl, ho6, ok6, hb6⟩
              have HO6 := hide ho6
              have hS6 : Below wr.heap.size wr w6 := hS0.trans hb6
              clear ho6 hb6
              refine hK.out _ _ hS6 (fun _ => ?_)
              clear hK K
              have hb6z : wr.heap.size ≤ w6.heap.size := hS6.size
              have hS7 : Below wr.heap.size wr (w6.alloc (.cells #[.string (Hog.mk e)] 9)) := hS6.trans ((below_box w6 _).mono hb6z)
              have HO7 := hide (HO6.out.allocF (.cells #[.string (Hog.mk e)] 9))
              refine wpAnyH_ready (rs := [10]) (by kernel_rfl) (by simp) (AllReadyH.cons rfl (fun K hK => ?_) AllReadyH.nil)
              go_simp
              refine hK.out _ _ hS7 (fun _ => ?_)
              clear hK K
              refine wpAnyH_ready (rs := [11]) (by kernel_rfl) (by simp) (AllReadyH.cons rfl (fun K hK => ?_) AllReadyH.nil)
              refine step_append_texts rfl (.tmp 98) (.tmp 103) rfl wr.heap.size _ (lx.map Hog.mk) (by simp [Act.eval]) HO7.out w6.heap.size 1 (Hog.mk e) (by simp [Act.eval]) (by simp) (by simp; omega) (by simp; omega) ?_
              intro b9 c9 w9 ho9 hb9
              have hS9 : Below wr.heap.size wr w9 := hS7.trans hb9
              have HT9 : Hid (Txt w9 (.slice b9 (lx.length + 1) c9) ((lx ++ [e]).map Hog.mk)) := by
                have h1 := ho9.txt
                rw [List.length_map] at h1
                rw [List.map_append]
                exact h1
              clear ho9 hb9 HO7 HO6 hS7 hS6 hb6z ok6
              refine hK.out _ _ hS9 (fun _ => ?_)
              clear hK K
              refine wpAnyH_ready (rs := [12]) (by kernel_rfl) (by simp) (AllReadyH.cons rfl (fun K hK => ?_) AllReadyH.nil)
              go_simp
              refine hK.out _ _ hS9 (fun _ => ?_)
              clear hK K
              refine wpAnyH_done (by kernel_rfl) ?_ _
              clear HSX hS0 okd
              have ok9 : Ok w w9 := OKR.out.next hS9
              have HS9 := hide hS9
              clear hS9
              go_wp2_with fail
              refine (join_ok _ (lx ++ [e]) (key y) true w w9 ok9 HT9.out (by simp; omega) HLX.out HJ1.out HJ2.out).mono ?_
              rintro e10 w10 ⟨rfl, ok10, hb10⟩
              rw [mk_key]
              have HS10 := hide (below_two HS9.out hb10)
              clear HT9 hb10 HS9 ok9
              go_wp2_with fail
              refine (lookup_on _ ns y.1 y true w w10 ok10 HT.out (HA.out.below ok10.2).nods (by rw [HL.out]; omega) (lookP_of HT.out HY.out)).mono ?_
              rintro e11 w11 ⟨rfl, ok11, hb11⟩
              have ok12 := ok11.alloc (.cells #[.string y.1, .int .i64 y.2.1, .string y.2.2] 27)
              have HS12 := hide (below_two HS10.out (below_two hb11 (below_box w11 (.cells #[.string y.1, .int .i64 y.2.1, .string y.2.2] 27))))
              have OK12 := hide ok12
              clear hb11 HS10 ok10 ok11 ok12
              have hml := Hog.mk_toList
              cases i with
              | zero =>
                go_wp2
                go_quiet (fail)
                have OKQ := hide (OK12.out.next (below_drewN (Below.refl _ _) nq))
                have HOQ := hide (HO5.out.below (below_two HS12.out (below_drewN (Below.refl _ _) nq)))
                clear OK12 HS12 HO5
                go_wp2
                go_roundw
                case rel => exact ⟨1, by omega, by go_num, OKQ, by have h1 := HOQ; rw [HQL.out] at h1; exact h1⟩
                case measure => simp [intOf]; omega
              | succ j =>
                obtain ⟨e', he'⟩ : ∃ e', q[j]? = some e' := ⟨q[j]'(by have := HQL.out; omega), List.getElem?_eq_getElem _⟩
                have hless : Op.bytesLess e' e = true := names_less HT.out (d := key x) (i := j) (by rw [← HQX.out]; exact he') (by rw [← HQX.out]; exact HE.out)
                have m1 := (HS12.out.cell (p := ⟨b4, o4 + j, none⟩) hb4l).trans (HQ4.out j e' he')
                have m2 := (HS12.out.cell (p := ⟨b4, o4 + (j + 1), none⟩) hb4l).trans (HQ4.out (j + 1) e HE.out)
                clear he'
                go_wp2
                go_quiet (fail)
                have OKQ := hide (OK12.out.next (below_drewN (Below.refl _ _) nq))
                have HOQ := hide (HO5.out.below (below_two HS12.out (below_drewN (Below.refl _ _) nq)))
                clear OK12 HS12 HO5
                go_wp2
                go_roundw
                case rel => exact ⟨j + 2, by omega, by go_num, OKQ, by have h1 := HOQ; rw [HQL.out] at h1; exact h1⟩
                case measure => simp [intOf]; omega
            · have hS6 : Below wr.heap.size wr (wr.drew.alloc (.cells #[.string (Hog.mk e)] 9)) := hS0.trans (below_box wr.drew _)
              have okd6 := okd.alloc (.cells #[.string (Hog.mk e)] 9)
              go_simp
              refine hK.out _ _ hS6 (fun _ => ?_)
              clear hK K
              refine wpAnyH_ready (rs := [5]) (by kernel_rfl) (by simp) (AllReadyH.cons rfl (fun K hK => ?_) AllReadyH.nil)
              go_simp
              refine (split_ok x.1 lx w _ okd6 hxs HSX.out).mono ?_
              rintro e6 w7 ⟨a6, c6, rfl, ho7, ok7, hb7⟩
              have HO7 : Hid (Own (wr.heap.size + 1) w7 (.slice a6 lx.length c6) (lx.map Hog.mk)) := by
                have h1 := ho7
                rw [show (wr.drew.alloc (.cells #[.string (Hog.mk e)] 9)).heap.size = wr.heap.size + 1 by simp] at h1
                exact h1
              have hc7 : w7.cell? ⟨wr.heap.size, 0, none⟩ = some (.string (Hog.mk e)) := (hb7.cell (p := ⟨wr.heap.size, 0, none⟩) (by simp)).trans (one_cell wr.drew (Hog.mk e))
              have hS7 : Below wr.heap.size wr w7 := hS6.trans (hb7.mono (by simp))
              have hz7 : wr.heap.size + 1 ≤ w7.heap.size := by have := hb7.size; simp at this; omega
              have HO6 := hide hS6
              clear ho7 hb7 hS6 okd6
              refine hK.out _ _ hS7 (fun _ => ?_)
              clear hK K
              refine wpAnyH_ready (rs := [11]) (by kernel_rfl) (by simp) (AllReadyH.cons rfl (fun K hK => ?_) AllReadyH.nil)
              refine step_append_texts rfl (.tmp 98) (.tmp 103) rfl (wr.heap.size + 1) _ (lx.map Hog.mk) (by simp [Act.eval]) HO7.out wr.heap.size 1 (Hog.mk e) (by simp [Act.eval]) hc7 (by simp; omega) (by omega) ?_
              intro b9 c9 w9 ho9 hb9
              have hS9 : Below wr.heap.size wr w9 := hS7.trans (hb9.mono (by omega))
              have HT9 : Hid (Txt w9 (.slice b9 (lx.length + 1) c9) ((lx ++ [e]).map Hog.mk)) := by
                have h1 := ho9.txt
                rw [List.length_map] at h1
                rw [List.map_append]
                exact h1
              clear ho9 hb9 HO7 HO6 hS7 hc7 ok7 hz7
              refine hK.out _ _ hS9 (fun _ => ?_)
              clear hK K
              refine wpAnyH_ready (rs := [12]) (by kernel_rfl) (by simp) (AllReadyH.cons rfl (fun K hK => ?_) AllReadyH.nil)
              go_simp
              refine hK.out _ _ hS9 (fun _ => ?_)
              clear hK K
              refine wpAnyH_done (by kernel_rfl) ?_ _
              clear HSX hS0 okd
              have ok9 : Ok w w9 := OKR.out.next hS9
              have HS9 := hide hS9
              clear hS9
              go_wp2_with fail
              refine (join_ok _ (lx ++ [e]) (key y) true w w9 ok9 HT9.out (by simp; omega) HLX.out HJ1.out HJ2.out).mono ?_
              rintro e10 w10 ⟨rfl, ok10, hb10⟩
              rw [mk_key]
              have HS10 := hide (below_two HS9.out hb10)
              clear HT9 hb10 HS9 ok9
              go_wp2_with fail
              refine (lookup_on _ ns y.1 y true w w10 ok10 HT.out (HA.out.below ok10.2).nods (by rw [HL.out]; omega) (lookP_of HT.out HY.out)).mono ?_
              rintro e11 w11 ⟨rfl, ok11, hb11⟩
              have ok12 := ok11.alloc (.cells #[.string y.1, .int .i64 y.2.1, .string y.2.2] 27)
              have HS12 := hide (below_two HS10.out (below_two hb11 (below_box w11 (.cells #[.string y.1, .int .i64 y.2.1, .string y.2.2] 27))))
              have OK12 := hide ok12
              clear hb11 HS10 ok10 ok11 ok12
              have hml := Hog.mk_toList
              cases i with
              | zero =>
                go_wp2
                go_quiet (fail)
                have OKQ := hide (OK12.out.next (below_drewN (Below.refl _ _) nq))
                have HOQ := hide (HO5.out.below (below_two HS12.out (below_drewN (Below.refl _ _) nq)))
                clear OK12 HS12 HO5
                go_wp2
                go_roundw
                case rel => exact ⟨1, by omega, by go_num, OKQ, by have h1 := HOQ; rw [HQL.out] at h1; exact h1⟩
                case measure => simp [intOf]; omega
              | succ j =>
                obtain ⟨e', he'⟩ : ∃ e', q[j]? = some e' := ⟨q[j]'(by have := HQL.out; omega), List.getElem?_eq_getElem _⟩
                have hless : Op.bytesLess e' e = true := names_less HT.out (d := key x) (i := j) (by rw [← HQX.out]; exact he') (by rw [← HQX.out]; exact HE.out)
                have m1 := (HS12.out.cell (p := ⟨b4, o4 + j, none⟩) hb4l).trans (HQ4.out j e' he')
                have m2 := (HS12.out.cell (p := ⟨b4, o4 + (j + 1), none⟩) hb4l).trans (HQ4.out (j + 1) e HE.out)
                clear he'
                go_wp2
                go_quiet (fail)
                have OKQ := hide (OK12.out.next (below_drewN (Below.refl _ _) nq))
                have HOQ := hide (HO5.out.below (below_two HS12.out (below_drewN (Below.refl _ _) nq)))
                clear OK12 HS12 HO5
                go_wp2
                go_roundw
                case rel => exact ⟨j + 2, by omega, by go_num, OKQ, by have h1 := HOQ; rw [HQL.out] at h1; exact h1⟩
                case measure => simp [intOf]; omega
          · have hlt' : (q.length : Int) ≤ (i : Int) := by omega
            go_wp2_with fail
            refine (awake3_ok _ _ OKR.out).mono ?_
            rintro e w6 ⟨rfl, ok6, _⟩
            go_wp2_with fail
            go_ret
            exact ⟨rfl, ok6.2⟩
  · rw [decide_eq_false hk] at hfx
    rw [if_neg hk] at hqx
    subst hfx
    subst hqx
    have hkk : (x.2.1 != 1) = true := by simpa using hk
    go_wp2_with fail
    refine (awake3_ok _ _ ok4).mono ?_
    rintro e w5 ⟨rfl, ok5, _⟩
    go_wp2_with fail
    go_ret
    exact ⟨rfl, ok5.2⟩

theorem lists_walk (ao : Option Addr) (n c : Nat) (ns : List Nd) (k : Int) (w : World) (hsh : w.ShapedOpen Tryd.prog) (h : ArgN w ao n c ns) (hm : n ≤ maxLen) :
    Calls Tryd.prog 5 #[.slice ao n c, .int .i64 k] w fun e w' => e = .returned (.bool true) ∧ Below w.heap.size w w' := by
  cases hg : greatN 60 ns with
  | true => exact lists_great ao n c ns k w hsh h hm hg
  | false =>
    cases hy : mayN ns with
    | false => exact lists_none ao n c ns k w hsh h hg hy
    | true =>
      rcases h.nods with ⟨e, _⟩ | ⟨b, o, c', e, _, hr⟩
      · exact absurd e (mayF_iff.1 hy).1
      · simp only [Value.slice.injEq] at e
        obtain ⟨rfl, _, _⟩ := e
        exact lists_main b o n c ns k w hsh h hr hg hy
end Go.Proofs.YtomomeckgiiapaaDoor
