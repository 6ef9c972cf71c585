/- The walk of the document's own List. -/
import Derived.Test.YtomomeckgiiapaaDoorU1
import Derived.Deep.RegionHeld
namespace Go.Proofs.YtomomeckgiiapaaDoor
open Go.RowKit

/-- An append of texts onto texts of one's own, as a step of a region. -/
theorem step_append_list {ops : Array Oper} {o : Oper} {a : Act} {w : World} {K : Act → World → Prop} {Q : Exit → Act → World → Prop} {E : Prop} (hgd : o.guard = none) (s x : Operand)
    (ho : o.op = .call { callee := .builtin .append, args := #[s, x], argTypes := #[30, 30] })
    (base : Nat) (v : Value) (xs : List ByteArray) (hs : a.eval s = v) (hown : Own base w v xs) (ao : Option Addr) (m c : Nat) (ys : List ByteArray) (hx : a.eval x = .slice ao m c) (hm : ys.length = m) (hnone : ao = none → m = 0 ∧ c = 0)
    (hcell : ∀ ad, ao = some ad → ∀ (j : Nat) y, ys[j]? = some y → w.cell? (ad.add j) = some (.string y))
    (hlen : xs.length + m < 1000000) (hbase : base ≤ w.heap.size)
    (h : ∀ b c w', Own base w' (.slice b (xs.length + m) c) (xs ++ ys) → Below base w w' → K (a.put o.dst (.slice b (xs.length + m) c)) w') :
    if Region.wanted o (yielded ops a.tmps) = true then Oper.wp Tryd.prog o a w K Q else E := by
  have hw : Region.wanted o (yielded ops a.tmps) = true := by simp [Region.wanted, hgd]
  rw [if_pos hw]
  obtain ⟨i0, hi, hz0, hz1, hz2⟩ := info_parts A9
  cases ao with
  | none =>
    obtain ⟨rfl, rfl⟩ := hnone rfl
    have hy : ys = [] := List.eq_nil_of_length_eq_zero hm
    subst hy
    have hr := run_append_owned_none (P := Tryd.prog) (w := w) base 30 o.type 9 i0 1 Tryd.underlying30 hi v xs.length (xs.map Value.string) hown
    obtain ⟨b, c', e⟩ := hown.form
    subst e
    unfold Oper.wp
    simp [execOp, ho, resolve, invoke, builtin, hs, hx, hr, Result.andThen]
    exact h b c' w (by simpa using hown) (Below.refl _ _)
  | some ad =>
    obtain ⟨v', w', hr, h2, h3, _⟩ := run_append_own (P := Tryd.prog) w base 30 o.type 9 i0 (.string ByteArray.empty) 1 16 Tryd.underlying30 hi hz0 hz1 hz2 rfl (by decide) v xs.length (xs.map Value.string) hown ad m c (ys.map Value.string) (by simp [hm]) (by
      intro j u hj
      rw [List.getElem?_map] at hj
      cases hy : ys[j]? with
      | none => rw [hy] at hj; cases hj
      | some y => rw [hy] at hj; simp at hj; subst hj; exact hcell ad rfl j y hy) (by
      intro u hu
      obtain ⟨y, _, rfl⟩ := List.mem_map.1 hu
      rfl) (by unfold maxLen; omega) (by omega) hbase
    have h5 : Own base w' v' (xs ++ ys) := Own.joined h2
    obtain ⟨b, c', e⟩ := h5.form
    rw [List.length_append, hm] at e
    subst e
    unfold Oper.wp
    simp [execOp, ho, resolve, invoke, builtin, hs, hx, hr, Result.andThen]
    exact h b c' w' h5 (hown.grownBelow h3 hbase)

theorem one_cellF (w : World) (x : ByteArray) : (w.alloc (.cells #[.string x] 9)).cell? ⟨w.heap.size, 0, none⟩ = some (.string x) := by simp
theorem one_list {w : World} {g : Nat} {x : ByteArray} (h : w.cell? ⟨g, 0, none⟩ = some (.string x)) : ∀ ad, some (⟨g, 0, none⟩ : Addr) = some ad → ∀ (j : Nat) y, [x][j]? = some y → w.cell? (ad.add j) = some (.string y) := by
  intro ad e j y hy
  cases e
  match j, hy with
  | 0, hy => simp at hy; subst hy; rw [addN_zero]; exact h
  | j + 1, hy => simp at hy
/-- Names rise as the nodes do. -/
theorem names_last {t : List Nd} (h : Rising t) {k : Nat} {n : Nd} {d : List UInt8} (hn : t[k]? = some n) (hin : inDir d n = true) {e : List UInt8} (he : e ∈ names (t.take k) d) : Op.bytesLess e (Hog.baseL (key n)) = true := by
  have h1 := names_rise (t := t.take (k + 1)) (by
    intro i j x y hij hx hy
    rw [List.getElem?_take] at hx hy
    split at hx
    · split at hy
      · exact h i j x y hij hx hy
      · cases hy
    · cases hx) d
  rw [names_step hn, if_pos hin, List.pairwise_append] at h1
  exact h1.2.2 e he _ (by simp)

theorem first_in {t : List Nd} (h : Tree t) {i : Nat} {n : Nd} {d : List UInt8} (hi : 0 < i) (hn : t[i]? = some n) : inDir d n = decide (Hog.parentL (key n) = d) := by
  have hne : key n ≠ [] := by
    have hl := (List.getElem?_eq_some_iff.1 hn).1
    have h0 : t[0]? = some t[0] := List.getElem?_eq_getElem (by omega)
    have := h.rise 0 i _ n hi h0 hn
    intro e
    unfold ltN at this
    rw [show n.1.data.toList = [] from e, Hog.less_nil] at this
    cases this
  unfold inDir
  rw [Hog.parent_ok (h.may (List.mem_of_getElem? hn)) hne, Bool.true_and]
theorem first_none {t : List Nd} (h : Tree t) (d : List UInt8) : (names (t.take 1) d).length = 0 := by
  obtain ⟨r, hr, hr0⟩ := h.root
  obtain ⟨j, hj⟩ := List.mem_iff_getElem?.1 hr
  have hj0 : j = 0 := by
    cases j with
    | zero => rfl
    | succ j =>
      have hl := (List.getElem?_eq_some_iff.1 hj).1
      have h0 : t[0]? = some t[0] := List.getElem?_eq_getElem (by omega)
      have := h.rise 0 (j + 1) _ r (by omega) h0 hj
      unfold ltN at this
      rw [show r.1.data.toList = [] from hr0, Hog.less_nil] at this
      cases this
  subst hj0
  have e : inDir d r = false := by
    unfold inDir Hog.parentOk
    rw [hr0]; rfl
  rw [names_step hj, if_neg (by rw [e]; decide), List.append_nil, List.take_zero]
  rfl

set_option maxRecDepth 100000 in
set_option maxHeartbeats 1000000 in
theorem rlist_ok (b o c : Nat) (t : List Nd) (p : ByteArray) (l : List (List UInt8)) (f : Bool) (w0 w : World) (h : Ok w0 w) (hp : ∀ n ∈ t, n.1.size < 900000 ∧ n.2.2.size < 900000) (hr : Run w b o t) (hc : t.length ≤ c) (hm : t.length ≤ 300) (hf : listB t p = f) (hl : listL t p = l) :
    Calls Tryd.prog 13 #[.slice (some ⟨b, o, none⟩) t.length c, .string p] w fun e w' => ∃ a' c', e = .returned (.tuple #[.slice a' l.length c', .bool f]) ∧ Own w.heap.size w' (.slice a' l.length c') (l.map Hog.mk) ∧ Ok w0 w' ∧ Below w.heap.size w w' := by
  obtain ⟨x, g, hx⟩ : ∃ x g, lookP t p = (x, g) := ⟨_, _, rfl⟩
  have HP := hide hp
  have HR := hide hr
  have HX := hide hx
  have HF := hide hf
  have HL := hide hl
  obtain ⟨m, hmt⟩ : ∃ m, m = t.length := ⟨_, rfl⟩
  have HMT := hide hmt
  have hm' : m ≤ 300 := by omega
  rw [← hmt]
  clear hp hr hx hf hl hmt
  go_enter Tryd.func13, Tryd.ntmps13
  go_wp2_with fail
  rw [HMT.out]
  refine (rlookup_ok _ t p x g w0 w h HP.out (HR.out.nods hc) hm HX.out).mono ?_
  rintro e w1 ⟨rfl, ok1, hb1⟩
  rw [← HMT.out]
  cases g with
  | false =>
    have e1 : f = false := by rw [← HF.out]; unfold listB; rw [HX.out]; rfl
    subst e1
    have e2 : l = [] := by rw [← HL.out]; unfold listL; rw [if_neg (by rw [HF.out]; decide)]
    subst e2
    have HB := hide (hb1.trans ((below_box w1 (.cells #[.string x.1, .int .i64 x.2.1, .string x.2.2] 27)).mono hb1.size))
    clear hb1
    go_wp2
    go_ret2
    exact ⟨none, 0, rfl, Own.nil _ _, h.next HB.out, HB.out⟩
  | true =>
    by_cases hk : x.2.1 = 1
    · have e1 : f = true := by rw [← HF.out]; unfold listB; rw [HX.out]; simp [hk]
      subst e1
      have e2 : names t p.data.toList = l := by rw [← HL.out]; unfold listL; rw [if_pos HF.out]
      have HE := hide e2
      clear e2
      obtain ⟨xp, xk, xd⟩ := x
      obtain rfl : xk = 1 := hk
      have HB := hide (hb1.trans ((below_box w1 (.cells #[.string xp, .int .i64 1, .string xd] 27)).mono hb1.size))
      have HR1 := hide (HR.out.below HB.out HR.out.1)
      clear hb1 ok1 HL
      have hmt := (lookP_true HX.out).1
      have HT := hide (may_tree hmt)
      have hn0 : 0 < m := by have := HMT.out; have := List.length_pos_iff.2 (mayF_iff.1 hmt).1; omega
      clear hmt
      go_wp2
      go_loopw [8, 9, 10, 11, 12, 13] (fun s i _ _ _ _ wr => ∃ (k : Nat) (ys : List (List UInt8)) (a' : Option Addr) (c' : Nat), k ≤ m ∧ 0 < k ∧ i = .int .i64 k ∧ s = .slice a' ys.length c' ∧ Hid (ys = names (t.take k) p.data.toList) ∧ Hid (ys = [] → a' = none ∧ c' = 0) ∧ Hid (Own w.heap.size wr (.slice a' ys.length c') (ys.map Hog.mk)) ∧ Hid (Below w.heap.size w wr)) (fun _ i _ _ _ _ _ => m - (intOf i).toNat)
      case atStart => exact ⟨1, [], none, 0, by omega, by omega, rfl, rfl, hide (List.eq_nil_of_length_eq_zero (first_none HT.out p.data.toList)).symm, fun _ => ⟨rfl, rfl⟩, Own.nil _ _, HB⟩
      case round =>
        obtain ⟨k, ys, a', c', hk, hk0, rfl, rfl, HYS, HNIL, HO, HBR⟩ := hrel
        by_cases hlt : k < m
        · obtain ⟨n, hn⟩ : ∃ n, t[k]? = some n := ⟨t[k]'(by have := HMT.out; omega), List.getElem?_eq_some_iff.2 ⟨_, rfl⟩⟩
          have hlt' : (k : Int) < (m : Int) := by omega
          obtain ⟨g1, g2, g3⟩ := (HR.out.2 k n hn).below HBR.out HR.out.1
          have HN := hide hn
          have hnp := (HP.out n (List.mem_of_getElem? hn)).1
          have HIN0 := hide (first_in HT.out (d := p.data.toList) hk0 hn)
          clear hn
          have okr : Ok w0 wr := h.next HBR.out
          obtain ⟨q, hq⟩ : ∃ q, Hog.parentL n.1.data.toList = q := ⟨_, rfl⟩
          obtain ⟨pb, hpb⟩ : ∃ pb, Hog.parentOk n.1.data.toList = pb := ⟨_, rfl⟩
          have HQ := hide hq
          have HPB := hide hpb
          clear hq hpb
          go_wp2_with fail
          refine (rparent_ok n.1 q pb w0 _ okr hnp HQ.out HPB.out).mono ?_
          rintro e w3 ⟨rfl, ok3, hb3⟩
          have HB3 := hide (below_two HBR.out hb3)
          obtain ⟨x1, x2, x3⟩ := (HR.out.2 k n HN.out).below HB3.out HR.out.1
          have HO3 := hide (HO.out.below hb3)
          clear hb3 g1 g2 g3
          have hte := text_eq (q := q) (p := p)
          by_cases hqp : q = p.data.toList
          · rw [decide_eq_true hqp] at hte
            have hin : inDir p.data.toList n = true := by rw [HIN0.out, show Hog.parentL (key n) = q from HQ.out, decide_eq_true hqp]
            have HIN := hide hin
            clear hin hqp
            obtain ⟨bs, hbs⟩ : ∃ bs, Hog.baseL n.1.data.toList = bs := ⟨_, rfl⟩
            have HBS := hide hbs
            clear hbs
            go_wp2_with fail
            refine (rbase_ok n.1 bs w0 _ ok3 hnp HBS.out).mono ?_
            rintro e w4 ⟨rfl, ok4, hb4⟩
            have HB4 := hide (below_two HB3.out hb4)
            have HO4 := hide (HO3.out.below hb4)
            have hyl : ys.length ≤ k := by rw [HYS.out]; exact names_len t k _
            have hsz := HB4.out.size
            have HLE := hide (show ∀ e ∈ ys, Op.bytesLess e bs = true from fun e he => by rw [← HBS.out]; exact names_last HT.out.rise HN.out HIN.out (by rw [← HYS.out]; exact he))
            clear hb4 HO3 HO
            by_cases hy0 : ys = []
            · obtain ⟨ha0, hc0⟩ := HNIL.out hy0
              subst hy0
              subst ha0
              subst hc0
              go_wp2
              go_loopw [13] (fun v wx => v = .int .i64 0 ∧ wx = w4) (fun _ _ => 0)
              case atStart => exact ⟨rfl, rfl⟩
              case round =>
                obtain ⟨rfl, hw4⟩ := hrel
                have hw4' := hw4.symm
                clear hw4
                subst hw4'
                go_wp2
                have hS0 : Below w4.heap.size w4 w4.drew := (Below.refl _ w4).drew
                refine wp_region_held (S := fun w' => Below w4.heap.size w4 w') (by kernel_rfl) ?_
                change wpAnyH _ _ _ _ _ _ _ _ (World.drew _)
                refine wpAnyH_take (i := 0) (v := (.slice none 0 0)) rfl (by kernel_rfl) (by kernel_rfl) (by kernel_rfl) (fun _ _ _ h => h) (Or.inl ⟨by rfl, ?_⟩) hS0 ?_
                · intro w' _
                  go_simp
                refine wpAnyH_take (i := 1) (v := (.int .i64 0)) rfl (by kernel_rfl) (by kernel_rfl) (by kernel_rfl) (fun _ _ _ h => h) (Or.inl ⟨by rfl, ?_⟩) hS0 ?_
                · intro w' _
                  go_simp
                refine wpAnyH_take (i := 2) (v := (.slice none 0 0)) rfl (by kernel_rfl) (by kernel_rfl) (by kernel_rfl) (fun _ _ _ h => h) (Or.inl ⟨by rfl, ?_⟩) hS0 ?_
                · intro w' _
                  go_simp
                refine wpAnyH_take (i := 4) (v := (.string (Hog.mk bs))) rfl (by kernel_rfl) (by kernel_rfl) (by kernel_rfl) (fun _ _ _ h => h) (Or.inl ⟨by rfl, ?_⟩) hS0 ?_
                · intro w' _
                  go_simp
                refine wpAnyH_take (i := 7) (v := (.slice none 0 0)) rfl (by kernel_rfl) (by kernel_rfl) (by kernel_rfl) (fun _ _ _ h => h) (Or.inl ⟨by rfl, ?_⟩) hS0 ?_
                · intro w' _
                  go_simp
                refine wpAnyH_take (i := 8) (v := (.int .i64 0)) rfl (by kernel_rfl) (by kernel_rfl) (by kernel_rfl) (fun _ _ _ h => h) (Or.inl ⟨by rfl, ?_⟩) hS0 ?_
                · intro w' _
                  go_simp
                refine wpAnyH_take (i := 9) (v := (.slice none 0 0)) rfl (by kernel_rfl) (by kernel_rfl) (by kernel_rfl) (fun _ _ _ h => h) (Or.inl ⟨by rfl, ?_⟩) hS0 ?_
                · intro w' _
                  go_simp
                refine wpAnyH_ready (rs := [3, 5]) (by kernel_rfl) (by simp) (AllReadyH.cons rfl (fun K hK => ?_) (AllReadyH.cons rfl (fun K hK => ?_) AllReadyH.nil))
                · refine step_append_list rfl (.const (.slice none 0 0)) (.tmp 68) rfl w4.heap.size _ [] rfl (Own.nil _ _) none 0 0 [] (by first | (simp [Act.eval]; done) | simp [Act.eval, Act.put]) rfl (fun _ => ⟨rfl, rfl⟩) (fun _ e => by cases e) (by simp) (by simp) ?_
                  intro b5 c5 w5 ho5 hb5
                  have hS5 : Below w4.heap.size w4 w5 := hS0.trans hb5
                  have HO5 : Hid (Own w4.heap.size w5 (.slice b5 0 c5) []) := by
                    show Own _ _ _ _
                    simpa using ho5
                  have hz5 := hS5.size
                  clear ho5 hb5
                  refine hK.out _ _ hS5 (fun _ => ?_)
                  clear hK K
                  have hS6 : Below w4.heap.size w4 (w5.alloc (.cells #[.string (Hog.mk bs)] 9)) := hS5.trans ((below_box w5 _).mono hz5)
                  have HO6 := hide (HO5.out.allocF (.cells #[.string (Hog.mk bs)] 9))
                  refine wpAnyH_ready (rs := [5]) (by kernel_rfl) (by simp) (AllReadyH.cons rfl (fun K hK => ?_) AllReadyH.nil)
                  go_simp
                  refine hK.out _ _ hS6 (fun _ => ?_)
                  clear hK K
                  refine wpAnyH_ready (rs := [6]) (by kernel_rfl) (by simp) (AllReadyH.cons rfl (fun K hK => ?_) AllReadyH.nil)
                  refine step_append_list rfl (.tmp 69) (.tmp 71) rfl w4.heap.size _ [] (by first | (simp [Act.eval]; done) | simp [Act.eval, Act.put]) HO6.out (some ⟨w5.heap.size, 0, none⟩) 1 1 [Hog.mk bs] (by first | (simp [Act.eval]; done) | simp [Act.eval, Act.put]) rfl (by simp) (one_list (one_cellF w5 (Hog.mk bs))) (by simp) (by simp; omega) ?_
                  intro b7 c7 w7 ho7 hb7
                  have hS7 : Below w4.heap.size w4 w7 := hS6.trans hb7
                  have HO7 := hide ho7
                  have hz7 := hS7.size
                  clear ho7 hb7 HO5 HO6 hS5 hS6
                  refine hK.out _ _ hS7 (fun _ => ?_)
                  clear hK K
                  refine wpAnyH_ready (rs := [10]) (by kernel_rfl) (by simp) (AllReadyH.cons rfl (fun K hK => ?_) AllReadyH.nil)
                  refine step_append_list rfl (.tmp 72) (.tmp 75) rfl w4.heap.size _ ([] ++ [Hog.mk bs]) (by first | (simp [Act.eval]; done) | simp [Act.eval, Act.put]) HO7.out none 0 0 [] (by first | (simp [Act.eval]; done) | simp [Act.eval, Act.put]) rfl (fun _ => ⟨rfl, rfl⟩) (fun _ _ j y hy => by simp at hy) (by simp) hz7 ?_
                  intro b9 c9 w9 ho9 hb9
                  have hS9 : Below w4.heap.size w4 w9 := hS7.trans hb9
                  have HO9 : Hid (Own w.heap.size w9 (.slice b9 [bs].length c9) ([bs].map Hog.mk)) := by
                    have h1 := ho9.base (base' := w.heap.size) hsz
                    show Own _ _ _ _
                    simpa using h1
                  have HB9 := hide (below_two HB4.out hS9)
                  clear ho9 hb9 HO7 hS7
                  refine hK.out _ _ hS9 (fun _ => ?_)
                  clear hK K
                  refine wpAnyH_ready (rs := [11]) (by kernel_rfl) (by simp) (AllReadyH.cons rfl (fun K hK => ?_) AllReadyH.nil)
                  go_simp
                  refine hK.out _ _ hS9 (fun _ => ?_)
                  clear hK K
                  refine wpAnyH_done (by kernel_rfl) ?_ _
                  go_wp2
                  go_roundw
                  case rel => exact ⟨k + 1, [bs], b9, c9, by omega, by omega, by go_num, by simp, hide (by rw [names_step HN.out, if_pos HIN.out, ← HYS.out]; exact congrArg (fun z => [z]) HBS.out.symm), hide (fun e => by simp at e), HO9, HB9⟩
                  case measure => simp [intOf]; omega
                · have hS5 : Below w4.heap.size w4 (w4.drew.alloc (.cells #[.string (Hog.mk bs)] 9)) := hS0.trans (below_box w4.drew _)
                  go_simp
                  refine hK.out _ _ hS5 (fun _ => ?_)
                  clear hK K
                  refine wpAnyH_ready (rs := [3]) (by kernel_rfl) (by simp) (AllReadyH.cons rfl (fun K hK => ?_) AllReadyH.nil)
                  refine step_append_list rfl (.const (.slice none 0 0)) (.tmp 68) rfl (w4.heap.size + 1) _ [] rfl (Own.nil _ _) none 0 0 [] (by first | (simp [Act.eval]; done) | simp [Act.eval, Act.put]) rfl (fun _ => ⟨rfl, rfl⟩) (fun _ e => by cases e) (by simp) (by simp) ?_
                  intro b5 c5 w6 ho6 hb6
                  have hc6 : w6.cell? ⟨w4.heap.size, 0, none⟩ = some (.string (Hog.mk bs)) := (hb6.cell (p := ⟨w4.heap.size, 0, none⟩) (by simp)).trans (one_cellF w4.drew (Hog.mk bs))
                  have hz6 : w4.heap.size + 1 ≤ w6.heap.size := by have := hb6.size; simp at this; omega
                  have hS6 : Below w4.heap.size w4 w6 := hS5.trans (hb6.mono (by omega))
                  have HO6 : Hid (Own (w4.heap.size + 1) w6 (.slice b5 0 c5) []) := by
                    show Own _ _ _ _
                    simpa using ho6
                  clear ho6 hb6 hS5
                  refine hK.out _ _ hS6 (fun _ => ?_)
                  clear hK K
                  refine wpAnyH_ready (rs := [6]) (by kernel_rfl) (by simp) (AllReadyH.cons rfl (fun K hK => ?_) AllReadyH.nil)
                  refine step_append_list rfl (.tmp 69) (.tmp 71) rfl (w4.heap.size + 1) _ [] (by first | (simp [Act.eval]; done) | simp [Act.eval, Act.put]) HO6.out (some ⟨w4.heap.size, 0, none⟩) 1 1 [Hog.mk bs] (by first | (simp [Act.eval]; done) | simp [Act.eval, Act.put]) rfl (by simp) (one_list hc6) (by simp) hz6 ?_
                  intro b7 c7 w7 ho7 hb7
                  have hS7 : Below w4.heap.size w4 w7 := hS6.trans (hb7.mono (by omega))
                  have HO7 := hide (ho7.base (base' := w4.heap.size) (by omega))
                  have hz7 := hS7.size
                  clear ho7 hb7 HO6 hS6 hc6 hz6
                  refine hK.out _ _ hS7 (fun _ => ?_)
                  clear hK K
                  refine wpAnyH_ready (rs := [10]) (by kernel_rfl) (by simp) (AllReadyH.cons rfl (fun K hK => ?_) AllReadyH.nil)
                  refine step_append_list rfl (.tmp 72) (.tmp 75) rfl w4.heap.size _ ([] ++ [Hog.mk bs]) (by first | (simp [Act.eval]; done) | simp [Act.eval, Act.put]) HO7.out none 0 0 [] (by first | (simp [Act.eval]; done) | simp [Act.eval, Act.put]) rfl (fun _ => ⟨rfl, rfl⟩) (fun _ _ j y hy => by simp at hy) (by simp) hz7 ?_
                  intro b9 c9 w9 ho9 hb9
                  have hS9 : Below w4.heap.size w4 w9 := hS7.trans hb9
                  have HO9 : Hid (Own w.heap.size w9 (.slice b9 [bs].length c9) ([bs].map Hog.mk)) := by
                    have h1 := ho9.base (base' := w.heap.size) hsz
                    show Own _ _ _ _
                    simpa using h1
                  have HB9 := hide (below_two HB4.out hS9)
                  clear ho9 hb9 HO7 hS7
                  refine hK.out _ _ hS9 (fun _ => ?_)
                  clear hK K
                  refine wpAnyH_ready (rs := [11]) (by kernel_rfl) (by simp) (AllReadyH.cons rfl (fun K hK => ?_) AllReadyH.nil)
                  go_simp
                  refine hK.out _ _ hS9 (fun _ => ?_)
                  clear hK K
                  refine wpAnyH_done (by kernel_rfl) ?_ _
                  go_wp2
                  go_roundw
                  case rel => exact ⟨k + 1, [bs], b9, c9, by omega, by omega, by go_num, by simp, hide (by rw [names_step HN.out, if_pos HIN.out, ← HYS.out]; exact congrArg (fun z => [z]) HBS.out.symm), hide (fun e => by simp at e), HO9, HB9⟩
                  case measure => simp [intOf]; omega
            · obtain ⟨j, hj⟩ : ∃ j, ys.length = j + 1 := ⟨ys.length - 1, by have := List.length_pos_iff.2 hy0; omega⟩
              obtain ⟨g, ha', hgc⟩ : ∃ g, a' = some ⟨g, 0, none⟩ ∧ j + 1 ≤ c' := by
                rcases HO4.out.2 with ⟨e, h0⟩ | ⟨g, cap, cur, e, _, _, hnc, _⟩
                · rw [List.length_map] at h0; omega
                · simp only [Value.slice.injEq] at e
                  obtain ⟨rfl, h2, rfl⟩ := e
                  exact ⟨g, rfl, by omega⟩
              subst ha'
              obtain ⟨z, hz⟩ : ∃ z, ys[j]? = some z := ⟨ys[j]'(by omega), List.getElem?_eq_getElem _⟩
              have hless : Op.bytesLess z bs = true := HLE.out z (List.mem_of_getElem? hz)
              have HCS : Hid (∀ w5, Below w4.heap.size w4 w5 → ∀ ad, some (⟨g, 0, none⟩ : Addr) = some ad → ∀ (i : Nat) y, (ys.map Hog.mk)[i]? = some y → w5.cell? (ad.add i) = some (.string y)) := by
                intro w5 hb5 ad e i y hy
                cases e
                exact (HO4.out.below hb5).cells (g := g) rfl i (.string y) (by rw [List.getElem?_map, hy]; rfl)
              have n1 : w4.cell? ⟨g, j, none⟩ = some (.string (Hog.mk z)) := by
                have h1 := HCS.out w4 (Below.refl _ _) _ rfl j (Hog.mk z) (by rw [List.getElem?_map, hz]; rfl)
                rw [addN_plain, Nat.zero_add] at h1
                exact h1
              have hml := Hog.mk_toList
              have HJ := hide hj
              rw [hj] at hyl ⊢
              clear hj hz hy0 HNIL
              have hj1 : (0 : Int) < (j : Int) + 1 := by omega
              have hj2 : (0 : Int) ≤ (j : Int) + 1 := by omega
              have hj3 : (j : Int) + 1 ≤ (c' : Int) := by omega
              obtain ⟨dp, hdp⟩ : ∃ dp : Option Addr, (if c' = j + 1 then some (⟨g, 0, none⟩ : Addr) else some ⟨g, j + 1, none⟩) = dp := ⟨_, rfl⟩
              have HDN := hide (show dp ≠ none by rw [← hdp]; split <;> simp)
              go_wp2
              go_loopw [13] (fun v wx => v = .int .i64 ((j : Int) + 1) ∧ wx = w4) (fun _ _ => 0)
              case atStart => exact ⟨by go_num, rfl⟩
              case round =>
                obtain ⟨rfl, hw4⟩ := hrel
                have hw4' := hw4.symm
                clear hw4
                subst hw4'
                go_wp2
                have hS0 : Below w4.heap.size w4 w4.drew := (Below.refl _ w4).drew
                refine wp_region_held (S := fun w' => Below w4.heap.size w4 w') (by kernel_rfl) ?_
                change wpAnyH _ _ _ _ _ _ _ _ (World.drew _)
                refine wpAnyH_take (i := 0) (v := (.slice (some ⟨g, 0, none⟩) (j + 1) c')) rfl (by kernel_rfl) (by kernel_rfl) (by kernel_rfl) (fun _ _ _ h => h) (Or.inl ⟨by rfl, ?_⟩) hS0 ?_
                · intro w' _
                  go_simp
                refine wpAnyH_take (i := 1) (v := (.int .i64 ((j : Int) + 1))) rfl (by kernel_rfl) (by kernel_rfl) (by kernel_rfl) (fun _ _ _ h => h) (Or.inl ⟨by rfl, ?_⟩) hS0 ?_
                · intro w' _
                  go_simp
                refine wpAnyH_take (i := 2) (v := (.slice (some ⟨g, 0, none⟩) (j + 1) c')) rfl (by kernel_rfl) (by kernel_rfl) (by kernel_rfl) (fun _ _ _ h => h) (Or.inl ⟨by rfl, ?_⟩) hS0 ?_
                · intro w' _
                  go_simp
                refine wpAnyH_take (i := 4) (v := (.string (Hog.mk bs))) rfl (by kernel_rfl) (by kernel_rfl) (by kernel_rfl) (fun _ _ _ h => h) (Or.inl ⟨by rfl, ?_⟩) hS0 ?_
                · intro w' _
                  go_simp
                refine wpAnyH_take (i := 7) (v := (.slice (some ⟨g, 0, none⟩) (j + 1) c')) rfl (by kernel_rfl) (by kernel_rfl) (by kernel_rfl) (fun _ _ _ h => h) (Or.inl ⟨by rfl, ?_⟩) hS0 ?_
                · intro w' _
                  go_simp
                refine wpAnyH_take (i := 8) (v := (.int .i64 ((j : Int) + 1))) rfl (by kernel_rfl) (by kernel_rfl) (by kernel_rfl) (fun _ _ _ h => h) (Or.inl ⟨by rfl, ?_⟩) hS0 ?_
                · intro w' _
                  go_simp
                refine wpAnyH_take (i := 9) (v := (.slice dp 0 (c' - (j + 1)))) rfl (by kernel_rfl) (by kernel_rfl) (by kernel_rfl) (fun _ _ _ h => h) (Or.inl ⟨by rfl, ?_⟩) hS0 ?_
                · intro w' _
                  go_simp
                refine wpAnyH_ready (rs := [3, 5]) (by kernel_rfl) (by simp) (AllReadyH.cons rfl (fun K hK => ?_) (AllReadyH.cons rfl (fun K hK => ?_) AllReadyH.nil))
                · refine step_append_list rfl (.const (.slice none 0 0)) (.tmp 68) rfl w4.heap.size _ [] rfl (Own.nil _ _) (some ⟨g, 0, none⟩) (j + 1) c' (ys.map Hog.mk) (by first | (simp [Act.eval]; done) | simp [Act.eval, Act.put]) (by rw [List.length_map]; exact HJ.out) (fun e => by cases e) (HCS.out _ hS0) (by simp; omega) (by simp) ?_
                  intro b5 c5 w5 ho5 hb5
                  have hS5 : Below w4.heap.size w4 w5 := hS0.trans hb5
                  have HO5 : Hid (Own w4.heap.size w5 (.slice b5 (j + 1) c5) (ys.map Hog.mk)) := by
                    show Own _ _ _ _
                    simpa using ho5
                  have hz5 := hS5.size
                  clear ho5 hb5
                  refine hK.out _ _ hS5 (fun _ => ?_)
                  clear hK K
                  have hS6 : Below w4.heap.size w4 (w5.alloc (.cells #[.string (Hog.mk bs)] 9)) := hS5.trans ((below_box w5 _).mono hz5)
                  have HO6 := hide (HO5.out.allocF (.cells #[.string (Hog.mk bs)] 9))
                  refine wpAnyH_ready (rs := [5]) (by kernel_rfl) (by simp) (AllReadyH.cons rfl (fun K hK => ?_) AllReadyH.nil)
                  go_simp
                  refine hK.out _ _ hS6 (fun _ => ?_)
                  clear hK K
                  refine wpAnyH_ready (rs := [6]) (by kernel_rfl) (by simp) (AllReadyH.cons rfl (fun K hK => ?_) AllReadyH.nil)
                  refine step_append_list rfl (.tmp 69) (.tmp 71) rfl w4.heap.size _ (ys.map Hog.mk) (by first | (simp [Act.eval]; done) | simp [Act.eval, Act.put]) HO6.out (some ⟨w5.heap.size, 0, none⟩) 1 1 [Hog.mk bs] (by first | (simp [Act.eval]; done) | simp [Act.eval, Act.put]) rfl (by simp) (one_list (one_cellF w5 (Hog.mk bs))) (by rw [List.length_map, HJ.out]; omega) (by simp; omega) ?_
                  intro b7 c7 w7 ho7 hb7
                  have hS7 : Below w4.heap.size w4 w7 := hS6.trans hb7
                  have HO7 := hide ho7
                  have hz7 := hS7.size
                  clear ho7 hb7 HO5 HO6 hS5 hS6
                  refine hK.out _ _ hS7 (fun _ => ?_)
                  clear hK K
                  refine wpAnyH_ready (rs := [10]) (by kernel_rfl) (by simp) (AllReadyH.cons rfl (fun K hK => ?_) AllReadyH.nil)
                  refine step_append_list rfl (.tmp 72) (.tmp 75) rfl w4.heap.size _ (ys.map Hog.mk ++ [Hog.mk bs]) (by first | (simp [Act.eval]; done) | simp [Act.eval, Act.put]) HO7.out dp 0 (c' - (j + 1)) [] (by first | (simp [Act.eval]; done) | simp [Act.eval, Act.put]) rfl (fun e => absurd e HDN.out) (fun _ _ j y hy => by simp at hy) (by rw [List.length_append, List.length_map, HJ.out]; simp; omega) hz7 ?_
                  intro b9 c9 w9 ho9 hb9
                  have hS9 : Below w4.heap.size w4 w9 := hS7.trans hb9
                  have HO9 : Hid (Own w.heap.size w9 (.slice b9 (ys ++ [bs]).length c9) ((ys ++ [bs]).map Hog.mk)) := by
                    have h1 := ho9.base (base' := w.heap.size) hsz
                    show Own _ _ _ _
                    simpa using h1
                  have HB9 := hide (below_two HB4.out hS9)
                  clear ho9 hb9 HO7 hS7
                  refine hK.out _ _ hS9 (fun _ => ?_)
                  clear hK K
                  refine wpAnyH_ready (rs := [11]) (by kernel_rfl) (by simp) (AllReadyH.cons rfl (fun K hK => ?_) AllReadyH.nil)
                  go_simp
                  refine hK.out _ _ hS9 (fun _ => ?_)
                  clear hK K
                  refine wpAnyH_done (by kernel_rfl) ?_ _
                  go_wp2
                  go_roundw
                  case rel => exact ⟨k + 1, ys ++ [bs], b9, c9, by omega, by omega, by go_num, by simp [HJ.out], hide (by rw [names_step HN.out, if_pos HIN.out, ← HYS.out]; exact congrArg (fun z => ys ++ [z]) HBS.out.symm), hide (fun e => by simp at e), HO9, HB9⟩
                  case measure => simp [intOf]; omega
                · have hS5 : Below w4.heap.size w4 (w4.drew.alloc (.cells #[.string (Hog.mk bs)] 9)) := hS0.trans (below_box w4.drew _)
                  go_simp
                  refine hK.out _ _ hS5 (fun _ => ?_)
                  clear hK K
                  refine wpAnyH_ready (rs := [3]) (by kernel_rfl) (by simp) (AllReadyH.cons rfl (fun K hK => ?_) AllReadyH.nil)
                  refine step_append_list rfl (.const (.slice none 0 0)) (.tmp 68) rfl (w4.heap.size + 1) _ [] rfl (Own.nil _ _) (some ⟨g, 0, none⟩) (j + 1) c' (ys.map Hog.mk) (by first | (simp [Act.eval]; done) | simp [Act.eval, Act.put]) (by rw [List.length_map]; exact HJ.out) (fun e => by cases e) (HCS.out _ hS5) (by simp; omega) (by simp) ?_
                  intro b5 c5 w6 ho6 hb6
                  have hc6 : w6.cell? ⟨w4.heap.size, 0, none⟩ = some (.string (Hog.mk bs)) := (hb6.cell (p := ⟨w4.heap.size, 0, none⟩) (by simp)).trans (one_cellF w4.drew (Hog.mk bs))
                  have hz6 : w4.heap.size + 1 ≤ w6.heap.size := by have := hb6.size; simp at this; omega
                  have hS6 : Below w4.heap.size w4 w6 := hS5.trans (hb6.mono (by omega))
                  have HO6 : Hid (Own (w4.heap.size + 1) w6 (.slice b5 (j + 1) c5) (ys.map Hog.mk)) := by
                    show Own _ _ _ _
                    simpa using ho6
                  clear ho6 hb6 hS5
                  refine hK.out _ _ hS6 (fun _ => ?_)
                  clear hK K
                  refine wpAnyH_ready (rs := [6]) (by kernel_rfl) (by simp) (AllReadyH.cons rfl (fun K hK => ?_) AllReadyH.nil)
                  refine step_append_list rfl (.tmp 69) (.tmp 71) rfl (w4.heap.size + 1) _ (ys.map Hog.mk) (by first | (simp [Act.eval]; done) | simp [Act.eval, Act.put]) HO6.out (some ⟨w4.heap.size, 0, none⟩) 1 1 [Hog.mk bs] (by first | (simp [Act.eval]; done) | simp [Act.eval, Act.put]) rfl (by simp) (one_list hc6) (by rw [List.length_map, HJ.out]; omega) hz6 ?_
                  intro b7 c7 w7 ho7 hb7
                  have hS7 : Below w4.heap.size w4 w7 := hS6.trans (hb7.mono (by omega))
                  have HO7 := hide (ho7.base (base' := w4.heap.size) (by omega))
                  have hz7 := hS7.size
                  clear ho7 hb7 HO6 hS6 hc6 hz6
                  refine hK.out _ _ hS7 (fun _ => ?_)
                  clear hK K
                  refine wpAnyH_ready (rs := [10]) (by kernel_rfl) (by simp) (AllReadyH.cons rfl (fun K hK => ?_) AllReadyH.nil)
                  refine step_append_list rfl (.tmp 72) (.tmp 75) rfl w4.heap.size _ (ys.map Hog.mk ++ [Hog.mk bs]) (by first | (simp [Act.eval]; done) | simp [Act.eval, Act.put]) HO7.out dp 0 (c' - (j + 1)) [] (by first | (simp [Act.eval]; done) | simp [Act.eval, Act.put]) rfl (fun e => absurd e HDN.out) (fun _ _ j y hy => by simp at hy) (by rw [List.length_append, List.length_map, HJ.out]; simp; omega) hz7 ?_
                  intro b9 c9 w9 ho9 hb9
                  have hS9 : Below w4.heap.size w4 w9 := hS7.trans hb9
                  have HO9 : Hid (Own w.heap.size w9 (.slice b9 (ys ++ [bs]).length c9) ((ys ++ [bs]).map Hog.mk)) := by
                    have h1 := ho9.base (base' := w.heap.size) hsz
                    show Own _ _ _ _
                    simpa using h1
                  have HB9 := hide (below_two HB4.out hS9)
                  clear ho9 hb9 HO7 hS7
                  refine hK.out _ _ hS9 (fun _ => ?_)
                  clear hK K
                  refine wpAnyH_ready (rs := [11]) (by kernel_rfl) (by simp) (AllReadyH.cons rfl (fun K hK => ?_) AllReadyH.nil)
                  go_simp
                  refine hK.out _ _ hS9 (fun _ => ?_)
                  clear hK K
                  refine wpAnyH_done (by kernel_rfl) ?_ _
                  go_wp2
                  go_roundw
                  case rel => exact ⟨k + 1, ys ++ [bs], b9, c9, by omega, by omega, by go_num, by simp [HJ.out], hide (by rw [names_step HN.out, if_pos HIN.out, ← HYS.out]; exact congrArg (fun z => ys ++ [z]) HBS.out.symm), hide (fun e => by simp at e), HO9, HB9⟩
                  case measure => simp [intOf]; omega
          · rw [decide_eq_false hqp] at hte
            have hin : inDir p.data.toList n = false := by rw [HIN0.out, show Hog.parentL (key n) = q from HQ.out, decide_eq_false hqp]
            have HIN := hide hin
            clear hin hqp
            go_wp2
            go_roundw
            case rel => exact ⟨k + 1, ys, a', c', by omega, by omega, by go_num, rfl, by rw [names_step HN.out, if_neg (by rw [HIN.out]; decide), List.append_nil]; exact HYS, HNIL, HO3, HB3⟩
            case measure => simp [intOf]; omega
        · have hlt' : (m : Int) ≤ (k : Int) := by omega
          go_wp2
          go_ret2
          have e : k = t.length := by have := HMT.out; omega
          have e3 : ys = l := by rw [HYS.out, e, List.take_length, HE.out]
          subst e3
          exact ⟨a', c', rfl, HO.out, h.next HBR.out, HBR.out⟩
    · have e1 : f = false := by rw [← HF.out]; unfold listB; rw [HX.out]; simp [hk]
      subst e1
      have e2 : l = [] := by rw [← HL.out]; unfold listL; rw [if_neg (by rw [HF.out]; decide)]
      subst e2
      have HB := hide (hb1.trans ((below_box w1 (.cells #[.string x.1, .int .i64 x.2.1, .string x.2.2] 27)).mono hb1.size))
      clear hb1
      go_wp2
      go_ret2
      exact ⟨none, 0, rfl, Own.nil _ _, h.next HB.out, HB.out⟩
end Go.Proofs.YtomomeckgiiapaaDoor
