/- The walks of order's Of and Ranks. -/
import Derived.Test.YticpljjbnfimkaaQJ
namespace Go.Proofs.Yticpljjbnfimkaa
open Go.RowKit

/-- The order that there is of these items, or that there is none. -/
def OrdO (is : List It) (a : Option (List ByteArray)) : Prop := ((is.map (·.1)).Nodup ∧ Hog.OrdIs ltB is a) ∨ (¬ (is.map (·.1)).Nodup ∧ a = none)
theorem ordO_ex (is : List It) : ∃ a, OrdO is a := by
  classical
  by_cases h : (is.map (·.1)).Nodup
  · obtain ⟨a, ha⟩ := Hog.ord_ex ltB_irr ltB_tr is
    exact ⟨a, .inl ⟨h, ha⟩⟩
  · exact ⟨none, .inr ⟨h, rfl⟩⟩
theorem OrdO.one {is : List It} {a b : Option (List ByteArray)} (h : OrdO is a) (k : OrdO is b) : a = b := by
  rcases h with ⟨h1, h2⟩ | ⟨h1, rfl⟩
  · rcases k with ⟨_, k2⟩ | ⟨k1, _⟩
    · exact h2.one ltB_tot k2
    · exact absurd h1 k1
  · rcases k with ⟨k1, _⟩ | ⟨_, rfl⟩
    · exact absurd k1 h1
    · rfl
theorem Arr.ordO {is : List It} {P : List Nat} (hn : (is.map (·.1)).Nodup) (h : Arr is P) : OrdO is (if P.length = is.length then some (P.map (Hog.nmP is)) else none) := .inl ⟨hn, h.ord⟩
theorem Arr.all {is : List It} {P : List Nat} (h : Arr is P) (hl : P.length = is.length) {i : Nat} (hi : i < is.length) : i ∈ P := by
  refine Classical.byContradiction fun hn => ?_
  have := Hog.nodup_le (List.nodup_cons.2 ⟨hn, h.each⟩) (m := List.range is.length) fun x hx => by
    rcases List.mem_cons.1 hx with rfl | hx
    · exact List.mem_range.2 hi
    · exact List.mem_range.2 (h.low x hx)
  rw [List.length_cons, List.length_range] at this
  omega

set_option maxRecDepth 100000 in
set_option maxHeartbeats 2000000 in
theorem of_none (v : Value) (is : List It) (w : World) (ho : OrdO is none) (h : Its w v is) (h9 : is.length < 900) (hr : ∀ i ∈ is, i.2.1.length ≤ 900) :
    Calls Try.prog 9 #[v] w fun e w' => e = .returned (.tuple #[.slice none 0 0, .bool false]) ∧ Below w.heap.size w w' := by
  have HA := hide (arrange_ok v is w h h9 hr)
  have HO := hide ho
  obtain ⟨ia, ic, rfl⟩ := h.form
  clear h hr ho
  go_enter Try.func9, Try.ntmps9
  go_wp2_with fail
  refine HA.out.mono ?_
  rintro e w1 ⟨hb, h1⟩
  obtain ⟨sv, rfl⟩ : ∃ sv, e = .returned (.tuple #[sv, .bool false]) := by
    rcases h1 with ⟨_, e⟩ | ⟨hn, P, a, c, e, _, ha⟩
    · exact ⟨_, e⟩
    · refine ⟨.slice a P.length c, ?_⟩
      have h2 := (ha.ordO hn).one HO.out
      by_cases hl : P.length = is.length
      · rw [if_pos hl] at h2; cases h2
      · have : ((P.length : Int) == (is.length : Int)) = false := by rw [beq_eq_false_iff_ne]; omega
        rw [e, this]
  clear h1
  have HB := hide hb
  clear hb
  go_wp2_with fail
  go_ret2
  exact ⟨rfl, HB.out⟩
set_option maxRecDepth 100000 in
set_option maxHeartbeats 4000000 in
theorem of_some (v : Value) (is : List It) (o : List ByteArray) (n : Nat) (w : World) (ho : OrdO is (some o)) (hn : is.length = n) (h : Its w v is) (h9 : n < 900) (hr : ∀ i ∈ is, i.2.1.length ≤ 900) :
    Calls Try.prog 9 #[v] w fun e w' => ∃ a c, e = .returned (.tuple #[.slice a n c, .bool true]) ∧ Own w.heap.size w' (.slice a n c) o ∧ o.length = n ∧ Below w.heap.size w w' := by
  have HA := hide (arrange_ok v is w h (by omega) hr)
  have HO := hide ho
  have HN := hide hn
  have HI := hide h
  obtain ⟨ia, ic, e⟩ := h.form
  rw [hn] at e
  subst e
  have HF : Hid (∀ (j : Nat) i, is[j]? = some i → ∃ b q, ia = some ⟨b, q, none⟩ ∧ w.cell? ⟨b, q + j * 3, none⟩ = some (.string i.1)) := hide fun j i hi => by
    rcases h with ⟨rfl, _⟩ | ⟨b, q, c', e, _, hI⟩
    · simp at hi
    · simp only [Value.slice.injEq] at e
      obtain ⟨_, _, _, _, _, _, q0, _⟩ := hI.2 j i hi
      exact ⟨b, q, e.1, q0⟩
  obtain ⟨i0, hi, hz0, hz1, hz2⟩ := info_parts A9
  clear h hr ho hn
  go_enter Try.func9, Try.ntmps9
  go_wp2_with fail
  refine HA.out.mono ?_
  rintro e w1 ⟨hb, h1⟩
  obtain ⟨P, a, c, rfl, hop, hpl, hop2, hlow⟩ : ∃ P a c, e = .returned (.tuple #[.slice a n c, .bool true]) ∧ OwnZ w.heap.size w1 (.slice a n c) (numK P) ∧ P.length = n ∧ P.map (Hog.nmP is) = o ∧ ∀ z ∈ P, z < is.length := by
    rcases h1 with ⟨hn, e⟩ | ⟨hn, P, a, c, e, hown, ha⟩
    · rcases HO.out with ⟨k, _⟩ | ⟨_, k⟩
      · exact absurd k hn
      · cases k
    · have h2 := (ha.ordO hn).one HO.out
      by_cases hl : P.length = is.length
      · rw [if_pos hl] at h2
        have h3 : ((P.length : Int) == (is.length : Int)) = true := by rw [beq_iff_eq]; omega
        rw [h3] at e
        rw [hl, HN.out] at e hown
        exact ⟨P, a, c, e, hown, hl.trans HN.out, Option.some.inj h2, ha.low⟩
      · rw [if_neg hl] at h2; cases h2
  clear h1
  have HB := hide hb
  have HP := hide hop
  have HPL := hide hpl
  have HO2 := hide hop2
  have HLOW := hide hlow
  clear hb hop hpl hop2 hlow HA
  go_wp2_with (at_make; refine wpList_make_own w1 rfl _ _ 25 rfl w1.heap.size 9 i0 (.string ByteArray.empty) 1 Try.underlying25 hi hz0 hz1 .i64 .i64 _ n rfl rfl ?c1 ?c2 ?c3 (Nat.le_refl _) ?_)
  case c1 => simp
  case c2 => rw [hz2]; omega
  case c3 => unfold maxLen; omega
  intro w2 hown2 hgrow2
  have HB2 : Hid (Below w1.heap.size w1 w2) := hide ((Below.refl _ w1).grown hgrow2 (Nat.le_refl _) (fun k hk => by cases hk))
  have HO3 : Hid (Own w1.heap.size w2 (.slice (some ⟨w1.heap.size, 0, none⟩) 0 n) []) := hide hown2
  clear hown2 hgrow2 hi hz0 hz1 hz2
  go_wp2_with fail
  go_loopw [6, 21] (fun v i wr => ∃ (k : Nat) (xs : List ByteArray) (a' : Option Addr) (c' : Nat), k ≤ n ∧ i = .int .i64 k ∧ v = .slice a' k c' ∧ Hid (xs = (P.take k).map (Hog.nmP is)) ∧ Hid (xs.length = k) ∧ Hid (Own w1.heap.size wr (.slice a' k c') xs) ∧ Hid (Below w1.heap.size w1 wr)) (fun _ i _ => n - (intOf i).toNat)
  case atStart => exact ⟨0, [], _, _, Nat.zero_le _, rfl, rfl, rfl, rfl, HO3, HB2⟩
  case round =>
    clear HO3 HB2
    obtain ⟨k, xs, a', c', hk, rfl, rfl, HXS, HXL, HO3, HB2⟩ := hrel
    by_cases hlt : k < n
    · obtain ⟨z, hz⟩ : ∃ z, P[k]? = some z := ⟨P[k]'(by have := HPL.out; omega), List.getElem?_eq_some_iff.2 ⟨_, rfl⟩⟩
      have hzl := HLOW.out z (List.mem_of_getElem? hz)
      have hi : is[z]? = some is[z] := List.getElem?_eq_getElem hzl
      have hznm := Hog.nmP_at hi
      generalize is[z] = i at *
      obtain ⟨b, q, rfl, hc0⟩ := HF.out z i hi
      have hc := (below_two HB.out HB2.out).cell (p := ⟨b, q + z * 3, none⟩) (addr_plain hc0).2 |>.trans hc0
      obtain ⟨pb, rfl, hcz⟩ := (HP.out.below HB2.out).at' hz
      have HZ := hide hz
      have HZN := hide hznm
      have hzi : (z : Int) < (n : Int) := by have := HN.out; omega
      have hki : (k : Int) < (n : Int) := by omega
      have hbs : w1.heap.size ≤ wr.heap.size := HB2.out.size
      clear hz hi hznm hc0 hzl
      have HOA := hide (HO3.out.alloc (.cells #[.string i.1] 9))
      have HA := hide (arg_one wr i.1)
      have HBA := hide (below_two HB2.out (below_box wr (.cells #[.string i.1] 9)))
      go_wp2_with (at_builtin; refine wpList_append_arg rfl _ _ rfl w1.heap.size _ xs rfl HOA.out _ _ _ [i.1] rfl HA.out ?d1 ?d2 ?_)
      case d1 => rw [HXL.out]; simp; omega
      case d2 => simp; omega
      intro b2 c2 w2 ho2 hb2
      have HB3 := hide (HBA.out.trans hb2)
      have HO4 := hide ho2
      rw [HXL.out] at HO4
      clear ho2 hb2
      go_wp2_with fail
      go_roundw
      case rel =>
        refine ⟨k + 1, xs ++ [i.1], b2, c2, by omega, by go_num, by rw [HXL.out], ?_, by rw [List.length_append, HXL.out]; exact hide rfl, HO4, HB3⟩
        obtain ⟨hkl, e⟩ := List.getElem?_eq_some_iff.1 HZ.out
        rw [List.take_succ_eq_append_getElem hkl, List.map_append, HXS.out, e]
        exact hide (by rw [← HZN.out]; rfl)
      case measure => simp [intOf]; omega
    · have hki : (n : Int) ≤ (k : Int) := by omega
      have HKN : Hid (k = n) := hide (by omega)
      go_wp2_with fail
      go_ret2
      have e := HKN.out
      have hx := HXS.out
      rw [List.take_of_length_le (by have := HPL.out; omega), HO2.out] at hx
      refine ⟨a', c', by rw [← e]; rfl, ?_, ?_, below_two HB.out HB2.out⟩
      · rw [← hx, ← e]; exact HO3.out.base HB.out.size
      · rw [← hx, HXL.out, e]
set_option maxRecDepth 100000 in
set_option maxHeartbeats 2000000 in
theorem ranks_none (v : Value) (is : List It) (w : World) (ho : OrdO is none) (h : Its w v is) (h9 : is.length < 900) (hr : ∀ i ∈ is, i.2.1.length ≤ 900) :
    Calls Try.prog 11 #[v] w fun e w' => e = .returned (.slice none 0 0) ∧ Below w.heap.size w w' := by
  have HA := hide (arrange_ok v is w h h9 hr)
  have HO := hide ho
  obtain ⟨ia, ic, rfl⟩ := h.form
  clear h hr ho
  go_enter Try.func11, Try.ntmps11
  go_wp2_with fail
  refine HA.out.mono ?_
  rintro e w1 ⟨hb, h1⟩
  obtain ⟨sv, rfl⟩ : ∃ sv, e = .returned (.tuple #[sv, .bool false]) := by
    rcases h1 with ⟨_, e⟩ | ⟨hn, P, a, c, e, _, ha⟩
    · exact ⟨_, e⟩
    · refine ⟨.slice a P.length c, ?_⟩
      have h2 := (ha.ordO hn).one HO.out
      by_cases hl : P.length = is.length
      · rw [if_pos hl] at h2; cases h2
      · have : ((P.length : Int) == (is.length : Int)) = false := by rw [beq_eq_false_iff_ne]; omega
        rw [e, this]
  clear h1
  have HB := hide hb
  clear hb
  go_wp2_with fail
  go_ret
  exact ⟨rfl, HB.out⟩
/-- At which place of the order each item stands. -/
def RanksOf (is : List It) (o : List ByteArray) (R : List Nat) : Prop := R.length = is.length ∧ ∀ (j : Nat) i, is[j]? = some i → ∃ k, R[j]? = some k ∧ o[k]? = some i.1
set_option maxRecDepth 100000 in
set_option maxHeartbeats 4000000 in
theorem ranks_some (v : Value) (is : List It) (o : List ByteArray) (n : Nat) (w : World) (ho : OrdO is (some o)) (hn : is.length = n) (h : Its w v is) (h9 : n < 900) (hr : ∀ i ∈ is, i.2.1.length ≤ 900) :
    Calls Try.prog 11 #[v] w fun e w' => ∃ a c R, e = .returned (.slice a n c) ∧ OwnZ w.heap.size w' (.slice a n c) (numK R) ∧ RanksOf is o R ∧ Below w.heap.size w w' := by
  have HA := hide (arrange_ok v is w h (by omega) hr)
  have HO := hide ho
  have HN := hide hn
  obtain ⟨ia, ic, e⟩ := h.form
  rw [hn] at e
  subst e
  have hmk := run_makeW n (by omega)
  clear h hr ho hn
  go_enter Try.func11, Try.ntmps11
  go_wp2_with fail
  refine HA.out.mono ?_
  rintro e w1 ⟨hb, h1⟩
  obtain ⟨P, a, c, rfl, hop, hpl, hop2, harr⟩ : ∃ P a c, e = .returned (.tuple #[.slice a n c, .bool true]) ∧ OwnZ w.heap.size w1 (.slice a n c) (numK P) ∧ P.length = n ∧ P.map (Hog.nmP is) = o ∧ Arr is P := by
    rcases h1 with ⟨hn, e⟩ | ⟨hn, P, a, c, e, hown, ha⟩
    · rcases HO.out with ⟨k, _⟩ | ⟨_, k⟩
      · exact absurd k hn
      · cases k
    · have h2 := (ha.ordO hn).one HO.out
      by_cases hl : P.length = is.length
      · rw [if_pos hl] at h2
        have h3 : ((P.length : Int) == (is.length : Int)) = true := by rw [beq_iff_eq]; omega
        rw [h3] at e
        rw [hl, HN.out] at e hown
        exact ⟨P, a, c, e, hown, hl.trans HN.out, Option.some.inj h2, ha⟩
      · rw [if_neg hl] at h2; cases h2
  clear h1
  have HB := hide hb
  have HP := hide hop
  have HPL := hide hpl
  have HO2 := hide hop2
  have HARR := hide harr
  clear hb hop hpl hop2 harr HA
  go_wp2_with fail
  have HB2 := hide (below_box w1 (objW n))
  have HR0 : Hid (OwnZ w1.heap.size (w1.alloc (objW n)) (.slice (some ⟨w1.heap.size, 0, none⟩) n n) (numK (List.replicate n 0))) := by
    have hl : (numK (List.replicate n 0)).length = n := by simp [numK]
    have e2 : (numK (List.replicate n 0)).map (Value.int .i64) = List.replicate n (.int .i64 0) := by simp [numK]
    unfold OwnZ
    rw [hl, e2]
    exact hide ⟨by simp, .inr ⟨w1.heap.size, n, (List.replicate n (Value.int .i64 0)).toArray, rfl, Nat.le_refl _, heap_alloc_new w1 _, Nat.le_refl _, by unfold maxLen; omega, by simp, by simp⟩⟩
  clear hmk
  go_loopw [20] (fun i wr => ∃ (k : Nat) (R : List Nat), k ≤ n ∧ i = .int .i64 k ∧ Hid (R.length = n ∧ ∀ (j z : Nat), j < k → P[j]? = some z → R[z]? = some j) ∧ Hid (OwnZ w1.heap.size wr (.slice (some ⟨w1.heap.size, 0, none⟩) n n) (numK R)) ∧ Hid (Below w1.heap.size w1 wr)) (fun i _ => n - (intOf i).toNat)
  case atStart => exact ⟨0, _, Nat.zero_le _, rfl, hide ⟨by simp, fun j z h => absurd h (by omega)⟩, HR0, HB2⟩
  case round =>
    clear HR0 HB2
    obtain ⟨k, R, hk, rfl, HRR, HRO, HB2⟩ := hrel
    by_cases hlt : k < n
    · obtain ⟨z, hz⟩ : ∃ z, P[k]? = some z := ⟨P[k]'(by have := HPL.out; omega), List.getElem?_eq_some_iff.2 ⟨_, rfl⟩⟩
      have hzl := HARR.out.low z (List.mem_of_getElem? hz)
      obtain ⟨pb, rfl, hcz⟩ := (HP.out.below HB2.out).at' hz
      have hzn : z < n := by have := HN.out; omega
      have hzi : (z : Int) < (n : Int) := by omega
      have hki : (k : Int) < (n : Int) := by omega
      obtain ⟨y, hy⟩ : ∃ y, R[z]? = some y := ⟨R[z]'(by have := HRR.out.1; omega), List.getElem?_eq_some_iff.2 ⟨_, rfl⟩⟩
      obtain ⟨gb, e, hcr⟩ := HRO.out.at' hy
      cases e
      have hfr : wr.frozen? ⟨w1.heap.size, z, none⟩ = false := by
        have h2 := HRO.out
        have e2 : n = (numK R).length := by rw [nums_len, HRR.out.1]
        unfold OwnZ at h2
        rw [e2] at h2
        exact World.ownsRow.frozenAt h2 z
      have HZ := hide hz
      have HR3 : Hid (OwnZ w1.heap.size (wr.setCell ⟨w1.heap.size, z, none⟩ (.int .i64 k)) (.slice (some ⟨w1.heap.size, 0, none⟩) n n) (numK (R.set z k))) := by
        have h3 := HRO.out.stored2 (by rw [nums_len, HRR.out.1]) z (k : Int)
        unfold numK
        rw [List.map_set]
        exact hide h3
      have HB3 := hide (HB2.out.setCell (p := ⟨w1.heap.size, z, none⟩) (Nat.le_refl _) (.int .i64 k))
      have HRR2 : Hid ((R.set z k).length = n ∧ ∀ (j z' : Nat), j < k + 1 → P[j]? = some z' → (R.set z k)[z']? = some j) := by
        refine hide ⟨by rw [List.length_set]; exact HRR.out.1, fun j z' hj hz' => ?_⟩
        rw [List.getElem?_set]
        by_cases e : z = z'
        · subst e
          rw [if_pos rfl, if_pos (by have := HRR.out.1; omega)]
          have := (List.getElem?_inj (List.getElem?_eq_some_iff.1 HZ.out).1 HARR.out.each).1 (HZ.out.trans hz'.symm)
          rw [this]
        · rw [if_neg e]
          refine HRR.out.2 j z' (Nat.lt_of_le_of_ne (by omega) fun e2 => e ?_) hz'
          rw [e2, HZ.out] at hz'
          exact Option.some.inj hz'
      clear hz hzl hy
      go_wp2_with fail
      go_roundw
      case rel => exact ⟨k + 1, R.set z k, by omega, by go_num, HRR2, HR3, HB3⟩
      case measure => simp [intOf]; omega
    · have hki : (n : Int) ≤ (k : Int) := by omega
      go_wp2_with fail
      go_ret
      refine ⟨_, _, R, rfl, HRO.out.base HB.out.size, ⟨by rw [HRR.out.1, HN.out], fun j i hj => ?_⟩, below_two HB.out HB2.out⟩
      have hjl := (List.getElem?_eq_some_iff.1 hj).1
      obtain ⟨q, hq⟩ := List.getElem?_of_mem (HARR.out.all (by rw [HPL.out, HN.out]) hjl)
      refine ⟨q, HRR.out.2 q j (by have := (List.getElem?_eq_some_iff.1 hq).1; have := HPL.out; omega) hq, ?_⟩
      rw [← HO2.out, List.getElem?_map, hq]
      show some (Hog.nmP is j) = some i.1
      rw [Hog.nmP_at hj]
end Go.Proofs.Yticpljjbnfimkaa
