/- The walk of the document's own answer, chapter 8: sorted. (The tail stands twice, laid by a script; this is the text that counts.) -/
import Derived.Test.YtinjbijigjfdfaaGreatDoorSM
import Derived.Test.YtinjbijigjfdfaaGreatDoorPlainO
import Derived.RegionTactic
import Derived.Deep.RegionHeld
namespace Go.Proofs.YtinjbijigjfdfaaGreatDoor
open Go.RowKit

/-- An append of texts onto texts of one's own, as a step of a region. -/
theorem step_append_T {ops : Array Oper} {o : Oper} {a : Act} {w : World} {K : Act → World → Prop} {Q : Exit → Act → World → Prop} {E : Prop} (hgd : o.guard = none) (s x : Operand)
    (ho : o.op = .call { callee := .builtin .append, args := #[s, x], argTypes := #[23, 23] })
    (base : Nat) (v : Value) (xs : List ByteArray) (hs : a.eval s = v) (hown : Own base w v xs) (ao : Option Addr) (m c : Nat) (ys : List ByteArray) (hx : a.eval x = .slice ao m c) (hm : ys.length = m) (hnone : ao = none → m = 0 ∧ c = 0)
    (hcell : ∀ ad, ao = some ad → ∀ (j : Nat) y, ys[j]? = some y → w.cell? (ad.add j) = some (.string y))
    (r : Nat) (hr : xs.length + m = r) (zs : List ByteArray) (hz : xs ++ ys = zs) (hlen : r < 1000000) (hbase : base ≤ w.heap.size)
    (h : ∀ b c w', Own base w' (.slice b r c) zs → Below base w w' → K (a.put o.dst (.slice b r c)) w') :
    if Region.wanted o (yielded ops a.tmps) = true then Oper.wp Tryz.prog o a w K Q else E := by
  have hw : Region.wanted o (yielded ops a.tmps) = true := by simp [Region.wanted, hgd]
  rw [if_pos hw]
  subst hz
  subst hr
  obtain ⟨i0, hi, hz0, hz1, hz2⟩ := info_parts A9
  cases ao with
  | none =>
    obtain ⟨rfl, rfl⟩ := hnone rfl
    have hy : ys = [] := List.eq_nil_of_length_eq_zero hm
    subst hy
    have hr := run_append_owned_none (P := Tryz.prog) (w := w) base 23 o.type 9 i0 1 Tryz.underlying23 hi v xs.length (xs.map Value.string) hown
    obtain ⟨b, c', e⟩ := hown.form
    subst e
    unfold Oper.wp
    simp [execOp, ho, resolve, invoke, builtin, hs, hx, hr, Result.andThen]
    exact h b c' w (by simpa using hown) (Below.refl _ _)
  | some ad =>
    obtain ⟨v', w', hr, h2, h3, _⟩ := run_append_own (P := Tryz.prog) w base 23 o.type 9 i0 (.string ByteArray.empty) 1 16 Tryz.underlying23 hi hz0 hz1 hz2 rfl (by decide) v xs.length (xs.map Value.string) hown ad m c (ys.map Value.string) (by simp [hm]) (by
      intro j u hj
      rw [List.getElem?_map] at hj
      cases hy : ys[j]? with
      | none => rw [hy] at hj; cases hj
      | some y => rw [hy] at hj; simp at hj; subst hj; exact hcell ad rfl j y hy) (by
      intro u hu
      obtain ⟨y, _, rfl⟩ := List.mem_map.1 hu
      rfl) (by unfold maxLen; omega) (by omega) hbase
    have h5 : Own base w' v' (xs ++ ys) := Own.joined h2
    obtain ⟨b, c', e⟩ := h5.form
    rw [List.length_append, hm] at e
    subst e
    unfold Oper.wp
    simp [execOp, ho, resolve, invoke, builtin, hs, hx, hr, Result.andThen]
    exact h b c' w' h5 (hown.grownBelow h3 hbase)

theorem wrap_r {n : Int} (h : -9223372036854775808 ≤ n ∧ n ≤ 9223372036854775807) : IntKind.i64.wrap n = n := by
  simp only [IntKind.wrap, IntKind.bits, IntKind.signed, Bool.true_and]
  split <;> rename_i h2 <;> simp only [ge_iff_le, decide_eq_true_eq] at h2 <;> omega
theorem below_draw {w w' : World} (h : Below w.heap.size w w') (n : Nat) : Below w.heap.size w (w'.drewN n) := below_two h (below_drewN (Below.refl w'.heap.size w') n)
theorem one_cellT (w : World) (x : ByteArray) : (w.alloc (.cells #[.string x] 9)).cell? ⟨w.heap.size, 0, none⟩ = some (.string x) := by simp
theorem one_listT {w : World} {g : Nat} {x : ByteArray} (h : w.cell? ⟨g, 0, none⟩ = some (.string x)) : ∀ ad, some (⟨g, 0, none⟩ : Addr) = some ad → ∀ (j : Nat) y, [x][j]? = some y → w.cell? (ad.add j) = some (.string y) := by
  intro ad e j y hy
  cases e
  match j, hy with
  | 0, hy => simp at hy; subst hy; rw [add_plain]; exact h
  | j + 1, hy => simp at hy
theorem Own.ways {base : Nat} {w : World} {a : Option Addr} {q c : Nat} {L : List ByteArray} (h : Own base w (.slice a q c) L) :
    (a = none ∧ q = 0 ∧ c = 0 ∧ L = []) ∨ ∃ g, a = some ⟨g, 0, none⟩ ∧ q = L.length ∧ q ≤ c ∧ g < w.heap.size ∧ ∀ (j : Nat) x, L[j]? = some x → w.cell? ⟨g, j, none⟩ = some (.string x) := by
  have ht := h.txt
  obtain ⟨_, h2⟩ := h
  rcases h2 with ⟨e, h0⟩ | ⟨g, cap, cur, e, hb, hg, hn, hm, hs, htk⟩
  · obtain ⟨rfl, rfl, rfl⟩ : a = none ∧ q = 0 ∧ c = 0 := by simpa using e
    exact .inl ⟨rfl, rfl, rfl, List.eq_nil_of_length_eq_zero h0⟩
  · obtain ⟨rfl, rfl, rfl⟩ : a = some ⟨g, 0, none⟩ ∧ q = L.length ∧ c = cap := by simpa using e
    refine .inr ⟨g, rfl, rfl, hn, (Array.getElem?_eq_some_iff.1 hg).1, fun j x hx => ?_⟩
    have hj : (L.map Value.string)[j]? = some (.string x) := by simp [hx]
    rw [← htk, List.getElem?_take] at hj
    split at hj
    · rw [World.cell?, hg]; simpa using hj
    · cases hj
/-- A row's end, cut off at k. -/
theorem Own.cut {base : Nat} {w : World} {a : Option Addr} {q c : Nat} {L : List ByteArray} (h : Own base w (.slice a q c) L) (k : Nat) (hk : k ≤ q) :
    ∃ (a' : Option Addr) (c' : Nat), ((a = none ∧ q = 0 ∧ c = 0 ∧ k = 0 ∧ a' = none ∧ c' = 0) ∨ (∃ g, a = some ⟨g, 0, none⟩ ∧ c = k ∧ q = k ∧ a' = some ⟨g, 0, none⟩ ∧ c' = 0) ∨ (∃ g, a = some ⟨g, 0, none⟩ ∧ ¬ c = k ∧ q ≤ c ∧ a' = some ⟨g, k, none⟩ ∧ c' = c - k)) ∧
      (a' = none → q - k = 0 ∧ c' = 0) ∧ (∀ ad, a' = some ad → ∀ (j : Nat) y, (L.drop k)[j]? = some y → w.cell? (ad.add j) = some (.string y) ∧ (ad.add j).block < w.heap.size) := by
  rcases h.ways with ⟨rfl, rfl, rfl, rfl⟩ | ⟨g, rfl, hq, hc, hg, hcell⟩
  · exact ⟨none, 0, .inl ⟨rfl, rfl, rfl, by omega, rfl, rfl⟩, fun _ => ⟨by omega, rfl⟩, fun ad e => by cases e⟩
  · by_cases hck : c = k
    · refine ⟨some ⟨g, 0, none⟩, 0, .inr (.inl ⟨g, rfl, hck, by omega, rfl, rfl⟩), (fun e => by cases e), fun ad e j y hy => ?_⟩
      rw [List.drop_eq_nil_of_le (by omega)] at hy
      simp at hy
    · refine ⟨some ⟨g, k, none⟩, c - k, .inr (.inr ⟨g, rfl, hck, hc, rfl, rfl⟩), (fun e => by cases e), fun ad e j y hy => ?_⟩
      cases e
      rw [List.getElem?_drop] at hy
      rw [add_plain]
      exact ⟨hcell (k + j) y hy, hg⟩
theorem Own.front {base : Nat} {w : World} {a : Option Addr} {q c : Nat} {L : List ByteArray} (h : Own base w (.slice a q c) L) (k : Nat) (hk : k ≤ q) :
    (a = none → k = 0 ∧ c = 0) ∧ k ≤ c ∧ (∀ ad, a = some ad → ∀ (j : Nat) y, (L.take k)[j]? = some y → w.cell? (ad.add j) = some (.string y) ∧ (ad.add j).block < w.heap.size) := by
  rcases h.ways with ⟨rfl, rfl, rfl, rfl⟩ | ⟨g, rfl, hq, hc, hg, hcell⟩
  · exact ⟨fun _ => ⟨by omega, rfl⟩, by omega, fun ad e => by cases e⟩
  · refine ⟨(fun e => by cases e), by omega, fun ad e j y hy => ?_⟩
    cases e
    rw [add_plain, Nat.zero_add]
    refine ⟨hcell j y ?_, hg⟩
    rw [List.getElem?_take] at hy
    split at hy
    · exact hy
    · cases hy
/-- The names of which it is true, as texts. -/
def onT (xs : List ByteArray) (bs : List Bool) (k : Nat) (y : List UInt8) : Prop := ∃ j x, j < k ∧ xs[j]? = some x ∧ bs[j]? = some true ∧ x.data.toList = y
theorem onT_no {xs : List ByteArray} {bs : List Bool} {k : Nat} {y : List UInt8} (h : bs[k]? = some false) : onT xs bs (k + 1) y ↔ onT xs bs k y := by
  constructor
  · rintro ⟨j, x, hj, h1, h2, h3⟩
    by_cases e : j = k
    · subst e; rw [h] at h2; cases h2
    · exact ⟨j, x, by omega, h1, h2, h3⟩
  · rintro ⟨j, x, hj, r⟩
    exact ⟨j, x, by omega, r⟩
theorem onT_yes {xs : List ByteArray} {bs : List Bool} {k : Nat} {x : ByteArray} {y : List UInt8} (hx : xs[k]? = some x) (h : bs[k]? = some true) : onT xs bs (k + 1) y ↔ onT xs bs k y ∨ y = x.data.toList := by
  constructor
  · rintro ⟨j, z, hj, h1, h2, h3⟩
    by_cases e : j = k
    · subst e; rw [hx] at h1; cases h1; exact .inr h3.symm
    · exact .inl ⟨j, z, by omega, h1, h2, h3⟩
  · rintro (⟨j, z, hj, r⟩ | e)
    · exact ⟨j, z, by omega, r⟩
    · exact ⟨k, x, by omega, hx, h, e.symm⟩
theorem plain_at {L : List ByteArray} {k : Nat} {y : ByteArray} (h : L[k]? = some y) : (plainT L)[k]? = some y.data.toList := by unfold plainT; rw [List.getElem?_map, h]; rfl
theorem plain_inj {L R : List ByteArray} (h : plainT L = plainT R) : L = R := by rw [← mk_plain L, h, mk_plain]
theorem plain_ins (L : List ByteArray) (x : ByteArray) (k : Nat) : plainT (L.take k ++ [x] ++ L.drop k) = (plainT L).take k ++ [x.data.toList] ++ (plainT L).drop k := by
  unfold plainT
  rw [List.map_append, List.map_append, List.map_take, List.map_drop]
  rfl

set_option maxRecDepth 100000 in
set_option maxHeartbeats 4000000 in
theorem rsorted_ok (v : Value) (bi cb n : Nat) (xs R : List ByteArray) (bs : List Bool) (w : World) (hv : Txt w v xs) (hn : xs.length = n) (hn9 : n ≤ 900) (hbi : bi < w.heap.size)
    (hbs : ∀ (j : Nat) x, bs[j]? = some x → w.cell? ⟨bi, j, none⟩ = some (.bool x)) (hbl : bs.length = n) (hR : Hog.rise (plainT R)) (hM : ∀ y, y ∈ plainT R ↔ onT xs bs n y) :
    Calls Tryz.prog 51 #[v, .slice (some ⟨bi, 0, none⟩) n cb] w fun e w' => ∃ a c, e = .returned (.slice a R.length c) ∧ Own w.heap.size w' (.slice a R.length c) R ∧ Below w.heap.size w w' := by
  obtain ⟨av, cv, e⟩ := hv.form
  rw [hn] at e
  subst e
  have HV := hide hv
  have HN := hide hn
  have HBS := hide hbs
  have HBL := hide hbl
  have HR := hide hR
  have HM := hide hM
  have hni : (n : Int) ≤ 900 := by omega
  clear hv hn hbs hbl hR hM
  go_enter Tryz.func51, Tryz.ntmps51
  go_wp2
  go_loopw [5, 6] (fun u i wr => ∃ (i0 q : Nat) (a : Option Addr) (c : Nat), i0 ≤ n ∧ q ≤ i0 ∧ u = .slice a q c ∧ i = .int .i64 i0 ∧ Hid (∃ L, L.length = q ∧ Own w.heap.size wr (.slice a q c) L ∧ Hog.rise (plainT L) ∧ ∀ y, y ∈ plainT L ↔ onT xs bs i0 y) ∧ Hid (Below w.heap.size w wr)) (fun _ i _ => n - (intOf i).toNat)
  case atStart => exact ⟨0, 0, none, 0, Nat.zero_le _, Nat.le_refl _, rfl, rfl, ⟨[], rfl, Own.nil _ _, List.Pairwise.nil, fun y => ⟨fun h => by simp [plainT] at h, fun ⟨j, _, hj, _⟩ => by omega⟩⟩, Below.refl _ _⟩
  case round =>
    obtain ⟨i, q, a, c, hi, hq, rfl, rfl, hex, hbl⟩ := hrel
    by_cases hlt : i < n
    case neg =>
      have hii : (n : Int) ≤ (i : Int) := by omega
      have HE : Hid (q = R.length ∧ Own w.heap.size wr (.slice a q c) R) := by
        obtain ⟨L, h1, h2, h3, h4⟩ := hex.out
        have e : i = n := by omega
        subst e
        have : L = R := plain_inj (Hog.rise_one h3 HR.out fun y => by rw [h4, HM.out])
        subst this
        exact ⟨h1.symm, h2⟩
      clear hex hlt hi hq
      go_wp2
      go_ret
      obtain ⟨e1, e2⟩ := HE.out
      rw [e1] at e2 ⊢
      exact ⟨a, c, rfl, e2, hbl.out⟩
    obtain ⟨x, hx⟩ : ∃ x, xs[i]? = some x := ⟨xs[i]'(by have := HN.out; omega), List.getElem?_eq_some_iff.2 ⟨_, rfl⟩⟩
    obtain ⟨bo, hbo⟩ : ∃ x, bs[i]? = some x := ⟨bs[i]'(by have := HBL.out; omega), List.getElem?_eq_some_iff.2 ⟨_, rfl⟩⟩
    rcases id HV.out with ⟨e, _⟩ | ⟨g, o, c', e, _, hg, hcell⟩
    · rw [e] at hx
      simp at hx
    obtain ⟨rfl, hzz, rfl⟩ : av = some ⟨g, o, none⟩ ∧ n = xs.length ∧ cv = c' := by simpa using e
    have hc1 := (hbl.out.cell (p := ⟨g, o + i, none⟩) hg).trans (hcell i x hx)
    have hc2 := (hbl.out.cell (p := ⟨bi, i, none⟩) hbi).trans (HBS.out i bo hbo)
    have hii : (i : Int) < (n : Int) := by omega
    have HXI := hide hx
    have HBO := hide hbo
    clear hzz e hx hbo hcell
    cases bo with
    | false =>
      go_wp2
      go_roundw
      case rel => exact ⟨i + 1, q, a, c, by omega, by omega, rfl, by go_num, hide (by
        obtain ⟨L, h1, h2, h3, h4⟩ := hex.out
        exact ⟨L, h1, h2, h3, fun y => by rw [h4, onT_no HBO.out]⟩), hbl⟩
      case measure => simp [intOf]; omega
    | true =>
      obtain ⟨L, h1, h2, h3, h4⟩ := hex.out
      have HL := hide h1
      have HO := hide h2
      have HRL := hide h3
      have HML := hide h4
      clear h1 h2 h3 h4 hex
      go_wp2
      go_loopw [7] (fun u wx => ∃ k : Nat, k ≤ q ∧ u = .int .i64 k ∧ Hid (∀ z ∈ (plainT L).drop k, Hog.lt x.data.toList z) ∧ Hid (Below wr.heap.size wr wx)) (fun u _ => (intOf u).toNat)
      case atStart => exact ⟨q, Nat.le_refl _, rfl, (by intro z hz; rw [List.drop_eq_nil_of_le (by unfold plainT; rw [List.length_map, HL.out]; exact Nat.le_refl _)] at hz; simp at hz), Below.refl _ _⟩
      case round =>
        rename World => wx
        obtain ⟨k, hk, rfl, hdr, hbx⟩ := hrel
        by_cases hk0 : k = 0
        · have hkd : decide (0 < k) = false := by rw [decide_eq_false_iff_not]; omega
          have HAH : Hid (∀ z ∈ (plainT L).take k, Hog.lt z x.data.toList) := by rw [hk0]; intro z hz; simp at hz
          clear hk0
          go_wp2
          go_quiet (fail)
          rename Nat => n1
          go_wp2
          go_quiet (fail)
          go_wp2
          obtain ⟨hf1, hf2, hf3⟩ := (HO.out.below hbx.out).front k hk
          obtain ⟨a', c', hcw, hcn, hcc⟩ := (HO.out.below hbx.out).cut k hk
          have hf2i : (k : Int) ≤ (c : Int) := by omega
          have hkq : (k : Int) ≤ (q : Int) := by omega
          have HF3 := hide hf3
          have HCC := hide hcc
          have HCW := hide hcw
          have HF1 := hide hf1
          have HCN := hide hcn
          have hS00 : Below wx.heap.size wx ((wx.drewN n1).drewN nq) := below_draw (below_draw (Below.refl _ wx) n1) nq
          have hS0 : Below wx.heap.size wx ((wx.drewN n1).drewN nq).drew := hS00.drew
          have hgx : g < wx.heap.size := Nat.lt_of_lt_of_le hg (below_two hbl.out hbx.out).size
          have hcx := (hbx.out.cell (p := ⟨g, o + i, none⟩) (Nat.lt_of_lt_of_le hg hbl.out.size)).trans hc1
          have HCX := hide hcx
          clear hf1 hf2 hf3 hcw hcn hcc hcx
          refine wp_region_held (S := fun w' => Below wx.heap.size wx w') (by kernel_rfl) ?_
          change wpAnyH _ _ _ _ _ _ _ _ (World.drew _)
          refine wpAnyH_take (i := 0) (v := .slice a q c) rfl (by kernel_rfl) (by kernel_rfl) (by kernel_rfl) (fun _ _ _ h => h) (Or.inl ⟨by kernel_rfl, ?_⟩) hS0 ?_
          · intro w' hw'
            go_simp
          refine wpAnyH_take (i := 1) (v := .int .i64 k) rfl (by kernel_rfl) (by kernel_rfl) (by kernel_rfl) (fun _ _ _ h => h) (Or.inl ⟨by kernel_rfl, ?_⟩) hS0 ?_
          · intro w' hw'
            go_simp
          refine wpAnyH_take (i := 2) (v := .slice a k c) rfl (by kernel_rfl) (by kernel_rfl) (by kernel_rfl) (fun _ _ _ h => h) (Or.inl ⟨by kernel_rfl, ?_⟩) hS0 ?_
          · intro w' hw'
            rcases a with _ | ad
            · obtain ⟨e1, e2⟩ := HF1.out rfl
              subst e1
              subst e2
              go_simp
            · clear HF1 HCW HF3 HCC HCN
              go_simp
          refine wpAnyH_take (i := 4) (v := .slice (some ⟨g, o, none⟩) n cv) rfl (by kernel_rfl) (by kernel_rfl) (by kernel_rfl) (fun _ _ _ h => h) (Or.inl ⟨by kernel_rfl, ?_⟩) hS0 ?_
          · intro w' hw'
            go_simp
          refine wpAnyH_take (i := 5) (v := .int .i64 i) rfl (by kernel_rfl) (by kernel_rfl) (by kernel_rfl) (fun _ _ _ h => h) (Or.inl ⟨by kernel_rfl, ?_⟩) hS0 ?_
          · intro w' hw'
            go_simp
          refine wpAnyH_take (i := 6) (v := .pointer (some ⟨g, o + i, none⟩)) rfl (by kernel_rfl) (by kernel_rfl) (by kernel_rfl) (fun _ _ _ h => h) (Or.inl ⟨by kernel_rfl, ?_⟩) hS0 ?_
          · intro w' hw'
            go_simp
          refine wpAnyH_take (i := 7) (v := .string x) rfl (by kernel_rfl) (by kernel_rfl) (by kernel_rfl) (fun _ _ _ h => h) (Or.inl ⟨by kernel_rfl, ?_⟩) hS0 ?_
          · intro w' hw'
            have hc9 := (hw'.cell (p := ⟨g, o + i, none⟩) hgx).trans HCX.out
            go_simp
          refine wpAnyH_take (i := 10) (v := .slice a q c) rfl (by kernel_rfl) (by kernel_rfl) (by kernel_rfl) (fun _ _ _ h => h) (Or.inl ⟨by kernel_rfl, ?_⟩) hS0 ?_
          · intro w' hw'
            go_simp
          refine wpAnyH_take (i := 11) (v := .int .i64 k) rfl (by kernel_rfl) (by kernel_rfl) (by kernel_rfl) (fun _ _ _ h => h) (Or.inl ⟨by kernel_rfl, ?_⟩) hS0 ?_
          · intro w' hw'
            go_simp
          refine wpAnyH_take (i := 12) (v := .slice a' (q - k) c') rfl (by kernel_rfl) (by kernel_rfl) (by kernel_rfl) (fun _ _ _ h => h) (Or.inl ⟨by kernel_rfl, ?_⟩) hS0 ?_
          · intro w' hw'
            rcases HCW.out with ⟨e1, e2, e3, e4, e5, e6⟩ | ⟨ga, e1, e2, e3, e5, e6⟩ | ⟨ga, e1, e2, e3, e5, e6⟩
            · subst e1 e2 e3 e4 e5 e6
              go_simp
            · subst e1 e5 e6
              clear HCW HF3 HCC HCN HF1
              go_simp
            · subst e1 e5 e6
              clear HCW HF3 HCC HCN HF1
              go_simp
          refine wpAnyH_ready (rs := [3, 8]) (by kernel_rfl) (by simp) (AllReadyH.cons rfl (fun K hK => ?_) (AllReadyH.cons rfl (fun K hK => ?_) AllReadyH.nil))
          · refine step_append_T rfl (.const (.slice none 0 0)) (.tmp 53) rfl wx.heap.size _ [] rfl (Own.nil _ _) a k c (L.take k) (by first | (simp [Act.eval]; done) | simp [Act.eval, Act.put]) (by rw [List.length_take, HL.out]; omega) HF1.out (fun ad e j y hy => (hS0.cell (p := ad.add j) (HF3.out ad e j y hy).2).trans (HF3.out ad e j y hy).1) k (by simp) _ (List.nil_append _) (by omega) hS0.size ?_
            intro b5 c5 w5 ho5 hb5
            have hS5 : Below wx.heap.size wx w5 := hS0.trans hb5
            refine hK.out _ _ hS5 (fun _ => ?_)
            clear hK K
            have hS6 : Below wx.heap.size wx (w5.alloc (.cells #[.string x] 9)) := hS5.trans ((below_box w5 _).mono hS5.size)
            have HO6 := hide (ho5.alloc (.cells #[.string x] 9))
            refine wpAnyH_ready (rs := [8]) (by kernel_rfl) (by simp) (AllReadyH.cons rfl (fun K hK => ?_) AllReadyH.nil)
            go_simp
            refine hK.out _ _ hS6 (fun _ => ?_)
            clear hK K
            refine wpAnyH_ready (rs := [9]) (by kernel_rfl) (by simp) (AllReadyH.cons rfl (fun K hK => ?_) AllReadyH.nil)
            refine step_append_T rfl (.tmp 54) (.tmp 59) rfl wx.heap.size _ (L.take k) (by first | (simp [Act.eval]; done) | simp [Act.eval, Act.put]) HO6.out (some ⟨w5.heap.size, 0, none⟩) 1 1 [x] (by first | (simp [Act.eval]; done) | simp [Act.eval, Act.put]) rfl (fun e => by cases e) (one_listT (one_cellT w5 x)) (k + 1) (by rw [List.length_take, HL.out]; omega) _ rfl (by omega) hS6.size ?_
            intro b7 c7 w7 ho7 hb7
            have hS7 : Below wx.heap.size wx w7 := hS6.trans hb7
            refine hK.out _ _ hS7 (fun _ => ?_)
            clear hK K
            refine wpAnyH_ready (rs := [13]) (by kernel_rfl) (by simp) (AllReadyH.cons rfl (fun K hK => ?_) AllReadyH.nil)
            refine step_append_T rfl (.tmp 60) (.tmp 63) rfl wx.heap.size _ (L.take k ++ [x]) (by first | (simp [Act.eval]; done) | simp [Act.eval, Act.put]) ho7 a' (q - k) c' (L.drop k) (by first | (simp [Act.eval]; done) | simp [Act.eval, Act.put]) (by rw [List.length_drop, HL.out]) HCN.out (fun ad e j y hy => (hS7.cell (p := ad.add j) (HCC.out ad e j y hy).2).trans (HCC.out ad e j y hy).1) (q + 1) (by rw [List.length_append, List.length_take, HL.out]; simp; omega) _ rfl (by omega) hS7.size ?_
            intro b9 c9 w9 ho9 hb9

            have hS9 : Below wx.heap.size wx w9 := hS7.trans hb9
            have HO9 : Hid (Own w.heap.size w9 (.slice b9 (q + 1) c9) (L.take k ++ [x] ++ L.drop k)) := ho9.base (below_two hbl.out hbx.out).size
            have HB9 := hide (below_two (below_two hbl.out hbx.out) hS9)
            clear ho9 hb9 hS7
            refine hK.out _ _ hS9 (fun _ => ?_)
            clear hK K
            refine wpAnyH_take (i := 14) (v := .slice b9 (q + 1) c9) rfl (by kernel_rfl) (by kernel_rfl) (by kernel_rfl) (fun _ _ _ h => h) (Or.inl ⟨by kernel_rfl, ?_⟩) hS9 ?_
            · intro w' hw'
              go_simp
            refine wpAnyH_done (by kernel_rfl) ?_ _
            go_wp2
            go_roundw
            case rel => exact ⟨i + 1, q + 1, b9, c9, by omega, by omega, rfl, by go_num, hide ⟨L.take k ++ [x] ++ L.drop k, by
                rw [List.length_append, List.length_append, List.length_take, List.length_drop, HL.out]
                simp
                omega, HO9.out, by
                rw [plain_ins]
                exact Hog.insert_rise HRL.out hdr.out HAH.out, fun y => by
                rw [plain_ins, Hog.insert_mem, HML.out, onT_yes HXI.out HBO.out]⟩, HB9⟩
            case measure => simp [intOf]; omega
          · have hS4 : Below wx.heap.size wx ((wx.drewN (n1 + nq + 1)).alloc (.cells #[.string x] 9)) := below_two (below_draw (Below.refl _ wx) (n1 + nq + 1)) (below_box _ _)
            have HC4 : Hid (((wx.drewN (n1 + nq + 1)).alloc (.cells #[.string x] 9)).cell? ⟨wx.heap.size, 0, none⟩ = some (.string x)) := one_cellT (wx.drewN (n1 + nq + 1)) x
            go_simp
            refine hK.out _ _ hS4 (fun _ => ?_)
            clear hK K
            refine wpAnyH_ready (rs := [3]) (by kernel_rfl) (by simp) (AllReadyH.cons rfl (fun K hK => ?_) AllReadyH.nil)
            refine step_append_T rfl (.const (.slice none 0 0)) (.tmp 53) rfl (wx.heap.size + 1) _ [] rfl (Own.nil _ _) a k c (L.take k) (by first | (simp [Act.eval]; done) | simp [Act.eval, Act.put]) (by rw [List.length_take, HL.out]; omega) HF1.out (fun ad e j y hy => (hS4.cell (p := ad.add j) (HF3.out ad e j y hy).2).trans (HF3.out ad e j y hy).1) k (by simp) _ (List.nil_append _) (by omega) (by simp) ?_
            intro b5 c5 w5 ho5 hb5
            have HC5 : Hid (w5.cell? ⟨wx.heap.size, 0, none⟩ = some (.string x)) := (hb5.cell (p := ⟨wx.heap.size, 0, none⟩) (Nat.lt_succ_self _)).trans HC4.out
            replace hb5 := hb5.mono (Nat.le_succ wx.heap.size)
            replace ho5 := ho5.base (Nat.le_succ wx.heap.size)
            have hS5 : Below wx.heap.size wx w5 := hS4.trans hb5
            refine hK.out _ _ hS5 (fun _ => ?_)
            clear hK K
            refine wpAnyH_ready (rs := [9]) (by kernel_rfl) (by simp) (AllReadyH.cons rfl (fun K hK => ?_) AllReadyH.nil)
            refine step_append_T rfl (.tmp 54) (.tmp 59) rfl wx.heap.size _ (L.take k) (by first | (simp [Act.eval]; done) | simp [Act.eval, Act.put]) ho5 (some ⟨wx.heap.size, 0, none⟩) 1 1 [x] (by first | (simp [Act.eval]; done) | simp [Act.eval, Act.put]) rfl (fun e => by cases e) (one_listT HC5.out) (k + 1) (by rw [List.length_take, HL.out]; omega) _ rfl (by omega) hS5.size ?_
            intro b7 c7 w7 ho7 hb7
            have hS7 : Below wx.heap.size wx w7 := hS5.trans hb7
            refine hK.out _ _ hS7 (fun _ => ?_)
            clear hK K
            refine wpAnyH_ready (rs := [13]) (by kernel_rfl) (by simp) (AllReadyH.cons rfl (fun K hK => ?_) AllReadyH.nil)
            refine step_append_T rfl (.tmp 60) (.tmp 63) rfl wx.heap.size _ (L.take k ++ [x]) (by first | (simp [Act.eval]; done) | simp [Act.eval, Act.put]) ho7 a' (q - k) c' (L.drop k) (by first | (simp [Act.eval]; done) | simp [Act.eval, Act.put]) (by rw [List.length_drop, HL.out]) HCN.out (fun ad e j y hy => (hS7.cell (p := ad.add j) (HCC.out ad e j y hy).2).trans (HCC.out ad e j y hy).1) (q + 1) (by rw [List.length_append, List.length_take, HL.out]; simp; omega) _ rfl (by omega) hS7.size ?_
            intro b9 c9 w9 ho9 hb9

            have hS9 : Below wx.heap.size wx w9 := hS7.trans hb9
            have HO9 : Hid (Own w.heap.size w9 (.slice b9 (q + 1) c9) (L.take k ++ [x] ++ L.drop k)) := ho9.base (below_two hbl.out hbx.out).size
            have HB9 := hide (below_two (below_two hbl.out hbx.out) hS9)
            clear ho9 hb9 hS7
            refine hK.out _ _ hS9 (fun _ => ?_)
            clear hK K
            refine wpAnyH_take (i := 14) (v := .slice b9 (q + 1) c9) rfl (by kernel_rfl) (by kernel_rfl) (by kernel_rfl) (fun _ _ _ h => h) (Or.inl ⟨by kernel_rfl, ?_⟩) hS9 ?_
            · intro w' hw'
              go_simp
            refine wpAnyH_done (by kernel_rfl) ?_ _
            go_wp2
            go_roundw
            case rel => exact ⟨i + 1, q + 1, b9, c9, by omega, by omega, rfl, by go_num, hide ⟨L.take k ++ [x] ++ L.drop k, by
                rw [List.length_append, List.length_append, List.length_take, List.length_drop, HL.out]
                simp
                omega, HO9.out, by
                rw [plain_ins]
                exact Hog.insert_rise HRL.out hdr.out HAH.out, fun y => by
                rw [plain_ins, Hog.insert_mem, HML.out, onT_yes HXI.out HBO.out]⟩, HB9⟩
            case measure => simp [intOf]; omega
        · obtain ⟨j, hj⟩ : ∃ j, k = j + 1 := ⟨k - 1, by omega⟩
          obtain ⟨y, hy⟩ : ∃ y, L[j]? = some y := ⟨L[j]'(by have := HL.out; omega), List.getElem?_eq_some_iff.2 ⟨_, rfl⟩⟩
          rcases HO.out.ways with ⟨e1, e2, e3, e4⟩ | ⟨ga, e1, e2, e3, hga, hcl⟩
          · omega
          subst e1
          have hc3 := (hbx.out.cell (p := ⟨ga, j, none⟩) hga).trans (hcl j y hy)
          have hc4 := (hbx.out.cell (p := ⟨g, o + i, none⟩) (Nat.lt_of_lt_of_le hg hbl.out.size)).trans hc1
          have hkd : decide (0 < k) = true := by rw [decide_eq_true_eq]; omega
          have hkj : (k : Int) - 1 = (j : Int) := by omega
          have hkw : IntKind.i64.wrap ((k : Int) - 1) = (j : Int) := by rw [hkj]; exact wrap_r (by omega)
          have hjq : (j : Int) < (q : Int) := by omega
          have HJ := hide hj
          have HY := hide (plain_at hy)
          clear hk0 e2 e3 hcl hj hy
          rcases Hog.less_three x.data.toList y.data.toList with hl | hl | hl
          · have hl1 : Op.bytesLess y.toList x.toList = false := by
              rw [Lib.toList_data, Lib.toList_data]
              exact Bool.eq_false_iff.2 (Hog.lt_asymm hl)
            have hl2 : (y.toList == x.toList) = false := by
              rw [Lib.toList_data, Lib.toList_data, beq_eq_false_iff_ne]
              intro e
              rw [e] at hl
              exact Hog.lt_irr _ hl
            have HLT : Hid (Hog.lt x.data.toList y.data.toList) := hl
            clear hl
            go_wp2
            go_quiet (fail)
            go_wp2
            go_roundw
            case rel =>
              refine ⟨j, by have := HJ.out; omega, ?_, ?_, hide (below_draw hbx.out nq)⟩
              · first | rfl | go_num
              · have h := hdr.out
                rw [HJ.out] at h
                exact Hog.behind_more HY.out HLT.out h
            case measure => simp [intOf]; have := HJ.out; omega
          · have hl2 : (y.toList == x.toList) = true := by
              rw [Lib.toList_data, Lib.toList_data, hl]
              exact beq_self_eq_true _
            have hor : (Op.bytesLess y.toList x.toList = true ∨ (y.toList == x.toList) = true) := .inr hl2
            have HEQ : Hid (x.data.toList = y.data.toList) := hl
            clear hl
            go_wp2
            go_quiet (fail)
            rename Nat => n1
            go_wp2
            go_quiet (fail)
            go_wp2
            go_roundw
            case rel => exact ⟨i + 1, q, some ⟨ga, 0, none⟩, c, by omega, by omega, rfl, by go_num, hide ⟨L, HL.out, HO.out.below (below_draw hbx.out (n1 + nq)), HRL.out, fun z => by
                rw [HML.out, onT_yes HXI.out HBO.out]
                constructor
                · exact fun h => .inl h
                · rintro (h | h)
                  · exact h
                  · rw [h, HEQ.out, ← HML.out]
                    exact List.mem_of_getElem? HY.out⟩, hide (below_two hbl.out (below_draw hbx.out (n1 + nq)))⟩
            case measure => simp [intOf]; omega
          · have hl1 : Op.bytesLess y.toList x.toList = true := by
              rw [Lib.toList_data, Lib.toList_data]
              exact hl
            have hl2 : (y.toList == x.toList) = false := by
              rw [Lib.toList_data, Lib.toList_data, beq_eq_false_iff_ne]
              intro e
              rw [e] at hl
              exact Hog.lt_irr _ hl
            have HAH : Hid (∀ z ∈ (plainT L).take k, Hog.lt z x.data.toList) := by rw [HJ.out]; exact Hog.ahead_less HRL.out HY.out hl
            clear hl
            go_wp2
            go_quiet (fail)
            rename Nat => n1
            go_wp2
            go_quiet (fail)
            go_wp2
            obtain ⟨hf1, hf2, hf3⟩ := (HO.out.below hbx.out).front k hk
            obtain ⟨a', c', hcw, hcn, hcc⟩ := (HO.out.below hbx.out).cut k hk
            have hf2i : (k : Int) ≤ (c : Int) := by omega
            have hkq : (k : Int) ≤ (q : Int) := by omega
            have HF3 := hide hf3
            have HCC := hide hcc
            have HCW := hide hcw
            have HF1 := hide hf1
            have HCN := hide hcn
            have hS00 : Below wx.heap.size wx ((wx.drewN n1).drewN nq) := below_draw (below_draw (Below.refl _ wx) n1) nq
            have hS0 : Below wx.heap.size wx ((wx.drewN n1).drewN nq).drew := hS00.drew
            have hgx : g < wx.heap.size := Nat.lt_of_lt_of_le hg (below_two hbl.out hbx.out).size
            have hcx := (hbx.out.cell (p := ⟨g, o + i, none⟩) (Nat.lt_of_lt_of_le hg hbl.out.size)).trans hc1
            have HCX := hide hcx
            clear hf1 hf2 hf3 hcw hcn hcc hcx
            refine wp_region_held (S := fun w' => Below wx.heap.size wx w') (by kernel_rfl) ?_
            change wpAnyH _ _ _ _ _ _ _ _ (World.drew _)
            refine wpAnyH_take (i := 0) (v := .slice (some ⟨ga, 0, none⟩) q c) rfl (by kernel_rfl) (by kernel_rfl) (by kernel_rfl) (fun _ _ _ h => h) (Or.inl ⟨by kernel_rfl, ?_⟩) hS0 ?_
            · intro w' hw'
              go_simp
            refine wpAnyH_take (i := 1) (v := .int .i64 k) rfl (by kernel_rfl) (by kernel_rfl) (by kernel_rfl) (fun _ _ _ h => h) (Or.inl ⟨by kernel_rfl, ?_⟩) hS0 ?_
            · intro w' hw'
              go_simp
            refine wpAnyH_take (i := 2) (v := .slice (some ⟨ga, 0, none⟩) k c) rfl (by kernel_rfl) (by kernel_rfl) (by kernel_rfl) (fun _ _ _ h => h) (Or.inl ⟨by kernel_rfl, ?_⟩) hS0 ?_
            · intro w' hw'
              clear HF1 HCW HF3 HCC HCN
              go_simp
            refine wpAnyH_take (i := 4) (v := .slice (some ⟨g, o, none⟩) n cv) rfl (by kernel_rfl) (by kernel_rfl) (by kernel_rfl) (fun _ _ _ h => h) (Or.inl ⟨by kernel_rfl, ?_⟩) hS0 ?_
            · intro w' hw'
              go_simp
            refine wpAnyH_take (i := 5) (v := .int .i64 i) rfl (by kernel_rfl) (by kernel_rfl) (by kernel_rfl) (fun _ _ _ h => h) (Or.inl ⟨by kernel_rfl, ?_⟩) hS0 ?_
            · intro w' hw'
              go_simp
            refine wpAnyH_take (i := 6) (v := .pointer (some ⟨g, o + i, none⟩)) rfl (by kernel_rfl) (by kernel_rfl) (by kernel_rfl) (fun _ _ _ h => h) (Or.inl ⟨by kernel_rfl, ?_⟩) hS0 ?_
            · intro w' hw'
              go_simp
            refine wpAnyH_take (i := 7) (v := .string x) rfl (by kernel_rfl) (by kernel_rfl) (by kernel_rfl) (fun _ _ _ h => h) (Or.inl ⟨by kernel_rfl, ?_⟩) hS0 ?_
            · intro w' hw'
              have hc9 := (hw'.cell (p := ⟨g, o + i, none⟩) hgx).trans HCX.out
              go_simp
            refine wpAnyH_take (i := 10) (v := .slice (some ⟨ga, 0, none⟩) q c) rfl (by kernel_rfl) (by kernel_rfl) (by kernel_rfl) (fun _ _ _ h => h) (Or.inl ⟨by kernel_rfl, ?_⟩) hS0 ?_
            · intro w' hw'
              go_simp
            refine wpAnyH_take (i := 11) (v := .int .i64 k) rfl (by kernel_rfl) (by kernel_rfl) (by kernel_rfl) (fun _ _ _ h => h) (Or.inl ⟨by kernel_rfl, ?_⟩) hS0 ?_
            · intro w' hw'
              go_simp
            refine wpAnyH_take (i := 12) (v := .slice a' (q - k) c') rfl (by kernel_rfl) (by kernel_rfl) (by kernel_rfl) (fun _ _ _ h => h) (Or.inl ⟨by kernel_rfl, ?_⟩) hS0 ?_
            · intro w' hw'
              rcases HCW.out with ⟨e1, e2, e3, e4, e5, e6⟩ | ⟨gb, e1, e2, e3, e5, e6⟩ | ⟨gb, e1, e2, e3, e5, e6⟩
              · cases e1
              · cases e1
                subst e5 e6
                clear HCW HF3 HCC HCN HF1
                go_simp
              · cases e1
                subst e5 e6
                clear HCW HF3 HCC HCN HF1
                go_simp
            refine wpAnyH_ready (rs := [3, 8]) (by kernel_rfl) (by simp) (AllReadyH.cons rfl (fun K hK => ?_) (AllReadyH.cons rfl (fun K hK => ?_) AllReadyH.nil))
            · refine step_append_T rfl (.const (.slice none 0 0)) (.tmp 53) rfl wx.heap.size _ [] rfl (Own.nil _ _) (some ⟨ga, 0, none⟩) k c (L.take k) (by first | (simp [Act.eval]; done) | simp [Act.eval, Act.put]) (by rw [List.length_take, HL.out]; omega) HF1.out (fun ad e j y hy => (hS0.cell (p := ad.add j) (HF3.out ad e j y hy).2).trans (HF3.out ad e j y hy).1) k (by simp) _ (List.nil_append _) (by omega) hS0.size ?_
              intro b5 c5 w5 ho5 hb5
              have hS5 : Below wx.heap.size wx w5 := hS0.trans hb5
              refine hK.out _ _ hS5 (fun _ => ?_)
              clear hK K
              have hS6 : Below wx.heap.size wx (w5.alloc (.cells #[.string x] 9)) := hS5.trans ((below_box w5 _).mono hS5.size)
              have HO6 := hide (ho5.alloc (.cells #[.string x] 9))
              refine wpAnyH_ready (rs := [8]) (by kernel_rfl) (by simp) (AllReadyH.cons rfl (fun K hK => ?_) AllReadyH.nil)
              go_simp
              refine hK.out _ _ hS6 (fun _ => ?_)
              clear hK K
              refine wpAnyH_ready (rs := [9]) (by kernel_rfl) (by simp) (AllReadyH.cons rfl (fun K hK => ?_) AllReadyH.nil)
              refine step_append_T rfl (.tmp 54) (.tmp 59) rfl wx.heap.size _ (L.take k) (by first | (simp [Act.eval]; done) | simp [Act.eval, Act.put]) HO6.out (some ⟨w5.heap.size, 0, none⟩) 1 1 [x] (by first | (simp [Act.eval]; done) | simp [Act.eval, Act.put]) rfl (fun e => by cases e) (one_listT (one_cellT w5 x)) (k + 1) (by rw [List.length_take, HL.out]; omega) _ rfl (by omega) hS6.size ?_
              intro b7 c7 w7 ho7 hb7
              have hS7 : Below wx.heap.size wx w7 := hS6.trans hb7
              refine hK.out _ _ hS7 (fun _ => ?_)
              clear hK K
              refine wpAnyH_ready (rs := [13]) (by kernel_rfl) (by simp) (AllReadyH.cons rfl (fun K hK => ?_) AllReadyH.nil)
              refine step_append_T rfl (.tmp 60) (.tmp 63) rfl wx.heap.size _ (L.take k ++ [x]) (by first | (simp [Act.eval]; done) | simp [Act.eval, Act.put]) ho7 a' (q - k) c' (L.drop k) (by first | (simp [Act.eval]; done) | simp [Act.eval, Act.put]) (by rw [List.length_drop, HL.out]) HCN.out (fun ad e j y hy => (hS7.cell (p := ad.add j) (HCC.out ad e j y hy).2).trans (HCC.out ad e j y hy).1) (q + 1) (by rw [List.length_append, List.length_take, HL.out]; simp; omega) _ rfl (by omega) hS7.size ?_
              intro b9 c9 w9 ho9 hb9

              have hS9 : Below wx.heap.size wx w9 := hS7.trans hb9
              have HO9 : Hid (Own w.heap.size w9 (.slice b9 (q + 1) c9) (L.take k ++ [x] ++ L.drop k)) := ho9.base (below_two hbl.out hbx.out).size
              have HB9 := hide (below_two (below_two hbl.out hbx.out) hS9)
              clear ho9 hb9 hS7
              refine hK.out _ _ hS9 (fun _ => ?_)
              clear hK K
              refine wpAnyH_take (i := 14) (v := .slice b9 (q + 1) c9) rfl (by kernel_rfl) (by kernel_rfl) (by kernel_rfl) (fun _ _ _ h => h) (Or.inl ⟨by kernel_rfl, ?_⟩) hS9 ?_
              · intro w' hw'
                go_simp
              refine wpAnyH_done (by kernel_rfl) ?_ _
              go_wp2
              go_roundw
              case rel => exact ⟨i + 1, q + 1, b9, c9, by omega, by omega, rfl, by go_num, hide ⟨L.take k ++ [x] ++ L.drop k, by
                  rw [List.length_append, List.length_append, List.length_take, List.length_drop, HL.out]
                  simp
                  omega, HO9.out, by
                  rw [plain_ins]
                  exact Hog.insert_rise HRL.out hdr.out HAH.out, fun y => by
                  rw [plain_ins, Hog.insert_mem, HML.out, onT_yes HXI.out HBO.out]⟩, HB9⟩
              case measure => simp [intOf]; omega
            · have hS4 : Below wx.heap.size wx ((wx.drewN (n1 + nq + 1)).alloc (.cells #[.string x] 9)) := below_two (below_draw (Below.refl _ wx) (n1 + nq + 1)) (below_box _ _)
              have HC4 : Hid (((wx.drewN (n1 + nq + 1)).alloc (.cells #[.string x] 9)).cell? ⟨wx.heap.size, 0, none⟩ = some (.string x)) := one_cellT (wx.drewN (n1 + nq + 1)) x
              go_simp
              refine hK.out _ _ hS4 (fun _ => ?_)
              clear hK K
              refine wpAnyH_ready (rs := [3]) (by kernel_rfl) (by simp) (AllReadyH.cons rfl (fun K hK => ?_) AllReadyH.nil)
              refine step_append_T rfl (.const (.slice none 0 0)) (.tmp 53) rfl (wx.heap.size + 1) _ [] rfl (Own.nil _ _) (some ⟨ga, 0, none⟩) k c (L.take k) (by first | (simp [Act.eval]; done) | simp [Act.eval, Act.put]) (by rw [List.length_take, HL.out]; omega) HF1.out (fun ad e j y hy => (hS4.cell (p := ad.add j) (HF3.out ad e j y hy).2).trans (HF3.out ad e j y hy).1) k (by simp) _ (List.nil_append _) (by omega) (by simp) ?_
              intro b5 c5 w5 ho5 hb5
              have HC5 : Hid (w5.cell? ⟨wx.heap.size, 0, none⟩ = some (.string x)) := (hb5.cell (p := ⟨wx.heap.size, 0, none⟩) (Nat.lt_succ_self _)).trans HC4.out
              replace hb5 := hb5.mono (Nat.le_succ wx.heap.size)
              replace ho5 := ho5.base (Nat.le_succ wx.heap.size)
              have hS5 : Below wx.heap.size wx w5 := hS4.trans hb5
              refine hK.out _ _ hS5 (fun _ => ?_)
              clear hK K
              refine wpAnyH_ready (rs := [9]) (by kernel_rfl) (by simp) (AllReadyH.cons rfl (fun K hK => ?_) AllReadyH.nil)
              refine step_append_T rfl (.tmp 54) (.tmp 59) rfl wx.heap.size _ (L.take k) (by first | (simp [Act.eval]; done) | simp [Act.eval, Act.put]) ho5 (some ⟨wx.heap.size, 0, none⟩) 1 1 [x] (by first | (simp [Act.eval]; done) | simp [Act.eval, Act.put]) rfl (fun e => by cases e) (one_listT HC5.out) (k + 1) (by rw [List.length_take, HL.out]; omega) _ rfl (by omega) hS5.size ?_
              intro b7 c7 w7 ho7 hb7
              have hS7 : Below wx.heap.size wx w7 := hS5.trans hb7
              refine hK.out _ _ hS7 (fun _ => ?_)
              clear hK K
              refine wpAnyH_ready (rs := [13]) (by kernel_rfl) (by simp) (AllReadyH.cons rfl (fun K hK => ?_) AllReadyH.nil)
              refine step_append_T rfl (.tmp 60) (.tmp 63) rfl wx.heap.size _ (L.take k ++ [x]) (by first | (simp [Act.eval]; done) | simp [Act.eval, Act.put]) ho7 a' (q - k) c' (L.drop k) (by first | (simp [Act.eval]; done) | simp [Act.eval, Act.put]) (by rw [List.length_drop, HL.out]) HCN.out (fun ad e j y hy => (hS7.cell (p := ad.add j) (HCC.out ad e j y hy).2).trans (HCC.out ad e j y hy).1) (q + 1) (by rw [List.length_append, List.length_take, HL.out]; simp; omega) _ rfl (by omega) hS7.size ?_
              intro b9 c9 w9 ho9 hb9

              have hS9 : Below wx.heap.size wx w9 := hS7.trans hb9
              have HO9 : Hid (Own w.heap.size w9 (.slice b9 (q + 1) c9) (L.take k ++ [x] ++ L.drop k)) := ho9.base (below_two hbl.out hbx.out).size
              have HB9 := hide (below_two (below_two hbl.out hbx.out) hS9)
              clear ho9 hb9 hS7
              refine hK.out _ _ hS9 (fun _ => ?_)
              clear hK K
              refine wpAnyH_take (i := 14) (v := .slice b9 (q + 1) c9) rfl (by kernel_rfl) (by kernel_rfl) (by kernel_rfl) (fun _ _ _ h => h) (Or.inl ⟨by kernel_rfl, ?_⟩) hS9 ?_
              · intro w' hw'
                go_simp
              refine wpAnyH_done (by kernel_rfl) ?_ _
              go_wp2
              go_roundw
              case rel => exact ⟨i + 1, q + 1, b9, c9, by omega, by omega, rfl, by go_num, hide ⟨L.take k ++ [x] ++ L.drop k, by
                  rw [List.length_append, List.length_append, List.length_take, List.length_drop, HL.out]
                  simp
                  omega, HO9.out, by
                  rw [plain_ins]
                  exact Hog.insert_rise HRL.out hdr.out HAH.out, fun y => by
                  rw [plain_ins, Hog.insert_mem, HML.out, onT_yes HXI.out HBO.out]⟩, HB9⟩
              case measure => simp [intOf]; omega
end Go.Proofs.YtinjbijigjfdfaaGreatDoor
