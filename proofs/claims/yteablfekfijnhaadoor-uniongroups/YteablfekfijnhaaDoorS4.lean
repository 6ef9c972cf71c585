/- The walk of slices.symMergeCmpFunc where one of the two runs is a single node. -/
import Derived.Test.YteablfekfijnhaaDoorS3
namespace Go.Proofs.YteablfekfijnhaaDoor
open Go.RowKit

theorem get_mid {P B Q : List Nd} {a t : Nat} (ha : P.length = a) (ht : t < B.length) : (P ++ (B ++ Q))[a + t]? = B[t]? := by
  rw [List.getElem?_append_right (by omega), show a + t - P.length = t by omega, List.getElem?_append_left ht]
/-- The first i of B come ahead of x. -/
def LoB (p : Nd → Bool) (B : List Nd) (i : Nat) : Prop := ∀ (t : Nat) y, t < i → B[t]? = some y → p y = true
def HiB (p : Nd → Bool) (B : List Nd) (j : Nat) : Prop := ∀ (t : Nat) y, j ≤ t → B[t]? = some y → p y = false
theorem lo_step {p : Nd → Bool} {B : List Nd} {h : Nat} {y : Nd} (hmono : ∀ (s t : Nat) u v, s < t → B[s]? = some u → B[t]? = some v → p v = true → p u = true) (hy : B[h]? = some y) (hp : p y = true) : LoB p B (h + 1) := by
  intro t z ht hz
  by_cases e : t = h
  · subst e
    rw [hy] at hz
    cases hz
    exact hp
  · exact hmono t h z y (by omega) hz hy hp
theorem hi_step {p : Nd → Bool} {B : List Nd} {h : Nat} {y : Nd} (hmono : ∀ (s t : Nat) u v, s < t → B[s]? = some u → B[t]? = some v → p v = true → p u = true) (hy : B[h]? = some y) (hp : p y = false) : HiB p B h := by
  intro t z ht hz
  by_cases e : t = h
  · subst e
    rw [hy] at hz
    cases hz
    exact hp
  · cases k : p z with
    | false => rfl
    | true => rw [hmono h t y z (by omega) hy hz k] at hp; cases hp
theorem lohi_split {p : Nd → Bool} {B : List Nd} {i : Nat} (hi : i ≤ B.length) (hl : LoB p B i) (hh : HiB p B i) : ∃ B1 B2, B = B1 ++ B2 ∧ B1.length = i ∧ (∀ y ∈ B1, p y = true) ∧ ∀ y ∈ B2, p y = false := by
  refine ⟨B.take i, B.drop i, (List.take_append_drop i B).symm, by rw [List.length_take]; omega, fun y hy => ?_, fun y hy => ?_⟩
  · obtain ⟨t, ht⟩ := List.mem_iff_getElem?.1 hy
    rw [List.getElem?_take] at ht
    split at ht
    · exact hl t y (by omega) ht
    · cases ht
  · obtain ⟨t, ht⟩ := List.mem_iff_getElem?.1 hy
    rw [List.getElem?_drop] at ht
    exact hh (i + t) y (by omega) ht
theorem mono_lt {B : List Nd} (hB : Srtd B) (x : Nd) : ∀ (s t : Nat) u v, s < t → B[s]? = some u → B[t]? = some v → ltN v x = true → ltN u x = true := fun s t u v hst hu hv h => le_ltN (srtd_get.1 hB s t u v hst hu hv) h
theorem mono_ge {A : List Nd} (hA : Srtd A) (y : Nd) : ∀ (s t : Nat) u v, s < t → A[s]? = some u → A[t]? = some v → (!ltN y v) = true → (!ltN y u) = true := fun s t u v hst hu hv h => by
  have h1 : ltN y v = false := by simpa using h
  have := leN_trans (srtd_get.1 hA s t u v hst hu hv) h1
  simpa using this

set_option maxRecDepth 100000 in
set_option maxHeartbeats 4000000 in
theorem sym_one (base g cap n a b : Nat) (w : World) (P B Q : List Nd) (x : Nd) (h : RowD base g cap n w (P ++ (x :: (B ++ Q)))) (hn : n < 1000) (ha : P.length = a) (hB : a + 1 + B.length = b) (hs : Srtd B) :
    Calls Tryd.prog 48 #[.slice (some ⟨g, 0, none⟩) n cap, .int .i64 a, .int .i64 (a + 1 : Nat), .int .i64 b, .func (.func 33) #[] #[]] w
      fun e w' => e = .returned (.tuple #[]) ∧ (∃ M', RowD base g cap n w' (P ++ (M' ++ Q)) ∧ Srtd M' ∧ Alike (x :: B) M') ∧ Below base w w' := by
  have HR := hide h
  have hg := h.lt.1
  have hlen := h.len
  simp only [List.length_append, List.length_cons] at hlen
  have hbn : b ≤ n := by omega
  have HA := hide ha
  have HBB := hide hB
  have HS := hide hs
  have hab : a + 1 ≤ b := by omega
  have h1 : ((a : Int) + 1 - (a : Int) == 1) = true := by rw [beq_iff_eq]; omega
  have HX : Hid ((P ++ (x :: (B ++ Q)))[a]? = some x) := by rw [← ha]; exact one_get P _ x
  have HBT : Hid (∀ t, t < B.length → (P ++ (x :: (B ++ Q)))[a + 1 + t]? = B[t]?) := fun t ht => by
    have := get_mid (P := P ++ [x]) (B := B) (Q := Q) (a := a + 1) (t := t) (by simp [ha]) ht
    simpa using this
  clear h hlen ha hB hs
  go_enter Tryd.func48, Tryd.ntmps48
  go_wp2
  go_loopw [10, 11, 12] (fun s t _ wr => ∃ i j : Nat, a + 1 ≤ i ∧ i ≤ j ∧ j ≤ b ∧ s = .int .i64 i ∧ t = .int .i64 j ∧ Hid (LoB (fun y => ltN y x) B (i - (a + 1)) ∧ HiB (fun y => ltN y x) B (j - (a + 1))) ∧ Hid (RowD base g cap n wr (P ++ (x :: (B ++ Q)))) ∧ Hid (Below base w wr)) (fun s t _ _ => (intOf t).toNat - (intOf s).toNat)
  case atStart => exact ⟨a + 1, b, Nat.le_refl _, hab, Nat.le_refl _, by go_num, rfl, ⟨fun t y ht => by omega, fun t y ht hy => by have := (List.getElem?_eq_some_iff.1 hy).1; have := HBB.out; omega⟩, HR, Below.refl _ _⟩
  case round =>
    obtain ⟨i, j, hi, hij, hj, rfl, rfl, HL, HD, HB⟩ := hrel
    have hgw : g < wr.heap.size := HD.out.lt.2
    by_cases hlt : i < j
    · have hlt' : (i : Int) < (j : Int) := by omega
      obtain ⟨q, hq⟩ : ∃ q : Nat, ((i : Int) + (j : Int)) / 2 = (q : Int) := ⟨(i + j) / 2, by omega⟩
      have hq1 : i ≤ q := by omega
      have hq2 : q < j := by omega
      obtain ⟨y, hy⟩ : ∃ y, B[q - (a + 1)]? = some y := ⟨B[q - (a + 1)]'(by have := HBB.out; omega), List.getElem?_eq_some_iff.2 ⟨_, rfl⟩⟩
      have hyd : (P ++ (x :: (B ++ Q)))[q]? = some y := by
        have := HBT.out (q - (a + 1)) (by have := HBB.out; omega)
        rw [show a + 1 + (q - (a + 1)) = q by omega] at this
        rw [this, hy]
      have ay := HD.out.at hyd
      have ax := HD.out.at HX.out
      have hne := later_one wr
      have f1 : ∀ p : Later wr, p.w1.cell? ⟨g, q * 3, none⟩ = some (.string y.1) := fun p => p.cell hgw ay.path
      have f2 : ∀ p : Later wr, p.w1.cell? ⟨g, q * 3 + 1, none⟩ = some (.int .i64 y.2.1) := fun p => p.cell hgw ay.kind
      have f3 : ∀ p : Later wr, p.w1.cell? ⟨g, q * 3 + 2, none⟩ = some (.string y.2.2) := fun p => p.cell hgw ay.data
      have g1 : ∀ p : Later wr, p.w1.cell? ⟨g, a * 3, none⟩ = some (.string x.1) := fun p => p.cell hgw ax.path
      have g2 : ∀ p : Later wr, p.w1.cell? ⟨g, a * 3 + 1, none⟩ = some (.int .i64 x.2.1) := fun p => p.cell hgw ax.kind
      have g3 : ∀ p : Later wr, p.w1.cell? ⟨g, a * 3 + 2, none⟩ = some (.string x.2.2) := fun p => p.cell hgw ax.data
      have HQ := hide hq
      have HY := hide hy
      have hqn : (q : Int) < (n : Int) := by omega
      have han : (a : Int) < (n : Int) := by omega
      clear hq hy hyd ay ax
      go_wp2
      rw [HQ.out]
      refine wp_region_later (by kernel_rfl) (by kernel_rfl) ?_
      repeat (first | go_big_quiet_step ((go_at_call 33; exact Calls.later_of (bypath_any y x _))) | quiet_step ((go_at_call 33; exact Calls.later_of (bypath_any y x _))))
      refine wpQuiet_nil ?_
      intro W4 hw'
      have hbq := later_below hw'
      clear hw'
      have HD4 := hide (HD.out.below hbq)
      have HB4 := hide (HB.out.trans (hbq.mono (Nat.le_trans hg (Nat.le_of_lt hgw))))
      clear f1 f2 f3 g1 g2 g3 hbq hne
      by_cases hc : cmpN y x < 0
      · have HC := hide ((cmpN_neg y x).1 hc)
        go_wp2
        go_roundw
        case rel => exact ⟨q + 1, j, by omega, by omega, hj, by go_num, rfl, ⟨by rw [show q + 1 - (a + 1) = q - (a + 1) + 1 by omega]; exact lo_step (mono_lt HS.out x) HY.out HC.out, HL.out.2⟩, HD4, HB4⟩
        case measure => simp [intOf]; omega
      · have HC : Hid (ltN y x = false) := by
          show ltN y x = false
          cases k : ltN y x with
          | false => rfl
          | true => exact absurd ((cmpN_neg y x).2 k) hc
        have hc' : 0 ≤ cmpN y x := by omega
        clear hc
        go_wp2
        go_roundw
        case rel => exact ⟨i, q, hi, by omega, by omega, rfl, rfl, ⟨HL.out.1, hi_step (mono_lt HS.out x) HY.out HC.out⟩, HD4, HB4⟩
        case measure => simp [intOf]; omega
    · have e : j = i := by omega
      subst e
      obtain ⟨B1, B2, eB, l1, k1, k2⟩ := lohi_split (by have := HBB.out; omega) HL.out.1 HL.out.2
      obtain ⟨r, rfl⟩ : ∃ r, j = r + 1 := ⟨j - 1, by omega⟩
      have HK : Hid (B = B1 ++ B2 ∧ B1.length = r - a ∧ (∀ y ∈ B1, ltN y x = true) ∧ ∀ y ∈ B2, ltN y x = false) := ⟨eB, by omega, k1, k2⟩
      have HD2 : Hid (RowD base g cap n wr (P ++ (x :: (B1 ++ (B2 ++ Q))))) := by
        have := HD.out
        rw [eB] at this
        show RowD _ _ _ _ _ _
        simpa using this
      clear eB l1 k1 k2 HL HX HBT HD
      go_wp2
      go_loopw [13] (fun s wq => ∃ k : Nat, a ≤ k ∧ k ≤ r ∧ s = .int .i64 k ∧ Hid (∃ C1 C2, B1 = C1 ++ C2 ∧ k = a + C1.length ∧ RowD base g cap n wq (P ++ (C1 ++ (x :: (C2 ++ (B2 ++ Q)))))) ∧ Hid (Below base w wq)) (fun s _ => r - (intOf s).toNat)
      case atStart => exact ⟨a, Nat.le_refl _, by omega, rfl, ⟨[], B1, rfl, by simp, HD2.out⟩, HB⟩
      case round =>
        clear HD2 HB
        obtain ⟨k, hk1, hk2, rfl, HD, HB⟩ := hrel
        obtain ⟨C1, C2, eB1, lk, hr⟩ := HD.out
        by_cases hkr : k < r
        · obtain ⟨c, C3, rfl⟩ : ∃ c C3, C2 = c :: C3 := by
            cases C2 with
            | nil => have := HK.out.2.1; rw [eB1] at this; simp at this; omega
            | cons x r => exact ⟨x, r, rfl⟩
          have hL : (P ++ C1).length = k := by rw [List.length_append, HA.out]; omega
          have hr2 : RowD base g cap n wr ((P ++ C1) ++ x :: ([] ++ c :: (C3 ++ (B2 ++ Q)))) := by simpa using hr
          have hg2 := two_get (P ++ C1) [] (C3 ++ (B2 ++ Q)) x c
          have hs2 := two_set (P ++ C1) [] (C3 ++ (B2 ++ Q)) x c
          rw [hL, List.length_nil, Nat.add_zero] at hg2 hs2
          obtain ⟨x1, x2, x3⟩ := hr2.at hg2.1
          obtain ⟨c1, c2, c3⟩ := hr2.at hg2.2
          have p1 := hr2.free (k * 3); have p2 := hr2.free (k * 3 + 1); have p3 := hr2.free (k * 3 + 2)
          have r1 := hr2.free ((k + 1) * 3); have r2 := hr2.free ((k + 1) * 3 + 1); have r3 := hr2.free ((k + 1) * 3 + 2)
          have HN : Hid (RowD base g cap n (putN (putN wr g k c) g (k + 1) x).drew (P ++ ((C1 ++ [c]) ++ (x :: (C3 ++ (B2 ++ Q)))))) := by
            have h5 := ((hr2.put (i := k) (by omega) c).put (i := k + 1) (by omega) x).drew
            rw [hs2] at h5
            show RowD _ _ _ _ _ _
            simpa using h5
          have HBN := hide (below_put (below_put HB.out hg k c) hg (k + 1) x).drew
          have HE : Hid (B1 = (C1 ++ [c]) ++ C3 ∧ k + 1 = a + (C1 ++ [c]).length) := ⟨by rw [eB1]; simp, by simp; omega⟩
          have hkr' : (k : Int) < (r : Int) := by omega
          clear hr hr2 hg2 hs2 hL eB1 lk HD
          go_wp2
          go_region
          go_wp2
          go_roundw
          case rel => exact ⟨k + 1, by omega, by omega, by go_num, ⟨C1 ++ [c], C3, HE.out.1, HE.out.2, HN.out⟩, HBN.out⟩
          case measure => simp [intOf]; omega
        · have hkr' : (r : Int) ≤ (k : Int) := by omega
          have HF : Hid (RowD base g cap n wr (P ++ ((B1 ++ x :: B2) ++ Q))) := by
            have e2 : C2 = [] := List.eq_nil_of_length_eq_zero (by have := HK.out.2.1; rw [eB1] at this; simp at this; omega)
            subst e2
            show RowD _ _ _ _ _ _
            rw [eB1]
            simpa using hr
          clear hr HD eB1 lk
          go_wp2
          refine bodyPost_ret (results_none rfl _ _ _) rfl ?_
          have hsr := HS.out
          rw [HK.out.1] at hsr
          obtain ⟨q1, q2⟩ := ins_front hsr HK.out.2.2.1 HK.out.2.2.2
          exact ⟨rfl, ⟨B1 ++ x :: B2, HF.out, q1, by rw [HK.out.1]; exact q2⟩, HB.out⟩

set_option maxRecDepth 100000 in
set_option maxHeartbeats 4000000 in
theorem sym_last (base g cap n a m : Nat) (w : World) (P A Q : List Nd) (y : Nd) (h : RowD base g cap n w (P ++ (A ++ (y :: Q)))) (hn : n < 1000) (ha : P.length = a) (hA : a + A.length = m) (hA2 : 1 < A.length) (hs : Srtd A) :
    Calls Tryd.prog 48 #[.slice (some ⟨g, 0, none⟩) n cap, .int .i64 a, .int .i64 m, .int .i64 (m + 1 : Nat), .func (.func 33) #[] #[]] w
      fun e w' => e = .returned (.tuple #[]) ∧ (∃ M', RowD base g cap n w' (P ++ (M' ++ Q)) ∧ Srtd M' ∧ Alike (A ++ [y]) M') ∧ Below base w w' := by
  have HR := hide h
  have hg := h.lt.1
  have hlen := h.len
  simp only [List.length_append, List.length_cons] at hlen
  have hbn : m + 1 ≤ n := by omega
  have HA := hide ha
  have HAA := hide hA
  have HS := hide hs
  have ham : a + 1 < m := by omega
  have h1 : ((m : Int) - (a : Int) == 1) = false := by rw [beq_eq_false_iff_ne]; omega
  have h2 : ((m : Int) + 1 - (m : Int) == 1) = true := by rw [beq_iff_eq]; omega
  have HX : Hid ((P ++ (A ++ (y :: Q)))[m]? = some y) := by
    have := one_get (P ++ A) Q y
    rw [List.length_append, ha, hA] at this
    show _ = _
    simpa using this
  have HBT : Hid (∀ t, t < A.length → (P ++ (A ++ (y :: Q)))[a + t]? = A[t]?) := fun t ht => get_mid ha ht
  clear h hlen ha hA hA2 hs
  go_enter Tryd.func48, Tryd.ntmps48
  go_wp2
  go_loopw [14, 15, 16] (fun s t _ wr => ∃ i j : Nat, a ≤ i ∧ i ≤ j ∧ j ≤ m ∧ s = .int .i64 i ∧ t = .int .i64 j ∧ Hid (LoB (fun z => !ltN y z) A (i - a) ∧ HiB (fun z => !ltN y z) A (j - a)) ∧ Hid (RowD base g cap n wr (P ++ (A ++ (y :: Q)))) ∧ Hid (Below base w wr)) (fun s t _ _ => (intOf t).toNat - (intOf s).toNat)
  case atStart => exact ⟨a, m, Nat.le_refl _, by omega, Nat.le_refl _, rfl, rfl, ⟨fun t y ht => by omega, fun t y ht hy => by have := (List.getElem?_eq_some_iff.1 hy).1; have := HAA.out; omega⟩, HR, Below.refl _ _⟩
  case round =>
    obtain ⟨i, j, hi, hij, hj, rfl, rfl, HL, HD, HB⟩ := hrel
    have hgw : g < wr.heap.size := HD.out.lt.2
    by_cases hlt : i < j
    · have hlt' : (i : Int) < (j : Int) := by omega
      obtain ⟨q, hq⟩ : ∃ q : Nat, ((i : Int) + (j : Int)) / 2 = (q : Int) := ⟨(i + j) / 2, by omega⟩
      have hq1 : i ≤ q := by omega
      have hq2 : q < j := by omega
      obtain ⟨z, hz⟩ : ∃ z, A[q - a]? = some z := ⟨A[q - a]'(by have := HAA.out; omega), List.getElem?_eq_some_iff.2 ⟨_, rfl⟩⟩
      have hzd : (P ++ (A ++ (y :: Q)))[q]? = some z := by
        have := HBT.out (q - a) (by have := HAA.out; omega)
        rw [show a + (q - a) = q by omega] at this
        rw [this, hz]
      have az := HD.out.at hzd
      have ay := HD.out.at HX.out
      have hne := later_one wr
      have f1 : ∀ p : Later wr, p.w1.cell? ⟨g, q * 3, none⟩ = some (.string z.1) := fun p => p.cell hgw az.path
      have f2 : ∀ p : Later wr, p.w1.cell? ⟨g, q * 3 + 1, none⟩ = some (.int .i64 z.2.1) := fun p => p.cell hgw az.kind
      have f3 : ∀ p : Later wr, p.w1.cell? ⟨g, q * 3 + 2, none⟩ = some (.string z.2.2) := fun p => p.cell hgw az.data
      have g1 : ∀ p : Later wr, p.w1.cell? ⟨g, m * 3, none⟩ = some (.string y.1) := fun p => p.cell hgw ay.path
      have g2 : ∀ p : Later wr, p.w1.cell? ⟨g, m * 3 + 1, none⟩ = some (.int .i64 y.2.1) := fun p => p.cell hgw ay.kind
      have g3 : ∀ p : Later wr, p.w1.cell? ⟨g, m * 3 + 2, none⟩ = some (.string y.2.2) := fun p => p.cell hgw ay.data
      have HQ := hide hq
      have HZ := hide hz
      have hqn : (q : Int) < (n : Int) := by omega
      have hmn : (m : Int) < (n : Int) := by omega
      clear hq hz hzd az ay
      by_cases hc : cmpN y z < 0
      · have HC : Hid ((!ltN y z) = false) := by show _ = _; rw [(cmpN_neg y z).1 hc]; rfl
        go_wp2
        rw [HQ.out]
        refine wp_region_later (by kernel_rfl) (by kernel_rfl) ?_
        repeat (first | go_big_quiet_step ((go_at_call 33; exact Calls.later_of (bypath_any y z _))) | quiet_step ((go_at_call 33; exact Calls.later_of (bypath_any y z _))))
        refine wpQuiet_nil ?_
        intro W4 hw'
        have hbq := later_below hw'
        clear hw'
        have HD4 := hide (HD.out.below hbq)
        have HB4 := hide (HB.out.trans (hbq.mono (Nat.le_trans hg (Nat.le_of_lt hgw))))
        clear f1 f2 f3 g1 g2 g3 hbq hne
        go_wp2
        go_roundw
        case rel => exact ⟨i, q, hi, by omega, by omega, rfl, rfl, ⟨HL.out.1, hi_step (mono_ge HS.out y) HZ.out HC.out⟩, HD4, HB4⟩
        case measure => simp [intOf]; omega
      · have HC : Hid ((!ltN y z) = true) := by
          show (!ltN y z) = true
          cases k : ltN y z with
          | false => rfl
          | true => exact absurd ((cmpN_neg y z).2 k) hc
        have hc' : decide (cmpN y z < 0) = false := by simpa using hc
        clear hc
        go_wp2
        rw [HQ.out]
        refine wp_region_later (by kernel_rfl) (by kernel_rfl) ?_
        repeat (first | go_big_quiet_step ((go_at_call 33; exact Calls.later_of (bypath_any y z _))) | quiet_step ((go_at_call 33; exact Calls.later_of (bypath_any y z _))))
        refine wpQuiet_nil ?_
        intro W4 hw'
        have hbq := later_below hw'
        clear hw'
        have HD4 := hide (HD.out.below hbq)
        have HB4 := hide (HB.out.trans (hbq.mono (Nat.le_trans hg (Nat.le_of_lt hgw))))
        clear f1 f2 f3 g1 g2 g3 hbq hne
        go_wp2
        go_roundw
        case rel => exact ⟨q + 1, j, by omega, by omega, hj, by go_num, rfl, ⟨by rw [show q + 1 - a = q - a + 1 by omega]; exact lo_step (mono_ge HS.out y) HZ.out HC.out, HL.out.2⟩, HD4, HB4⟩
        case measure => simp [intOf]; omega
    · have e : j = i := by omega
      subst e
      obtain ⟨A1, A2, eA, l1, k1, k2⟩ := lohi_split (by have := HAA.out; omega) HL.out.1 HL.out.2
      have HK : Hid (A = A1 ++ A2 ∧ A1.length = j - a ∧ (∀ z ∈ A1, ltN y z = false) ∧ ∀ z ∈ A2, ltN y z = true) := ⟨eA, l1, fun z hz => by have := k1 z hz; simpa using this, fun z hz => by have := k2 z hz; simpa using this⟩
      have HD2 : Hid (RowD base g cap n wr (P ++ (A1 ++ (A2 ++ (y :: ([] ++ Q)))))) := by
        have := HD.out
        rw [eA] at this
        show RowD _ _ _ _ _ _
        simpa using this
      have hl2 : m = j + A2.length := by have := HAA.out; rw [eA] at this; simp at this; omega
      have HL2 := hide hl2
      clear eA l1 k1 k2 HL HX HBT HD hl2
      go_wp2
      go_loopw [17] (fun s wq => ∃ k : Nat, j ≤ k ∧ k ≤ m ∧ s = .int .i64 k ∧ Hid (∃ D1 D2, A2 = D1 ++ D2 ∧ k = j + D1.length ∧ RowD base g cap n wq (P ++ (A1 ++ (D1 ++ (y :: (D2 ++ Q)))))) ∧ Hid (Below base w wq)) (fun s _ => (intOf s).toNat)
      case atStart => exact ⟨m, hj, Nat.le_refl _, rfl, ⟨A2, [], by simp, HL2.out, HD2.out⟩, HB⟩
      case round =>
        clear HD2 HB
        obtain ⟨k, hk1, hk2, rfl, HD, HB⟩ := hrel
        obtain ⟨D1, D2, eA2, lk, hr⟩ := HD.out
        by_cases hkj : j < k
        · obtain ⟨q, rfl⟩ : ∃ q, k = q + 1 := ⟨k - 1, by omega⟩
          obtain ⟨D3, d, rfl⟩ := snoc_of (l := D1) (by intro e; rw [e] at lk; simp at lk; omega)
          simp only [List.length_append, List.length_singleton] at lk
          have hL : (P ++ (A1 ++ D3)).length = q := by
            have h5 := HK.out.2.1
            rw [List.length_append, List.length_append, HA.out, h5]; omega
          have hr2 : RowD base g cap n wr ((P ++ (A1 ++ D3)) ++ d :: ([] ++ y :: (D2 ++ Q))) := by simpa using hr
          have hg2 := two_get (P ++ (A1 ++ D3)) [] (D2 ++ Q) d y
          have hs2 := two_set' (P ++ (A1 ++ D3)) [] (D2 ++ Q) d y
          rw [hL, List.length_nil, Nat.add_zero] at hg2 hs2
          obtain ⟨x1, x2, x3⟩ := hr2.at hg2.1
          obtain ⟨c1, c2, c3⟩ := hr2.at hg2.2
          have p1 := hr2.free (q * 3); have p2 := hr2.free (q * 3 + 1); have p3 := hr2.free (q * 3 + 2)
          have r1 := hr2.free ((q + 1) * 3); have r2 := hr2.free ((q + 1) * 3 + 1); have r3 := hr2.free ((q + 1) * 3 + 2)
          have HN : Hid (RowD base g cap n (putN (putN wr g (q + 1) d) g q y).drew (P ++ (A1 ++ (D3 ++ (y :: ((d :: D2) ++ Q)))))) := by
            have h5 := ((hr2.put (i := q + 1) (by omega) d).put (i := q) (by omega) y).drew
            rw [hs2] at h5
            show RowD _ _ _ _ _ _
            simpa using h5
          have HBN := hide (below_put (below_put HB.out hg (q + 1) d) hg q y).drew
          have HE : Hid (A2 = D3 ++ (d :: D2) ∧ q = j + D3.length) := ⟨by rw [eA2]; simp, by omega⟩
          have hkj' : (j : Int) < (q : Int) + 1 := by omega
          clear hr hr2 hg2 hs2 hL eA2 lk HD
          go_wp2
          go_region
          go_wp2
          go_roundw
          case rel => exact ⟨q, by omega, by omega, by go_num, ⟨D3, d :: D2, HE.out.1, HE.out.2, HN.out⟩, HBN.out⟩
          case measure => simp [intOf]
        · have hkj' : (k : Int) ≤ (j : Int) := by omega
          have HF : Hid (RowD base g cap n wr (P ++ ((A1 ++ y :: A2) ++ Q))) := by
            have e2 : D1 = [] := List.eq_nil_of_length_eq_zero (by omega)
            subst e2
            show RowD _ _ _ _ _ _
            rw [eA2]
            simpa using hr
          clear hr HD eA2 lk
          go_wp2
          refine bodyPost_ret (results_none rfl _ _ _) rfl ?_
          have hsr := HS.out
          rw [HK.out.1] at hsr
          obtain ⟨q1, q2⟩ := ins_back hsr HK.out.2.2.1 HK.out.2.2.2
          exact ⟨rfl, ⟨A1 ++ y :: A2, HF.out, q1, by rw [HK.out.1]; exact q2⟩, HB.out⟩
end Go.Proofs.YteablfekfijnhaaDoor
