/- The walk of slices.insertionSortCmpFunc by paths. -/
import Derived.Test.YteablfekfijnhaaDoorS2
namespace Go.Proofs.YteablfekfijnhaaDoor
open Go.RowKit

set_option maxRecDepth 100000 in
set_option maxHeartbeats 1000000 in
theorem insert_few (base g cap n a b : Nat) (w : World) (ds : List Nd) (h : RowD base g cap n w ds) (hn : n < 1000) (hab : b ≤ a + 1) (han : a ≤ n) (fv : Value) :
    Calls Tryd.prog 47 #[.slice (some ⟨g, 0, none⟩) n cap, .int .i64 a, .int .i64 b, fv] w
      fun e w' => e = .returned (.tuple #[]) ∧ RowD base g cap n w' ds ∧ Below base w w' := by
  have HR := hide h
  clear h
  have hi : (b : Int) ≤ (a : Int) + 1 := by omega
  go_enter Tryd.func47, Tryd.ntmps47
  go_wp2
  go_loop [8, 9] (fun i _ => i = .int .i64 ((a : Int) + 1)) (fun _ _ => 0)
  case atStart => rfl
  case round =>
    subst hrel
    go_wp2
    go_end0
    exact ⟨rfl, HR.out, Below.refl _ _⟩

theorem snoc_of {l : List Nd} (h : l ≠ []) : ∃ r z, l = r ++ [z] := ⟨l.dropLast, l.getLast h, (List.dropLast_concat_getLast h).symm⟩
theorem one_get (L R : List Nd) (x : Nd) : (L ++ x :: R)[L.length]? = some x := by simp

/-- What is between two rounds of the inner loop: x is on its way, ahead of it S1, behind it S2. -/
def Way (base g cap n a : Nat) (wr : World) (P S R Q : List Nd) (x : Nd) (j : Nat) : Prop :=
  ∃ S1 S2, S = S1 ++ S2 ∧ (∀ s ∈ S2, ltN x s = true) ∧ j = a + S1.length ∧ RowD base g cap n wr (P ++ (S1 ++ (x :: (S2 ++ (R ++ Q)))))

theorem later_below {w w' : World} (h : ∃ p : Later w, w' = p.w1) : Below w.heap.size w w' := by
  obtain ⟨p, rfl⟩ := h
  exact p.below
theorem two_set' (L M R : List Nd) (x y : Nd) : ((L ++ x :: (M ++ y :: R)).set (L.length + 1 + M.length) x).set L.length y = L ++ y :: (M ++ x :: R) := by
  rw [List.set_comm _ _ (by omega)]
  exact two_set L M R x y
theorem way_done {base g cap n a i : Nat} {wq : World} {P M M1 S S1 S2 R Q : List Nd} {x : Nd} (hM : M = M1 ++ x :: R) (lM : M1.length = i - a) (lS : S.length = i - a) (hS : Srtd S) (hal : Alike M1 S) (hai : a < i)
    (eS : S = S1 ++ S2) (h1 : ∀ s ∈ S1, ltN x s = false) (h2 : ∀ s ∈ S2, ltN x s = true) (hr : RowD base g cap n wq (P ++ (S1 ++ (x :: (S2 ++ (R ++ Q)))))) :
    ∃ M1 S R, M = M1 ++ R ∧ S.length = i + 1 - a ∧ M1.length = i + 1 - a ∧ Srtd S ∧ Alike M1 S ∧ RowD base g cap n wq (P ++ (S ++ (R ++ Q))) := by
  subst eS
  obtain ⟨k1, k2⟩ := ins_back hS h1 h2
  refine ⟨M1 ++ [x], S1 ++ x :: S2, R, by rw [hM]; simp, ?_, by simp [lM]; omega, k1, (hal.app (Alike.refl [x])).trans k2, by simpa using hr⟩
  simp only [List.length_append, List.length_cons] at lS ⊢
  omega

set_option maxRecDepth 100000 in
set_option maxHeartbeats 4000000 in
theorem insert_many (base g cap n a b : Nat) (w : World) (P M Q : List Nd) (h : RowD base g cap n w (P ++ (M ++ Q))) (hn : n < 1000) (ha : P.length = a) (hM : a + M.length = b) (hab : a + 1 < b) :
    Calls Tryd.prog 47 #[.slice (some ⟨g, 0, none⟩) n cap, .int .i64 a, .int .i64 b, .func (.func 33) #[] #[]] w
      fun e w' => e = .returned (.tuple #[]) ∧ (∃ M', RowD base g cap n w' (P ++ (M' ++ Q)) ∧ Srtd M' ∧ Alike M M') ∧ Below base w w' := by
  have HR := hide h
  have hg := h.lt.1
  have hlen := h.len
  simp only [List.length_append] at hlen
  have hbn : b ≤ n := by omega
  have HA := hide ha
  have HMB := hide hM
  have HM0 : Hid (∃ x r, M = x :: r) := by
    show ∃ x r, M = x :: r
    cases M with
    | nil => simp at hM; omega
    | cons x r => exact ⟨x, r, rfl⟩
  clear h hlen ha hM
  go_enter Tryd.func47, Tryd.ntmps47
  go_wp2
  go_loopw [8, 9] (fun s _ wr => ∃ i : Nat, a < i ∧ i ≤ b ∧ s = .int .i64 i ∧ Hid (∃ M1 S R, M = M1 ++ R ∧ S.length = i - a ∧ M1.length = i - a ∧ Srtd S ∧ Alike M1 S ∧ RowD base g cap n wr (P ++ (S ++ (R ++ Q)))) ∧ Hid (Below base w wr)) (fun s _ _ => b - (intOf s).toNat)
  case atStart =>
    obtain ⟨x, r, e⟩ := HM0.out
    exact ⟨a + 1, by omega, by omega, by go_num, ⟨[x], [x], r, by rw [e]; rfl, by simp, by simp, srtd_one x, Alike.refl _, by have := HR.out; rw [e] at this; simpa using this⟩, Below.refl _ _⟩
  case round =>
    obtain ⟨i, hai, hib, rfl, HD, HB⟩ := hrel
    by_cases hlt : i < b
    · have hlt' : (i : Int) < (b : Int) := by omega
      obtain ⟨M1, S, R0, eM, lS, lM1, hS, hal, hr⟩ := HD.out
      obtain ⟨x, R, rfl⟩ : ∃ x R, R0 = x :: R := by
        cases R0 with
        | nil => have := HMB.out; rw [eM] at this; simp at this; omega
        | cons x r => exact ⟨x, r, rfl⟩
      have HWAY : Hid (Way base g cap n a wr P S R Q x i) := ⟨S, [], by simp, by simp, by omega, by simpa using hr⟩
      have HST : Hid (M = M1 ++ x :: R ∧ M1.length = i - a ∧ S.length = i - a ∧ Srtd S ∧ Alike M1 S) := ⟨eM, lM1, lS, hS, hal⟩
      clear hr HD eM lS lM1 hS hal
      go_wp2
      go_loopw [9] (fun t wq => ∃ j : Nat, a ≤ j ∧ j ≤ i ∧ t = .int .i64 j ∧ Hid (Way base g cap n a wq P S R Q x j) ∧ Hid (Below base w wq)) (fun t _ => (intOf t).toNat)
      case atStart => exact ⟨i, by omega, Nat.le_refl _, rfl, HWAY, HB⟩
      case round =>
        clear HWAY HB
        obtain ⟨j, haj, hji, rfl, HW, HBQ⟩ := hrel
        obtain ⟨S1, S2, eS, hS2, hj, hr⟩ := HW.out
        have hgw : g < wr.heap.size := hr.lt.2
        have hne := later_one wr
        by_cases hja : a < j
        · obtain ⟨q, rfl⟩ : ∃ q, j = q + 1 := ⟨j - 1, by omega⟩
          obtain ⟨S3, z, rfl⟩ := snoc_of (l := S1) (by intro e; rw [e] at hj; simp at hj; omega)
          simp only [List.length_append, List.length_singleton] at hj
          have hL : (P ++ S3).length = q := by rw [List.length_append, HA.out]; omega
          have hr2 : RowD base g cap n wr ((P ++ S3) ++ z :: ([] ++ x :: (S2 ++ (R ++ Q)))) := by simpa using hr
          have hg2 := two_get (P ++ S3) [] (S2 ++ (R ++ Q)) z x
          have hs2 := two_set' (P ++ S3) [] (S2 ++ (R ++ Q)) z x
          rw [hL, List.length_nil, Nat.add_zero] at hg2 hs2
          have az := hr2.at hg2.1
          have ax := hr2.at hg2.2
          have f1 : ∀ p : Later wr, p.w1.cell? ⟨g, q * 3, none⟩ = some (.string z.1) := fun p => p.cell hgw az.path
          have f2 : ∀ p : Later wr, p.w1.cell? ⟨g, q * 3 + 1, none⟩ = some (.int .i64 z.2.1) := fun p => p.cell hgw az.kind
          have f3 : ∀ p : Later wr, p.w1.cell? ⟨g, q * 3 + 2, none⟩ = some (.string z.2.2) := fun p => p.cell hgw az.data
          have g1 : ∀ p : Later wr, p.w1.cell? ⟨g, (q + 1) * 3, none⟩ = some (.string x.1) := fun p => p.cell hgw ax.path
          have g2 : ∀ p : Later wr, p.w1.cell? ⟨g, (q + 1) * 3 + 1, none⟩ = some (.int .i64 x.2.1) := fun p => p.cell hgw ax.kind
          have g3 : ∀ p : Later wr, p.w1.cell? ⟨g, (q + 1) * 3 + 2, none⟩ = some (.string x.2.2) := fun p => p.cell hgw ax.data
          have hja' : (a : Int) < (q : Int) + 1 := by omega
          have HR2 := hide hr2
          have HS2 := hide hs2
          have HW2 : Hid (S = (S3 ++ [z]) ++ S2 ∧ (∀ s ∈ S2, ltN x s = true) ∧ q = a + S3.length) := ⟨eS, hS2, by omega⟩
          clear hr hr2 hg2 hs2 az ax HW eS hS2 hj hL
          go_wp2
          refine wp_region_later (by kernel_rfl) (by kernel_rfl) ?_
          repeat (first | go_big_quiet_step ((go_at_call 33; exact Calls.later_of (bypath_any x z _))) | quiet_step ((go_at_call 33; exact Calls.later_of (bypath_any x z _))))
          refine wpQuiet_nil ?_
          intro W4 hw'
          have hbq := later_below hw'
          clear hw'
          have HR4 := hide (HR2.out.below hbq)
          have HB4 := hide (HBQ.out.trans (hbq.mono (Nat.le_trans hg (Nat.le_of_lt hgw))))
          clear f1 f2 f3 g1 g2 g3 hbq HR2 hne
          by_cases hc : cmpN x z < 0
          · have HXZ := hide ((cmpN_neg x z).1 hc)
            have hg2 := two_get (P ++ S3) [] (S2 ++ (R ++ Q)) z x
            have hL : (P ++ S3).length = q := by rw [List.length_append, HA.out]; have := HW2.out.2.2; omega
            rw [hL, List.length_nil, Nat.add_zero] at hg2
            obtain ⟨z1, z2, z3⟩ := HR4.out.at hg2.1
            obtain ⟨x1, x2, x3⟩ := HR4.out.at hg2.2
            have p1 := HR4.out.free (q * 3); have p2 := HR4.out.free (q * 3 + 1); have p3 := HR4.out.free (q * 3 + 2)
            have r1 := HR4.out.free ((q + 1) * 3); have r2 := HR4.out.free ((q + 1) * 3 + 1); have r3 := HR4.out.free ((q + 1) * 3 + 2)
            have HN : Hid (RowD base g cap n (putN (putN W4 g (q + 1) z) g q x).drew (P ++ (S3 ++ (x :: ((z :: S2) ++ (R ++ Q)))))) := by
              have h5 := ((HR4.out.put (i := q + 1) (by omega) z).put (i := q) (by omega) x).drew
              rw [HS2.out] at h5
              show RowD _ _ _ _ _ _
              simpa using h5
            have HBN := hide (below_put (below_put HB4.out hg (q + 1) z) hg q x).drew
            clear hg2 hL HR4 HS2
            go_wp2
            go_region
            go_wp2
            go_roundw
            case rel => exact ⟨q, by omega, by omega, by go_num, ⟨S3, z :: S2, by rw [HW2.out.1]; simp, by
              intro s hs
              rcases List.mem_cons.1 hs with rfl | hs
              · exact HXZ.out
              · exact HW2.out.2.1 s hs, HW2.out.2.2, HN.out⟩, HBN.out⟩
            case measure => simp [intOf]
          · have hc' : 0 ≤ cmpN x z := by omega
            have HXZ : Hid (ltN x z = false) := by
              show ltN x z = false
              cases k : ltN x z with
              | false => rfl
              | true => exact absurd ((cmpN_neg x z).2 k) hc
            clear hc HS2
            have HDONE := hide (way_done (P := P) (Q := Q) HST.out.1 HST.out.2.1 HST.out.2.2.1 HST.out.2.2.2.1 HST.out.2.2.2.2 hai HW2.out.1 (fun s hs => by
              have hsr := HST.out.2.2.2.1
              rw [HW2.out.1] at hsr
              have h6 := (srtd_app.1 (srtd_app.1 hsr).1).2.2
              rcases List.mem_append.1 hs with hs | hs
              · exact leN_trans (h6 s hs z (by simp)) HXZ.out
              · simp at hs; rw [hs]; exact HXZ.out) HW2.out.2.1 (by simpa using HR4.out))
            clear HST HW2 HR4
            go_wp2
            go_roundw
            case rel => exact ⟨i + 1, by omega, by omega, by go_num, HDONE, HB4⟩
            case measure => simp [intOf]; omega
        · have e : j = a := by omega
          subst e
          have eS1 : S1 = [] := List.eq_nil_of_length_eq_zero (by omega)
          subst eS1
          have HDONE := hide (way_done (P := P) (Q := Q) HST.out.1 HST.out.2.1 HST.out.2.2.1 HST.out.2.2.2.1 HST.out.2.2.2.2 hai eS (by simp) hS2 hr)
          have hno : decide ((j : Int) < (j : Int)) = false := by simp
          clear HST HW hr eS hS2 hj
          go_wp2
          refine wp_region_later (by kernel_rfl) (by kernel_rfl) ?_
          repeat (first | go_big_quiet_step (fail) | quiet_step (fail))
          refine wpQuiet_nil ?_
          intro W4 hw'
          have hbq := later_below hw'
          clear hw'
          have HD4 : Hid (∃ M1 S R, M = M1 ++ R ∧ S.length = i + 1 - j ∧ M1.length = i + 1 - j ∧ Srtd S ∧ Alike M1 S ∧ RowD base g cap n W4 (P ++ (S ++ (R ++ Q)))) := by
            obtain ⟨M1, S, R, e1, e2, e3, e4, e5, e6⟩ := HDONE.out
            exact ⟨M1, S, R, e1, e2, e3, e4, e5, e6.below hbq⟩
          have HB4 := hide (HBQ.out.trans (hbq.mono (Nat.le_trans hg (Nat.le_of_lt hgw))))
          clear hbq HDONE
          go_wp2
          go_roundw
          case rel => exact ⟨i + 1, by omega, by omega, by go_num, HD4, HB4⟩
          case measure => simp [intOf]; omega
    · go_wp2
      go_end0
      have e : i = b := by omega
      obtain ⟨M1, S, R, eM, lS, lM1, hS, hal, hr⟩ := HD.out
      have eR : R = [] := List.eq_nil_of_length_eq_zero (by have := HMB.out; rw [eM] at this; simp at this; omega)
      subst eR
      refine ⟨rfl, ⟨S, by simpa using hr, hS, ?_⟩, HB.out⟩
      rw [eM]; simpa using hal
end Go.Proofs.YteablfekfijnhaaDoor
