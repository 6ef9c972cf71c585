/- The walks of slices.stableCmpFunc, SortStableFunc, and of tree.Sort. -/
import Derived.Test.YteablfekfijnhaaDoorS7
namespace Go.Proofs.YteablfekfijnhaaDoor
open Go.RowKit

theorem div_blk {s k i : Nat} (h1 : s * k ≤ i) (h2 : i < s * k + s) : i / s = k :=
  Nat.div_eq_of_lt_le (by rw [Nat.mul_comm]; exact h1) (by rw [Nat.add_mul, Nat.one_mul, Nat.mul_comm]; exact h2)
theorem div_less {s k i : Nat} (hs : 0 < s) (h : i < s * k) : i / s < s * k / s := by
  rw [Nat.mul_div_cancel_left k hs]
  exact (Nat.div_lt_iff_lt_mul hs).2 (by rw [Nat.mul_comm]; exact h)
theorem len_mid {P M M' Q : List Nd} {n : Nat} (h : (P ++ (M ++ Q)).length = n) (h' : (P ++ (M' ++ Q)).length = n) : M'.length = M.length := by
  simp only [List.length_append] at h h'
  omega

set_option maxHeartbeats 400000 in
theorem insert_nothing (v : Value) (a b : Nat) (w : World) (hab : b ≤ a + 1) (ha : a < 1000) (fv : Value) :
    Calls Tryd.prog 47 #[v, .int .i64 a, .int .i64 b, fv] w fun e w' => e = .returned (.tuple #[]) ∧ w' = w := by
  have hi : (b : Int) ≤ (a : Int) + 1 := by omega
  go_enter Tryd.func47, Tryd.ntmps47
  go_wp2
  go_loop [8, 9] (fun i _ => i = .int .i64 ((a : Int) + 1)) (fun _ _ => 0)
  case atStart => rfl
  case round =>
    subst hrel
    go_wp2
    go_end0
    exact ⟨rfl, rfl⟩

/-- A segment is sorted by insertion, whatever its length. -/
theorem insert_any (base g cap n a b : Nat) (w : World) (P M Q : List Nd) (h : RowD base g cap n w (P ++ (M ++ Q))) (hn : n < 1000) (ha : P.length = a) (hM : a + M.length = b) :
    Calls Tryd.prog 47 #[.slice (some ⟨g, 0, none⟩) n cap, .int .i64 a, .int .i64 b, .func (.func 33) #[] #[]] w
      fun e w' => e = .returned (.tuple #[]) ∧ (∃ M', RowD base g cap n w' (P ++ (M' ++ Q)) ∧ Srtd M' ∧ Alike M M') ∧ Below base w w' := by
  by_cases hab : a + 1 < b
  · exact insert_many base g cap n a b w P M Q h hn ha hM hab
  · have hl := h.len
    simp only [List.length_append] at hl
    refine (insert_few base g cap n a b w _ h hn (by omega) (by omega) _).mono ?_
    rintro e w' ⟨rfl, hr, hb⟩
    refine ⟨rfl, ⟨M, hr, ?_, Alike.refl _⟩, hb⟩
    match M, hM with
    | [], _ => exact srtd_nil
    | [x], _ => exact srtd_one x
    | x :: y :: r, hM => simp at hM; omega

/-- Two runs beside one another, of k nodes at most, are sorted each. -/
theorem runs_srtd {k a u m b n : Nat} {P A B Q : List Nd} (ha : a = 2 * k * u) (h : BlkS k a n (P ++ (A ++ (B ++ Q)))) (l1 : P.length = a) (l2 : a + A.length = m) (l3 : m + B.length = b) (hm : m = a + k) (hb : b ≤ a + 2 * k) (hbn : b ≤ n) : Srtd A ∧ Srtd B := by
  have e : a = k * (2 * u) := by rw [ha, Nat.mul_comm 2 k, Nat.mul_assoc]
  constructor
  · refine blk_srtd h l1 l2 (Nat.le_refl _) (by omega) (fun i h1 h2 => ?_)
    rw [div_blk (k := 2 * u) (i := i) (by omega) (by omega), e, div_blk (k := 2 * u) (i := k * (2 * u)) (Nat.le_refl _) (by omega)]
  · have h' : BlkS k a n ((P ++ A) ++ (B ++ Q)) := by simpa using h
    have e2 : k * (2 * u + 1) = k * (2 * u) + k := by rw [Nat.mul_add, Nat.mul_one]
    refine blk_srtd h' (a := m) (by rw [List.length_append]; omega) l3 (by omega) hbn (fun i h1 h2 => ?_)
    rw [div_blk (k := 2 * u + 1) (i := i) (by omega) (by omega), div_blk (k := 2 * u + 1) (i := m) (by omega) (by omega)]

set_option maxRecDepth 100000 in
set_option maxHeartbeats 8000000 in
theorem stable_any (base g cap n : Nat) (w : World) (ds : List Nd) (h : RowD base g cap n w ds) (hn : n < 1000) :
    Calls Tryd.prog 39 #[.slice (some ⟨g, 0, none⟩) n cap, .int .i64 n, .func (.func 33) #[] #[]] w
      fun e w' => e = .returned (.tuple #[]) ∧ (∃ es, RowD base g cap n w' es ∧ Srtd es ∧ Alike ds es) ∧ Below base w w' := by
  have HR := hide h
  clear h
  go_enter Tryd.func39, Tryd.ntmps39
  go_wp2
  go_loopw [7, 8] (fun s t wr => ∃ a u : Nat, a ≤ n ∧ s = .int .i64 a ∧ t = .int .i64 ((a + 20 : Nat)) ∧ Hid (a = 20 * u) ∧ Hid (∃ es, RowD base g cap n wr es ∧ Alike ds es ∧ BlkS 20 0 a es) ∧ Hid (Below base w wr)) (fun s _ _ => n - (intOf s).toNat)
  case atStart => exact ⟨0, 0, Nat.zero_le _, rfl, rfl, rfl, ⟨ds, HR.out, Alike.refl _, fun i j x y _ _ h => by omega⟩, Below.refl _ _⟩
  case round =>
    clear HR
    obtain ⟨a, u, han, rfl, rfl, HU, HD, HB⟩ := hrel
    obtain ⟨es, hr, hal, hbk⟩ := HD.out
    by_cases hle : a + 20 ≤ n
    · have hle' : (a : Int) + 20 ≤ (n : Int) := by omega
      obtain ⟨P, M, Q, e, l1, l2⟩ := part3 (l := es) (a := a) (b := a + 20) (by omega) (by rw [hr.len]; exact hle)
      subst e
      have HX := hide hr
      have HAL := hide hal
      have HBK := hide hbk
      have HL1 := hide l1
      have HL2 := hide l2
      clear hr hal hbk l1 l2 HD
      go_wp2_with fail
      refine (insert_any base g cap n a (a + 20) wr P M Q HX.out hn HL1.out HL2.out).mono ?_
      rintro e w1 ⟨rfl, hM, hb1⟩
      obtain ⟨M', hr', hs', ha'⟩ := hM
      have HN : Hid (∃ es, RowD base g cap n w1 es ∧ Alike ds es ∧ BlkS 20 0 (a + 20) es) :=
        ⟨_, hr', HAL.out.trans (alike_seg ha'), blk_step (len_mid HX.out.len hr'.len) HL1.out HL2.out hs' HBK.out (fun i hi => by have := HU.out; omega)⟩
      have HB1 := hide (HB.out.trans hb1)
      clear hr' hs' ha' hb1 HX HAL HBK HL1 HL2 HB
      go_wp2
      go_roundw
      case rel => exact ⟨a + 20, u + 1, hle, by go_num, by go_num, by have := HU.out; show _ = _; omega, HN, HB1⟩
      case measure => simp [intOf]; omega
    · have hle' : (n : Int) < (a : Int) + 20 := by omega
      obtain ⟨P, M, Q, e, l1, l2⟩ := part3 (l := es) (a := a) (b := n) han (by rw [hr.len]; exact Nat.le_refl _)
      subst e
      have HX := hide hr
      have HAL := hide hal
      have HBK := hide hbk
      have HL1 := hide l1
      have HL2 := hide l2
      clear hr hal hbk l1 l2 HD
      go_wp2_with fail
      refine (insert_any base g cap n a n wr P M Q HX.out hn HL1.out HL2.out).mono ?_
      rintro e w1 ⟨rfl, hM, hb1⟩
      obtain ⟨M', hr', hs', ha'⟩ := hM
      have HN : Hid (∃ es, RowD base g cap n w1 es ∧ Alike ds es ∧ BlkS 20 0 n es) :=
        ⟨_, hr', HAL.out.trans (alike_seg ha'), blk_step (len_mid HX.out.len hr'.len) HL1.out HL2.out hs' HBK.out (fun i hi => by have := HU.out; omega)⟩
      have HB1 := hide (HB.out.trans hb1)
      clear hr' hs' ha' hb1 HX HAL HBK HL1 HL2 HB HU hle hle' han
      go_wp2
      go_loopw [6, 7, 8, 9] (fun s _ _ _ wr => ∃ k : Nat, 20 ≤ k ∧ k < 2000 ∧ s = .int .i64 k ∧ Hid (∃ es, RowD base g cap n wr es ∧ Alike ds es ∧ BlkS k 0 n es) ∧ Hid (Below base w wr)) (fun s _ _ _ _ => n - (intOf s).toNat)
      case atStart => exact ⟨20, Nat.le_refl _, by omega, rfl, HN, HB1⟩
      case round =>
        clear HN HB1
        obtain ⟨k, hk1, hk2, rfl, HD, HB⟩ := hrel
        by_cases hkn : k < n
        · have hkn' : (k : Int) < (n : Int) := by omega
          have HD2 : Hid (∃ es, RowD base g cap n wr es ∧ Alike ds es ∧ BlkS (2 * k) 0 0 es ∧ BlkS k 0 n es) := by
            obtain ⟨es, h1, h2, h3⟩ := HD.out
            exact ⟨es, h1, h2, fun i j x y _ _ h => by omega, h3⟩
          clear HD
          go_wp2
          go_loopw [7, 8] (fun s t wr => ∃ a u : Nat, a ≤ n ∧ s = .int .i64 a ∧ t = .int .i64 ((a + 2 * k : Nat)) ∧ Hid (a = 2 * k * u) ∧ Hid (∃ es, RowD base g cap n wr es ∧ Alike ds es ∧ BlkS (2 * k) 0 a es ∧ BlkS k a n es) ∧ Hid (Below base w wr)) (fun s _ _ => n - (intOf s).toNat)
          case atStart => exact ⟨0, 0, Nat.zero_le _, rfl, by congr 1; push_cast; omega, rfl, HD2, HB⟩
          case round =>
            clear HD2 HB
            obtain ⟨a, u, han, rfl, rfl, HU, HD, HB⟩ := hrel
            obtain ⟨es, hr, hal, hb1, hb2⟩ := HD.out
            have hmk : (a : Int) + (k : Int) = ((a + k : Nat) : Int) := by omega
            have HMK := hide hmk
            clear hmk
            by_cases hle : a + 2 * k ≤ n
            · have hle' : (a : Int) + 2 * (k : Int) ≤ (n : Int) := by omega
              obtain ⟨P, A, B, Q, e, l1, l2, l3⟩ := part4 (l := es) (a := a) (m := a + k) (b := a + 2 * k) (by omega) (by omega) (by rw [hr.len]; exact hle)
              subst e
              have hss := runs_srtd HU.out hb2 l1 l2 l3 rfl (Nat.le_refl _) hle
              have HX := hide hr
              have HAL := hide hal
              have HB1 := hide hb1
              have HB2 := hide hb2
              have HL : Hid (P.length = a ∧ a + A.length = a + k ∧ a + k + B.length = a + 2 * k) := ⟨l1, l2, l3⟩
              have HSS := hide hss
              clear hr hal hb1 hb2 l1 l2 l3 HD hss
              go_wp2_with fail
              rw [HMK.out]
              refine (sym_all base g cap n hn (A.length + B.length) P A B Q wr a (a + k) (a + 2 * k) HX.out HL.out.1 HL.out.2.1 HL.out.2.2 (by intro e; have := HL.out.2.1; rw [e] at this; simp at this; omega) (by intro e; have := HL.out.2.2; rw [e] at this; simp at this; omega) HSS.out.1 HSS.out.2 (Nat.le_refl _)).mono ?_
              rintro e w2 ⟨rfl, hM, hbw⟩
              obtain ⟨M', hr', hs', ha'⟩ := hM
              have HN : Hid (∃ es, RowD base g cap n w2 es ∧ Alike ds es ∧ BlkS (2 * k) 0 (a + 2 * k) es ∧ BlkS k (a + 2 * k) n es) := by
                have e5 : P ++ (A ++ (B ++ Q)) = P ++ ((A ++ B) ++ Q) := by simp
                have hx := HX.out
                rw [e5] at hx
                have q1 := HAL.out; have q2 := HB1.out; have q3 := HB2.out
                rw [e5] at q1 q2 q3
                have hl := len_mid hx.len hr'.len
                have hlm : a + (A ++ B).length = a + 2 * k := by rw [List.length_append]; have := HL.out; omega
                have hu := HU.out
                exact ⟨_, hr', q1.trans (alike_seg ha'), blk_step hl HL.out.1 hlm hs' q2 (fun i hi => by rw [hu] at hi ⊢; exact div_less (by omega) hi), blk_rest hl HL.out.1 hlm q3⟩
              have HBW := hide (HB.out.trans hbw)
              have HU2 : Hid (a + 2 * k = 2 * k * (u + 1)) := by show _ = _; rw [Nat.mul_add, Nat.mul_one, ← HU.out]
              clear hr' hs' ha' hbw HX HAL HB1 HB2 HL HSS HB HU
              go_wp2
              go_roundw
              case rel => exact ⟨a + 2 * k, u + 1, hle, by go_num, by congr 1, HU2, HN, HBW⟩
              case measure => simp [intOf]; omega
            · have hle' : (n : Int) < (a : Int) + 2 * (k : Int) := by omega
              by_cases hmn : a + k < n
              · have hmn' : (a : Int) + (k : Int) < (n : Int) := by omega
                obtain ⟨P, A, B, Q, e, l1, l2, l3⟩ := part4 (l := es) (a := a) (m := a + k) (b := n) (by omega) (by omega) (by rw [hr.len]; exact Nat.le_refl _)
                subst e
                have hss := runs_srtd HU.out hb2 l1 l2 l3 rfl (by omega) (Nat.le_refl _)
                have HX := hide hr
                have HAL := hide hal
                have HB1 := hide hb1
                have HL : Hid (P.length = a ∧ a + A.length = a + k ∧ a + k + B.length = n) := ⟨l1, l2, l3⟩
                have HSS := hide hss
                clear hr hal hb1 hb2 l1 l2 l3 HD hss
                go_wp2_with fail
                rw [HMK.out]
                refine (sym_all base g cap n hn (A.length + B.length) P A B Q wr a (a + k) n HX.out HL.out.1 HL.out.2.1 HL.out.2.2 (by intro e; have := HL.out.2.1; rw [e] at this; simp at this; omega) (by intro e; have := HL.out.2.2; rw [e] at this; simp at this; omega) HSS.out.1 HSS.out.2 (Nat.le_refl _)).mono ?_
                rintro e w2 ⟨rfl, hM, hbw⟩
                obtain ⟨M', hr', hs', ha'⟩ := hM
                have HN : Hid (∃ es, RowD base g cap n w2 es ∧ Alike ds es ∧ BlkS (k * 2) 0 n es) := by
                  have e5 : P ++ (A ++ (B ++ Q)) = P ++ ((A ++ B) ++ Q) := by simp
                  have hx := HX.out
                  rw [e5] at hx
                  have q1 := HAL.out; have q2 := HB1.out
                  rw [e5] at q1 q2
                  have hl := len_mid hx.len hr'.len
                  have hlm : a + (A ++ B).length = n := by rw [List.length_append]; have := HL.out; omega
                  have hu := HU.out
                  rw [Nat.mul_comm k 2]
                  exact ⟨_, hr', q1.trans (alike_seg ha'), blk_step hl HL.out.1 hlm hs' q2 (fun i hi => by rw [hu] at hi ⊢; exact div_less (by omega) hi)⟩
                have HBW := hide (HB.out.trans hbw)
                clear hr' hs' ha' hbw HX HAL HB1 HL HSS HB HU HMK
                go_wp2
                go_roundw
                case rel => exact ⟨k * 2, by omega, by omega, by go_num, HN, HBW⟩
                case measure => simp [intOf]; omega
              · have hmn' : (n : Int) ≤ (a : Int) + (k : Int) := by omega
                have HN : Hid (∃ es, RowD base g cap n wr es ∧ Alike ds es ∧ BlkS (k * 2) 0 n es) := by
                  obtain ⟨P, M, Q, e, l1, l2⟩ := part3 (l := es) (a := a) (b := n) han (by rw [hr.len]; exact Nat.le_refl _)
                  subst e
                  have hu := HU.out
                  have e6 : a = k * (2 * u) := by rw [hu, Nat.mul_comm 2 k, Nat.mul_assoc]
                  have hsM := blk_srtd hb2 l1 l2 (Nat.le_refl _) (Nat.le_refl _) (fun i h1 h2 => by
                    rw [div_blk (k := 2 * u) (i := i) (by omega) (by omega), div_blk (k := 2 * u) (i := a) (by omega) (by omega)])
                  rw [Nat.mul_comm k 2]
                  exact ⟨_, hr, hal, blk_step rfl l1 l2 hsM hb1 (fun i hi => by rw [hu] at hi ⊢; exact div_less (by omega) hi)⟩
                clear hr hal hb1 hb2 HD HU HMK
                go_wp2
                go_roundw
                case rel => exact ⟨k * 2, by omega, by omega, by go_num, HN, HB⟩
                case measure => simp [intOf]; omega
        · have hkn' : (n : Int) ≤ (k : Int) := by omega
          go_wp2
          go_end0
          obtain ⟨es, h1, h2, h3⟩ := HD.out
          refine ⟨rfl, ⟨es, h1, ?_, h2⟩, HB.out⟩
          rw [srtd_get]
          intro i j x y hij hx hy
          have hjl := (List.getElem?_eq_some_iff.1 hy).1
          rw [h1.len] at hjl
          exact h3 i j x y (Nat.zero_le _) hij hjl (by rw [Nat.div_eq_of_lt (by omega), Nat.div_eq_of_lt (by omega)]) hx hy


set_option maxRecDepth 100000 in
set_option maxHeartbeats 1000000 in
theorem stable_nothing (v : Value) (w : World) (fv : Value) :
    Calls Tryd.prog 39 #[v, .int .i64 0, fv] w fun e w' => e = .returned (.tuple #[]) ∧ w' = w := by
  go_enter Tryd.func39, Tryd.ntmps39
  go_wp2
  go_loop [7, 8] (fun s t => s = .int .i64 0 ∧ t = .int .i64 20) (fun _ _ => 0)
  case atStart => exact ⟨rfl, rfl⟩
  case round =>
    obtain ⟨rfl, rfl⟩ := hrel
    go_wp2_with fail
    refine (insert_nothing v 0 0 w (by omega) (by omega) fv).mono ?_
    rintro e w1 ⟨rfl, rfl⟩
    go_wp2
    go_loop [6, 7, 8, 9] (fun s _ _ _ => s = .int .i64 20) (fun _ _ _ _ => 0)
    case atStart => rfl
    case round =>
      subst hrel
      go_wp2
      go_end0
      exact ⟨rfl, rfl⟩

set_option maxHeartbeats 1000000 in
theorem sortStable_none (a : Option Addr) (c : Nat) (w : World) (fv : Value) :
    Calls Tryd.prog 32 #[.slice a 0 c, fv] w fun e w' => e = .returned (.tuple #[]) ∧ w' = w := by
  go_enter Tryd.func32, Tryd.ntmps32
  go_wp2_with fail
  refine (stable_nothing _ w fv).mono ?_
  rintro e w1 ⟨rfl, rfl⟩
  go_wp2
  go_end0
  exact ⟨rfl, rfl⟩
set_option maxHeartbeats 1000000 in
theorem sortStable_some (base g cap n : Nat) (w : World) (ds : List Nd) (h : RowD base g cap n w ds) (hn : n < 1000) :
    Calls Tryd.prog 32 #[.slice (some ⟨g, 0, none⟩) n cap, .func (.func 33) #[] #[]] w
      fun e w' => e = .returned (.tuple #[]) ∧ (∃ es, RowD base g cap n w' es ∧ Srtd es ∧ Alike ds es) ∧ Below base w w' := by
  have HR := hide h
  clear h
  go_enter Tryd.func32, Tryd.ntmps32
  go_wp2_with fail
  refine (stable_any base g cap n w ds HR.out hn).mono ?_
  rintro e w1 ⟨rfl, h1, h2⟩
  go_wp2
  go_end0
  exact ⟨rfl, h1, h2⟩

/-- tree.Sort: a new row that holds the nodes by rising paths, those of one path in their order. -/
theorem sort_ok (ao : Option Addr) (n c : Nat) (ns : List Nd) (w : World) (h : ArgN w ao n c ns) (hn : n < 1000) :
    Calls Tryd.prog 20 #[.slice ao n c] w fun e w' => ∃ v es, e = .returned v ∧ OwnN w.heap.size w' v es ∧ Srtd es ∧ Alike ns es ∧ Below w.heap.size w w' := by
  have HA := hide h
  have HL := hide h.len
  clear h
  go_enter Tryd.func20, Tryd.ntmps20
  go_wp2_with fail
  refine (clone_ok ao n c ns w HA.out (by omega)).mono ?_
  rintro e w1 ⟨v, rfl, ho, hb⟩
  have HO := hide ho
  have HB := hide hb
  obtain ⟨_, h2⟩ := ho
  clear hb
  rcases h2 with ⟨rfl, h0⟩ | ⟨g, cap, cur, rfl, _⟩
  · have e : ns = [] := List.eq_nil_of_length_eq_zero h0
    subst e
    clear h0
    go_wp2_with fail
    refine (sortStable_none none 0 w1 _).mono ?_
    rintro e w2 ⟨rfl, rfl⟩
    go_wp2
    go_ret
    exact ⟨_, [], rfl, HO.out, srtd_nil, Alike.refl _, HB.out⟩
  · have hz : w.heap.size ≤ g := (HO.out.lt g rfl).1
    have HRD : Hid (RowD w.heap.size g cap n w1 ns) := ⟨HL.out, by have := HO.out; rw [HL.out] at this; exact this⟩
    have hlen : ns.length = n := HL.out
    rw [hlen]
    rename_i hx
    clear hx hlen
    go_wp2_with fail
    refine (sortStable_some w.heap.size g cap n w1 ns HRD.out hn).mono ?_
    rintro e w2 ⟨rfl, hes, hb2⟩
    obtain ⟨es, hr, hs, ha⟩ := hes
    have HF : Hid (OwnN w.heap.size w2 (.slice (some ⟨g, 0, none⟩) n cap) es ∧ Srtd es ∧ Alike ns es) := ⟨hr.own, hs, ha⟩
    have HBF := hide (HB.out.trans hb2)
    clear hr hs ha hb2
    go_wp2
    go_ret
    exact ⟨_, es, rfl, HF.out.1, HF.out.2.1, HF.out.2.2, HBF.out⟩
end Go.Proofs.YteablfekfijnhaaDoor
