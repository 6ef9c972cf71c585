/- The walk of ScanParts. -/
import Derived.Test.YteccbnhbdfplfaaSM
import Derived.Test.YteccbnhbdfplfaaSO
import Derived.Test.YteccbnhbdfplfaaPlainP
import Derived.Deep.DeepCutAuto
namespace Go.Proofs.Yteccbnhbdfplfaa
open Go.RowKit

theorem below_draw {w w' : World} (h : Below w.heap.size w w') (n : Nat) : Below w.heap.size w (w'.drewN n) := by
  have := below_drewN (Below.refl w'.heap.size w') n
  exact below_two h this
theorem placesN_ok (s p : ByteArray) (L : List Nat) (n : Nat) (w : World) (hp : p.size < 1000000) (hs : s.size < 1000000) (hL : Hog.placesL p.data.toList s.data.toList = L) (hn : L.length = n) :
    Calls Try.prog 11 #[.string s, .string p] w fun e w' => ∃ a c, e = .returned (.slice a n c) ∧ OwnZ w.heap.size w' (.slice a n c) (nums L) ∧ Below w.heap.size w w' := by
  subst hn
  exact places_ok s p L w hp hs hL
theorem Zs.take {w : World} {a : Option Addr} {n c m : Nat} {xs ys : List Int} (h : Zs w (.slice a n c) xs) (hm : ys.length = m) (hp : ys <+: xs) : Zs w (.slice a m c) ys := by
  rcases h with ⟨rfl, a', c', e⟩ | ⟨b, o, c', e, hc, hb, hcell⟩
  · obtain rfl := List.prefix_nil.1 hp
    obtain rfl : m = 0 := hm.symm
    exact .inl ⟨rfl, a, c, rfl⟩
  · obtain ⟨rfl, rfl, rfl⟩ : a = some ⟨b, o, none⟩ ∧ n = xs.length ∧ c = c' := by simpa using e
    subst hm
    refine .inr ⟨b, o, c, rfl, Nat.le_trans hp.length_le hc, hb, fun j x hx => hcell j x ?_⟩
    obtain ⟨r, rfl⟩ := hp
    rw [List.getElem?_append_left (List.getElem?_eq_some_iff.1 hx).1]
    exact hx
theorem wrap_j {n : Int} (h : -9223372036854775808 ≤ n ∧ n ≤ 9223372036854775807) : IntKind.i64.wrap n = n := by
  simp only [IntKind.wrap, IntKind.bits, IntKind.signed, Bool.true_and]
  split <;> rename_i h' <;> simp only [ge_iff_le, decide_eq_true_eq] at h' <;> omega
theorem Zs.room {w : World} {a : Option Addr} {n c : Nat} {xs : List Int} (h : Zs w (.slice a n c) xs) : n ≤ c := by
  rcases h with ⟨rfl, a', c', e⟩ | ⟨b, o, c', e, hc, hb, hcell⟩
  · obtain ⟨_, rfl, _⟩ : a = a' ∧ n = 0 ∧ c = c' := by simpa using e
    exact Nat.zero_le _
  · obtain ⟨rfl, rfl, rfl⟩ : a = some ⟨b, o, none⟩ ∧ n = xs.length ∧ c = c' := by simpa using e
    exact hc
theorem nums_len (l : List Nat) : (nums l).length = l.length := by unfold nums; rw [List.length_map]
theorem nums_at {l : List Nat} {j x : Nat} (h : l[j]? = some x) : (nums l)[j]? = some (x : Int) := by unfold nums; rw [List.getElem?_map, h]; rfl

/-- The text over both, as it is cut. -/
def overB (p a b : ByteArray) : ByteArray := Hog.mk (Hog.overL p.data.toList a.data.toList b.data.toList)

theorem mk_joined (x y : List UInt8) : Hog.mk x ++ Hog.mk y = Hog.mk (x ++ y) := by
  rw [← Hog.data_mk (Hog.mk x ++ Hog.mk y), app_data, Hog.mk_data, Hog.mk_data]
theorem overB_eq {p a b : ByteArray} (h : (1 : Int) ≤ (p.size : Int)) :
    a.extract (max 0 ((a.size : Int) - (p.size : Int) + 1)).toNat a.size ++ b.extract 0 (min (b.size : Int) ((p.size : Int) - 1)).toNat = overB p a b := by
  unfold overB Hog.overL
  rw [drop_mk, take_mk, mk_joined, ← Hog.size_len, ← Hog.size_len, show (max 0 ((a.size : Int) - (p.size : Int) + 1)).toNat = a.size + 1 - p.size by omega]
  by_cases k : p.size - 1 ≤ b.size
  · rw [show (min (b.size : Int) ((p.size : Int) - 1)).toNat = p.size - 1 by omega]
  · rw [show (min (b.size : Int) ((p.size : Int) - 1)).toNat = b.size by omega, List.take_of_length_le (by rw [← Hog.size_len]; omega), List.take_of_length_le (l := b.data.toList) (i := p.size - 1) (by rw [← Hog.size_len]; omega)]

set_option maxRecDepth 100000 in
set_option maxHeartbeats 4000000 in
theorem parts_walk (a b p : ByteArray) (w : World) (ha : a.size ≤ maxLen) (hb : b.size ≤ maxLen) (hp : p.size ≤ maxLen) :
    Calls Try.prog 4 #[.string a, .string b, .string p] w fun e w' => e = .returned (.bool true) ∧ Below w.heap.size w w' := by
  have hai : (a.size : Int) ≤ 9223372036854775807 := by unfold maxLen at ha; omega
  have hbi : (b.size : Int) ≤ 9223372036854775807 := by unfold maxLen at hb; omega
  have hpi : (p.size : Int) ≤ 9223372036854775807 := by unfold maxLen at hp; omega
  clear ha hb hp
  have HAW := hide (awake8_ok)
  go_enter Try.func4, Try.ntmps4
  by_cases h1 : 200 < a.size
  · have h1i : (200 : Int) < (a.size : Int) := by omega
    go_wp2_with fail
    refine (HAW.out w).mono ?_
    rintro e w1 ⟨rfl, hb1⟩
    have HB1 := hide hb1
    clear hb1
    go_wp2
    go_ret
    exact ⟨rfl, HB1.out⟩
  have h1i : (a.size : Int) ≤ 200 := by omega
  by_cases h2 : 200 < b.size
  · have h2i : (200 : Int) < (b.size : Int) := by omega
    go_wp2_with fail
    refine (HAW.out w).mono ?_
    rintro e w1 ⟨rfl, hb1⟩
    have HB1 := hide hb1
    clear hb1
    go_wp2
    go_ret
    exact ⟨rfl, HB1.out⟩
  have h2i : (b.size : Int) ≤ 200 := by omega
  by_cases h3 : 40 < p.size
  · have h3i : (40 : Int) < (p.size : Int) := by omega
    go_wp2_with fail
    refine (HAW.out w).mono ?_
    rintro e w1 ⟨rfl, hb1⟩
    have HB1 := hide hb1
    clear hb1
    go_wp2
    go_ret
    exact ⟨rfl, HB1.out⟩
  have h3i : (p.size : Int) ≤ 40 := by omega
  by_cases h4 : p.size = 0
  · have HPN : Hid (p.data.toList = []) := List.eq_nil_of_length_eq_zero (by rw [← Hog.size_len]; exact h4)
    have hpe : p.toList.isEmpty = true := by rw [Lib.toList_data, HPN.out]; rfl
    clear h4
    go_wp2_with fail
    refine (HAW.out w).mono ?_
    rintro e w1 ⟨rfl, hb1⟩
    have HB1 := hide hb1
    clear hb1
    go_wp2
    go_ret
    exact ⟨rfl, HB1.out⟩
  have HPN : Hid (p.data.toList ≠ []) := fun e => h4 (by rw [Hog.size_len, e]; rfl)
  have hpe : p.toList.isEmpty = false := by
    rw [Lib.toList_data]
    cases e : p.data.toList with
    | nil => exact absurd e HPN.out
    | cons a r => rfl
  have h4i : (1 : Int) ≤ (p.size : Int) := by omega
  clear h1 h2 h3 h4 hai hbi hpi
  obtain ⟨X, hX⟩ : ∃ X, Hog.placesL p.data.toList a.data.toList = X := ⟨_, rfl⟩
  obtain ⟨Y, hY⟩ : ∃ Y, Hog.placesL p.data.toList b.data.toList = Y := ⟨_, rfl⟩
  obtain ⟨Z, hZ⟩ : ∃ Z, Hog.placesL p.data.toList (a ++ b).data.toList = Z := ⟨_, rfl⟩
  obtain ⟨O, hO⟩ : ∃ O, Hog.placesL p.data.toList (overB p a b).data.toList = O := ⟨_, rfl⟩
  obtain ⟨x, hx⟩ : ∃ x, X.length = x := ⟨_, rfl⟩
  obtain ⟨y, hy⟩ : ∃ y, Y.length = y := ⟨_, rfl⟩
  obtain ⟨z, hz⟩ : ∃ z, Z.length = z := ⟨_, rfl⟩
  obtain ⟨q, hq⟩ : ∃ q, O.length = q := ⟨_, rfl⟩
  have hfact : z = x + y + q ∧ X <+: Z := by
    obtain ⟨mid, last, e1, e2, e3⟩ := Hog.parts_both (a := a.data.toList) (b := b.data.toList) HPN.out
    rw [app_data] at hZ
    unfold overB at hO
    rw [Hog.mk_data] at hO
    rw [hZ, hX] at e1
    rw [hO] at e2
    rw [hY] at e3
    refine ⟨?_, ⟨mid ++ last, e1.symm⟩⟩
    rw [← hz, e1, List.length_append, List.length_append, hx, e2, e3, hy, hq]
    omega
  have hsa : a.size ≤ 200 := by omega
  have hsb : b.size ≤ 200 := by omega
  have hsp : p.size ≤ 40 := by omega
  have hsab : (a ++ b).size = a.size + b.size := by simp
  have hso : (overB p a b).size ≤ 400 := by
    unfold overB Hog.overL
    rw [Hog.mk_size, List.length_append, List.length_drop, List.length_take, ← Hog.size_len, ← Hog.size_len, ← Hog.size_len]
    omega
  have hxl : x ≤ 201 := by rw [← hx, ← hX]; refine Nat.le_trans Hog.places_len ?_; rw [← Hog.size_len]; omega
  have hyl : y ≤ 201 := by rw [← hy, ← hY]; refine Nat.le_trans Hog.places_len ?_; rw [← Hog.size_len]; omega
  have hql : q ≤ 401 := by rw [← hq, ← hO]; refine Nat.le_trans Hog.places_len ?_; rw [← Hog.size_len]; omega
  have HX := hide hX
  have HY := hide hY
  have HZ := hide hZ
  have HO := hide hO
  have HNX := hide hx
  have HNY := hide hy
  have HNZ := hide hz
  have HNO := hide hq
  obtain ⟨hf1, hf2⟩ := hfact
  have HF := hide hf2
  have HSUM := hide hf1
  have hxz : (x : Int) ≤ (z : Int) := by omega
  have hzl : (z : Int) ≤ 900 := by omega
  have hne : ((z : Int) != (x : Int) + (y : Int) + (q : Int)) = false := by rw [hf1]; simp
  have HSA := hide hsa
  have HSB := hide hsb
  have HSP := hide hsp
  have HSAB := hide hsab
  have HSO := hide hso
  clear hX hY hZ hO hx hy hz hq hf1 hf2 hsa hsb hsp hsab hso
  go_wp2_with fail
  refine (placesN_ok a p X x w (by have := HSP.out; omega) (by have := HSA.out; omega) HX.out HNX.out).mono ?_
  rintro e w1 ⟨ax, cx, rfl, ho1, hb1⟩
  have HZ1 := hide ho1.txt
  have HB1 := hide hb1
  clear ho1 hb1
  go_wp2_with fail
  refine (placesN_ok b p Y y w1 (by have := HSP.out; omega) (by have := HSB.out; omega) HY.out HNY.out).mono ?_
  rintro e w2 ⟨ay, cy, rfl, ho2, hb2⟩
  have HZ2 := hide (HZ1.out.below hb2)
  have HB2 := hide (below_two HB1.out hb2)
  clear ho2 hb2 HZ1 HB1
  go_wp2_with fail
  refine (placesN_ok (a ++ b) p Z z w2 (by have := HSP.out; omega) (by have := HSAB.out; have := HSA.out; have := HSB.out; omega) HZ.out HNZ.out).mono ?_
  rintro e w3 ⟨az, cz, rfl, ho3, hb3⟩
  have HZ3 := hide (HZ2.out.below hb3)
  have HW3 := hide ho3.txt
  have HB3 := hide (below_two HB2.out hb3)
  clear ho3 hb3 HZ2 HB2
  go_upto_region 4 with fail
  go_cut [10] from 42 to 59 (fun v wx => v = .string (overB p a b) ∧ Hid (Below w3.heap.size w3 wx))
  case first =>
    have hm1 : max 0 ((a.size : Int) - (p.size : Int) + 1) ≤ (a.size : Int) := by omega
    have hm2 : (0 : Int) ≤ max 0 ((a.size : Int) - (p.size : Int) + 1) := by omega
    have hm3 : min (b.size : Int) ((p.size : Int) - 1) ≤ (b.size : Int) := by omega
    have hm4 : (0 : Int) ≤ min (b.size : Int) ((p.size : Int) - 1) := by omega
    go_quiet (fail)
    go_wp2
    go_meet
    exact ⟨congrArg _ (overB_eq h4i), hide (below_drewN (Below.refl _ _) nq)⟩
  case rest =>
    obtain ⟨rfl, hb4⟩ := hcut
    have HZ4 := hide (HZ3.out.below hb4.out)
    have HW4 := hide (HW3.out.below hb4.out)
    have HB4 := hide (below_two HB3.out hb4.out)
    clear hb4 HZ3 HW3 HB3
    go_wp2_with fail
    refine (placesN_ok (overB p a b) p O q _ (by have := HSP.out; omega) (by have := HSO.out; omega) HO.out HNO.out).mono ?_
    rintro e w5 ⟨aq, cq, rfl, ho5, hb5⟩
    have HZ5 := hide (HZ4.out.below hb5)
    have HW5 := hide (HW4.out.below hb5)
    have HB5 := hide (below_two HB4.out hb5)
    clear ho5 hb5 HZ4 HW4 HB4
    go_wp2
    go_loopw [12] (fun i wr => ∃ k : Nat, k ≤ z ∧ i = .int .i64 k ∧ Hid (Below w5.heap.size w5 wr)) (fun i _ => z - (intOf i).toNat)
    case atStart => exact ⟨0, Nat.zero_le _, rfl, Below.refl _ _⟩
    case round =>
      obtain ⟨k, hk, rfl, hbl⟩ := hrel
      by_cases hlt : k < z
      · obtain ⟨u, hu⟩ : ∃ u, Z[k]? = some u := ⟨Z[k]'(by have := HNZ.out; omega), List.getElem?_eq_some_iff.2 ⟨_, rfl⟩⟩
        rcases id HW5.out with ⟨e, _⟩ | ⟨g, o, c', e, _, hg, hcell⟩
        · have h := congrArg List.length e
          rw [nums_len, HNZ.out] at h
          exact absurd hlt (by rw [h]; simp)
        obtain ⟨rfl, hzz, rfl⟩ : az = some ⟨g, o, none⟩ ∧ z = (nums Z).length ∧ cz = c' := by simpa using e
        clear hzz
        have hu1 := (hbl.out.cell (p := ⟨g, o + k, none⟩) hg).trans (hcell k _ (nums_at hu))
        have hfa := HZ.out
        rw [← hfa] at hu
        obtain ⟨hu2, hu3⟩ := Hog.places_at HPN.out hu
        rw [hfa] at hu
        rw [occ_piece] at hu3
        rw [← Hog.size_len, ← Hog.size_len, HSAB.out] at hu2
        have hu2i : (u : Int) + (p.size : Int) ≤ (a.size : Int) + (b.size : Int) := by omega
        have hu0i : (0 : Int) ≤ (u : Int) := by omega
        have huu : (u : Int) ≤ (u : Int) + (p.size : Int) := by omega
        have hki : (k : Int) < (z : Int) := by omega
        have HU := hide hu
        have HC := hide hcell
        clear e hcell hfa hu2
        by_cases hk0 : k = 0
        · have hkd : decide (0 < k) = false := by rw [decide_eq_false_iff_not]; omega
          have hud : decide ((u : Int) < 0) = false := by rw [decide_eq_false_iff_not]; omega
          have hup : decide ((a.size : Int) + (b.size : Int) < (u : Int) + (p.size : Int)) = false := by rw [decide_eq_false_iff_not]; omega
          clear hu hk0
          go_wp2
          go_quiet (fail)
          go_wp2
          go_roundw
          case rel => exact ⟨k + 1, by omega, by go_num, hide (below_draw hbl.out nq)⟩
          case measure => simp [intOf]; omega
        · obtain ⟨j, hj⟩ : ∃ j, k = j + 1 := ⟨k - 1, by omega⟩
          obtain ⟨v, hv⟩ : ∃ v, Z[j]? = some v := ⟨Z[j]'(by have := HNZ.out; omega), List.getElem?_eq_some_iff.2 ⟨_, rfl⟩⟩
          have hv1 := (hbl.out.cell (p := ⟨g, o + j, none⟩) hg).trans (HC.out j _ (nums_at hv))
          have hvu : v < u := by
            have h1 := hv
            have h2 := hu
            rw [hj] at h2
            rw [← HZ.out] at h1 h2
            exact Hog.places_next h1 h2
          have hkd : decide (0 < k) = true := by rw [decide_eq_true_eq]; omega
          have hud : decide ((u : Int) < 0) = false := by rw [decide_eq_false_iff_not]; omega
          have hup : decide ((a.size : Int) + (b.size : Int) < (u : Int) + (p.size : Int)) = false := by rw [decide_eq_false_iff_not]; omega
          have huv : decide ((u : Int) ≤ (v : Int)) = false := by rw [decide_eq_false_iff_not]; omega
          have huv2 : decide (u ≤ v) = false := by rw [decide_eq_false_iff_not]; omega
          have hkj : (k : Int) - 1 = (j : Int) := by omega
          have hkw : IntKind.i64.wrap ((k : Int) - 1) = (j : Int) := by rw [hkj]; exact wrap_j (by omega)
          have hjz : (j : Int) < (z : Int) := by omega
          clear hu hv hk0 hj hvu
          go_wp2
          go_quiet (fail)
          go_wp2
          go_roundw
          case rel => exact ⟨k + 1, by omega, by go_num, hide (below_draw hbl.out nq)⟩
          case measure => simp [intOf]; omega
      · have hki : (z : Int) ≤ (k : Int) := by omega
        have HZ6 := hide (HZ5.out.below hbl.out)
        have HW6 : Hid (Zs wr (.slice az x cz) (nums X)) := (HW5.out.below hbl.out).take (by rw [nums_len, HNX.out]) (by unfold nums; exact HF.out.map _)
        have HB6 := hide (below_two HB5.out hbl.out)
        have hxc : (x : Int) ≤ (cz : Int) := by have := HW5.out.room; omega
        clear HZ5 HW5 HB5 hbl
        cases az with
        | none =>
          have hmn : min (x : Int) (z : Int) = (x : Int) := by omega
          go_wp2_with fail
          refine (sameZ_any _ _ (nums X) (nums X) _ HZ6.out HW6.out (by rw [nums_len, HNX.out]; omega)).mono ?_
          rintro e w7 ⟨rfl, hb7⟩
          rw [decide_eq_true rfl]
          have HB7 := hide (below_two HB6.out hb7)
          clear hb7 HB6 HZ6 HW6
          go_wp2_with fail
          refine (HAW.out w7).mono ?_
          rintro e w8 ⟨rfl, hb8⟩
          have HB8 := hide (below_two HB7.out hb8)
          clear hb8
          go_wp2
          go_ret
          exact ⟨rfl, HB8.out⟩
        | some ad =>
          have hmn : min (x : Int) (z : Int) = (x : Int) := by omega
          go_wp2_with fail
          refine (sameZ_any _ _ (nums X) (nums X) _ HZ6.out HW6.out (by rw [nums_len, HNX.out]; omega)).mono ?_
          rintro e w7 ⟨rfl, hb7⟩
          rw [decide_eq_true rfl]
          have HB7 := hide (below_two HB6.out hb7)
          clear hb7 HB6 HZ6 HW6
          go_wp2_with fail
          refine (HAW.out w7).mono ?_
          rintro e w8 ⟨rfl, hb8⟩
          have HB8 := hide (below_two HB7.out hb8)
          clear hb8
          go_wp2
          go_ret
          exact ⟨rfl, HB8.out⟩
end Go.Proofs.Yteccbnhbdfplfaa
