/- The walk of slices.rotateCmpFunc: two blocks that lie beside one another change places. -/
import Derived.Test.YteablfekfijnhaaDoorS1
namespace Go.Proofs.YteablfekfijnhaaDoor
open Go.RowKit

theorem split_at {l : List Nd} {k : Nat} (h : k ≤ l.length) : ∃ a b, l = a ++ b ∧ a.length = k ∧ b.length = l.length - k :=
  ⟨l.take k, l.drop k, (List.take_append_drop k l).symm, by rw [List.length_take]; omega, by rw [List.length_drop]⟩

set_option maxRecDepth 100000 in
set_option maxHeartbeats 4000000 in
theorem rotate_any (base g cap n a m b : Nat) (w : World) (P X Y Q : List Nd) (h : RowD base g cap n w (P ++ (X ++ (Y ++ Q)))) (hn : n < 1000) (ha : P.length = a) (hX : a + X.length = m) (hY : m + Y.length = b) (hx0 : 0 < X.length) (hy0 : 0 < Y.length) (fv : Value) :
    Calls Tryd.prog 57 #[.slice (some ⟨g, 0, none⟩) n cap, .int .i64 a, .int .i64 m, .int .i64 b, fv] w
      fun e w' => e = .returned (.tuple #[]) ∧ RowD base g cap n w' (P ++ (Y ++ (X ++ Q))) ∧ Below base w w' := by
  have HR := hide h
  have hlen := h.len
  simp only [List.length_append] at hlen
  have hbn : b ≤ n := by omega
  have ham : a < m := by omega
  have hmb : m < b := by omega
  have HS : Hid (∃ P' U V Q', (P' ++ (U ++ (V ++ Q')) = P ++ (X ++ (Y ++ Q))) ∧ P'.length = m - (m - a) ∧ U.length = m - a ∧ V.length = b - m ∧ P' ++ (V ++ (U ++ Q')) = P ++ (Y ++ (X ++ Q))) := ⟨P, X, Y, Q, rfl, by omega, by omega, by omega, rfl⟩
  clear h hlen ha hX hY hx0 hy0
  obtain ⟨i0, hi0⟩ : ∃ i0, i0 = m - a := ⟨_, rfl⟩
  obtain ⟨j0, hj0⟩ : ∃ j0, j0 = b - m := ⟨_, rfl⟩
  have e1 : (m : Int) - (a : Int) = (i0 : Int) := by omega
  have e2 : (b : Int) - (m : Int) = (j0 : Int) := by omega
  have hi1 : 0 < i0 := by omega
  have hj1 : 0 < j0 := by omega
  have him : i0 ≤ m := by omega
  have hjm : m + j0 ≤ n := by omega
  rw [← hi0, ← hj0] at HS
  have E1 := hide e1
  have E2 := hide e2
  clear hi0 hj0 e1 e2
  go_enter Tryd.func57, Tryd.ntmps57
  go_wp2
  rw [E1.out, E2.out]
  go_loopw [10, 11] (fun s t wr => ∃ i j : Nat, 0 < i ∧ 0 < j ∧ i ≤ m ∧ m + j ≤ n ∧ s = .int .i64 i ∧ t = .int .i64 j ∧ Hid (∃ P' U V Q', RowD base g cap n wr (P' ++ (U ++ (V ++ Q'))) ∧ P'.length = m - i ∧ U.length = i ∧ V.length = j ∧ P' ++ (V ++ (U ++ Q')) = P ++ (Y ++ (X ++ Q))) ∧ Hid (Below base w wr)) (fun s t _ => (intOf s).toNat + (intOf t).toNat)
  case atStart =>
    obtain ⟨P', U, V, Q', e, l1, l2, l3, e'⟩ := HS.out
    exact ⟨i0, j0, hi1, hj1, him, hjm, rfl, rfl, ⟨P', U, V, Q', by rw [e]; exact HR.out, l1, l2, l3, e'⟩, Below.refl _ _⟩
  case round =>
    obtain ⟨i, j, hi, hj, him', hjm', rfl, rfl, HD, HB⟩ := hrel
    have hmi : (m : Int) - (i : Int) = ((m - i : Nat) : Int) := by omega
    have HMI := hide hmi
    clear hmi HR HS
    by_cases hij : i = j
    · subst hij
      have hne : ((i : Int) != (i : Int)) = false := by simp
      go_wp2_with fail
      rw [HMI.out]
      obtain ⟨P', U, V, Q', hr, l1, l2, l3, e'⟩ := HD.out
      refine (swapRange_any base g cap n (m - i) m i wr P' U [] V Q' hr hn l1 l2 (by simp; omega) l3 fv).mono ?_
      rintro e w1 ⟨rfl, hr1, hb1⟩
      have HF : Hid (RowD base g cap n w1 (P ++ (Y ++ (X ++ Q)))) := by
        rw [← e']
        show RowD _ _ _ _ _ _
        simpa using hr1
      have HBF := hide (HB.out.trans hb1)
      clear hr hr1 hb1 HD e'
      go_wp2
      go_end0
      exact ⟨rfl, HF.out, HBF.out⟩
    · have hne : ((i : Int) != (j : Int)) = true := by rw [bne_iff_ne]; omega
      by_cases hgt : j < i
      · have hgt' : (j : Int) < (i : Int) := by omega
        go_wp2_with fail
        rw [HMI.out]
        obtain ⟨P', U, V, Q', hr, l1, l2, l3, e'⟩ := HD.out
        obtain ⟨U1, U2, rfl, lu1, lu2⟩ := split_at (l := U) (k := j) (by omega)
        refine (swapRange_any base g cap n (m - i) m j wr P' U1 U2 V Q' (by simpa using hr) hn l1 lu1 (by omega) l3 fv).mono ?_
        rintro e w1 ⟨rfl, hr1, hb1⟩
        have HF : Hid (∃ P' U V Q', RowD base g cap n w1 (P' ++ (U ++ (V ++ Q'))) ∧ P'.length = m - (i - j) ∧ U.length = i - j ∧ V.length = j ∧ P' ++ (V ++ (U ++ Q')) = P ++ (Y ++ (X ++ Q))) :=
          ⟨P' ++ V, U2, U1, Q', by simpa using hr1, by simp; omega, by omega, lu1, by rw [← e']; simp⟩
        have HBF := hide (HB.out.trans hb1)
        clear hr hr1 hb1 HD e' l1 l2 l3 lu1 lu2
        go_wp2
        go_roundw
        case rel => exact ⟨i - j, j, by omega, hj, by omega, hjm', by congr 1; omega, rfl, HF, HBF⟩
        case measure => simp [intOf]; omega
      · have hgt' : (i : Int) ≤ (j : Int) := by omega
        have hmj : (m : Int) + (j : Int) - (i : Int) = ((m + j - i : Nat) : Int) := by omega
        have HMJ := hide hmj
        clear hmj
        go_wp2_with fail
        rw [HMI.out, HMJ.out]
        obtain ⟨P', U, V, Q', hr, l1, l2, l3, e'⟩ := HD.out
        obtain ⟨V1, V2, rfl, lv1, lv2⟩ := split_at (l := V) (k := j - i) (by omega)
        refine (swapRange_any base g cap n (m - i) (m + j - i) i wr P' U V1 V2 Q' (by simpa using hr) hn l1 l2 (by omega) (by omega) fv).mono ?_
        rintro e w1 ⟨rfl, hr1, hb1⟩
        have HF : Hid (∃ P' U V Q', RowD base g cap n w1 (P' ++ (U ++ (V ++ Q'))) ∧ P'.length = m - i ∧ U.length = i ∧ V.length = j - i ∧ P' ++ (V ++ (U ++ Q')) = P ++ (Y ++ (X ++ Q))) :=
          ⟨P', V2, V1, U ++ Q', by simpa using hr1, l1, by omega, lv1, by rw [← e']; simp⟩
        have HBF := hide (HB.out.trans hb1)
        clear hr hr1 hb1 HD e' l1 l2 l3 lv1 lv2
        go_wp2
        go_roundw
        case rel => exact ⟨i, j - i, hi, by omega, him', by omega, rfl, by congr 1; omega, HF, HBF⟩
        case measure => simp [intOf]; omega
end Go.Proofs.YteablfekfijnhaaDoor
