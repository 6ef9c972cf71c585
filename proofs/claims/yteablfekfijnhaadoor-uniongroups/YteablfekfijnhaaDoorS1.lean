/- The row that is sorted: an exchange of two nodes. -/
import Derived.Test.YteablfekfijnhaaDoorJ6
import Derived.Test.YteablfekfijnhaaDoorPlainS
import Derived.RegionTactic
import Derived.BigRegion
namespace Go.Proofs.YteablfekfijnhaaDoor
open Go.RowKit

/-- Block g holds the nodes ds, n of them. -/
structure RowD (base g cap n : Nat) (w : World) (ds : List Nd) : Prop where
  len : ds.length = n
  own : OwnN base w (.slice (some ⟨g, 0, none⟩) n cap) ds

theorem RowD.lt {base g cap n : Nat} {w : World} {ds : List Nd} (h : RowD base g cap n w ds) : base ≤ g ∧ g < w.heap.size := World.ownsRow.lt h.own g rfl
theorem RowD.at {base g cap n : Nat} {w : World} {ds : List Nd} (h : RowD base g cap n w ds) {i : Nat} {x : Nd} (hx : ds[i]? = some x) : At w g (i * 3) x := by
  have hi := (List.getElem?_eq_some_iff.1 hx).1
  obtain ⟨e1, e2, e3⟩ := flat_get hx
  have ho := h.own
  rw [← h.len] at ho
  have c := fun k (hk : i * 3 + k < ds.length * 3) => World.ownsRow.cellAt ho (i * 3 + k) hk
  exact ⟨(c 0 (by omega)).trans e1, (c 1 (by omega)).trans e2, (c 2 (by omega)).trans e3⟩
theorem RowD.free {base g cap n : Nat} {w : World} {ds : List Nd} (h : RowD base g cap n w ds) (j : Nat) : w.frozen? ⟨g, j, none⟩ = false := by
  have ho := h.own
  rw [← h.len] at ho
  exact World.ownsRow.frozenAt ho j
theorem RowD.below {base g cap n : Nat} {w w' : World} {ds : List Nd} (h : RowD base g cap n w ds) (hb : Below w.heap.size w w') : RowD base g cap n w' ds := ⟨h.len, h.own.below hb⟩
/-- The world behind a store of a node. -/
def putN (w : World) (g i : Nat) (x : Nd) : World := ((w.setCell ⟨g, i * 3, none⟩ (.string x.1)).setCell ⟨g, i * 3 + 1, none⟩ (.int .i64 x.2.1)).setCell ⟨g, i * 3 + 2, none⟩ (.string x.2.2)
theorem RowD.put {base g cap n : Nat} {w : World} {ds : List Nd} (h : RowD base g cap n w ds) {i : Nat} (hi : i < n) (x : Nd) : RowD base g cap n (putN w g i x) (ds.set i x) := by
  have ho := h.own
  rw [← h.len] at ho hi
  have h2 := ho.stored i hi x
  rw [List.length_set, h.len] at h2
  exact ⟨by rw [List.length_set]; exact h.len, h2⟩
theorem below_put {B g : Nat} {w0 w : World} (h : Below B w0 w) (hg : B ≤ g) (i : Nat) (x : Nd) : Below B w0 (putN w g i x) :=
  ((h.setCell (p := ⟨g, i * 3, none⟩) hg _).setCell (p := ⟨g, i * 3 + 1, none⟩) hg _).setCell (p := ⟨g, i * 3 + 2, none⟩) hg _
theorem RowD.drew {base g cap n : Nat} {w : World} {ds : List Nd} (h : RowD base g cap n w ds) : RowD base g cap n w.drew ds := h.below (Below.refl _ _).drew

theorem two_get (L M R : List Nd) (x y : Nd) : (L ++ x :: (M ++ y :: R))[L.length]? = some x ∧ (L ++ x :: (M ++ y :: R))[L.length + 1 + M.length]? = some y := by
  constructor
  · simp
  · rw [List.getElem?_append_right (by omega), show L.length + 1 + M.length - L.length = M.length + 1 by omega, List.getElem?_cons_succ]
    simp
theorem two_set (L M R : List Nd) (x y : Nd) : ((L ++ x :: (M ++ y :: R)).set L.length y).set (L.length + 1 + M.length) x = L ++ y :: (M ++ x :: R) := by
  rw [List.set_append_right _ _ (Nat.le_refl _), Nat.sub_self, List.set_cons_zero, List.set_append_right _ _ (by omega), show L.length + 1 + M.length - L.length = M.length + 1 by omega, List.set_cons_succ, List.set_append_right _ _ (Nat.le_refl _), Nat.sub_self, List.set_cons_zero]

set_option maxRecDepth 100000 in
set_option maxHeartbeats 4000000 in
theorem swapRange_any (base g cap n a b k : Nat) (w : World) (P X M Y Q : List Nd) (h : RowD base g cap n w (P ++ (X ++ (M ++ (Y ++ Q))))) (hn : n < 1000) (ha : P.length = a) (hX : X.length = k) (hM : a + k + M.length = b) (hY : Y.length = k) (fv : Value) :
    Calls Tryd.prog 66 #[.slice (some ⟨g, 0, none⟩) n cap, .int .i64 a, .int .i64 b, .int .i64 k, fv] w
      fun e w' => e = .returned (.tuple #[]) ∧ RowD base g cap n w' (P ++ (Y ++ (M ++ (X ++ Q)))) ∧ Below base w w' := by
  have hg := h.lt.1
  have HR := hide h
  have hlen := h.len
  simp only [List.length_append] at hlen
  have han : a ≤ n := by omega
  have hbn : b + k ≤ n := by omega
  have HA := hide ha
  have HXK := hide hX
  have HYK := hide hY
  have HM := hide hM
  clear h hlen ha hX hY hM
  go_enter Tryd.func66, Tryd.ntmps66
  go_wp2
  go_loopw [10] (fun i wr => ∃ q : Nat, q ≤ k ∧ i = .int .i64 q ∧ Hid (∃ X1 X2 Y1 Y2, X = X1 ++ X2 ∧ Y = Y1 ++ Y2 ∧ X1.length = q ∧ Y1.length = q ∧ RowD base g cap n wr (P ++ (Y1 ++ (X2 ++ (M ++ (X1 ++ (Y2 ++ Q))))))) ∧ Hid (Below base w wr)) (fun i _ => k - (intOf i).toNat)
  case atStart => exact ⟨0, Nat.zero_le _, rfl, ⟨[], X, [], Y, rfl, rfl, rfl, rfl, HR.out⟩, Below.refl _ _⟩
  case round =>
    obtain ⟨q, hq, rfl, HD, HB⟩ := hrel
    obtain ⟨X1, X2, Y1, Y2, eX, eY, lX, lY, hes⟩ := HD.out
    by_cases hlt : q < k
    · obtain ⟨x, X3, rfl⟩ : ∃ x X3, X2 = x :: X3 := by
        cases X2 with
        | nil => have := HXK.out; rw [eX] at this; simp at this; omega
        | cons x r => exact ⟨x, r, rfl⟩
      obtain ⟨y, Y3, rfl⟩ : ∃ y Y3, Y2 = y :: Y3 := by
        cases Y2 with
        | nil => have := HYK.out; rw [eY] at this; simp at this; omega
        | cons x r => exact ⟨x, r, rfl⟩
      have hL : (P ++ Y1).length = a + q := by rw [List.length_append, HA.out, lY]
      have hJ : (P ++ Y1).length + 1 + (X3 ++ (M ++ X1)).length = b + q := by
        have h1 := HXK.out; have h2 := HM.out
        rw [eX] at h1
        simp only [List.length_append, List.length_cons] at h1 hL ⊢
        omega
      have hes2 : RowD base g cap n wr ((P ++ Y1) ++ x :: ((X3 ++ (M ++ X1)) ++ y :: (Y3 ++ Q))) := by simpa using hes
      have hg2 := two_get (P ++ Y1) (X3 ++ (M ++ X1)) (Y3 ++ Q) x y
      have hs2 := two_set (P ++ Y1) (X3 ++ (M ++ X1)) (Y3 ++ Q) x y
      rw [hL] at hJ hg2 hs2
      rw [hJ] at hg2 hs2
      obtain ⟨x1, x2, x3⟩ := hes2.at hg2.1
      obtain ⟨y1, y2, y3⟩ := hes2.at hg2.2
      have f1 := hes2.free ((a + q) * 3); have f2 := hes2.free ((a + q) * 3 + 1); have f3 := hes2.free ((a + q) * 3 + 2)
      have p1 := hes2.free ((b + q) * 3); have p2 := hes2.free ((b + q) * 3 + 1); have p3 := hes2.free ((b + q) * 3 + 2)
      have hab : a + q < b + q := by have := HM.out; omega
      have HN : Hid (RowD base g cap n (putN (putN wr g (a + q) y) g (b + q) x).drew (P ++ ((Y1 ++ [y]) ++ (X3 ++ (M ++ ((X1 ++ [x]) ++ (Y3 ++ Q))))))) := by
        have h5 := ((hes2.put (i := a + q) (by omega) y).put (i := b + q) (by omega) x).drew
        rw [hs2] at h5
        show RowD _ _ _ _ _ _
        simpa using h5
      have HE : Hid (X = (X1 ++ [x]) ++ X3 ∧ Y = (Y1 ++ [y]) ++ Y3 ∧ (X1 ++ [x]).length = q + 1 ∧ (Y1 ++ [y]).length = q + 1) := ⟨by rw [eX]; simp, by rw [eY]; simp, by simp [lX], by simp [lY]⟩
      have HBN := hide (below_put (below_put HB.out hg (a + q) y) hg (b + q) x).drew
      clear hes hes2 HD eX eY lX lY hL hJ hg2 hs2
      go_wp2
      go_region
      go_wp2
      go_roundw
      case rel => exact ⟨q + 1, by omega, by go_num, ⟨X1 ++ [x], X3, Y1 ++ [y], Y3, HE.out.1, HE.out.2.1, HE.out.2.2.1, HE.out.2.2.2, HN.out⟩, HBN.out⟩
      case measure => simp [intOf]; omega
    · have hk : q = k := by omega
      have HF : Hid (RowD base g cap n wr (P ++ (Y ++ (M ++ (X ++ Q))))) := by
        have e1 : X2 = [] := List.eq_nil_of_length_eq_zero (by have := HXK.out; rw [eX] at this; simp at this; omega)
        have e2 : Y2 = [] := List.eq_nil_of_length_eq_zero (by have := HYK.out; rw [eY] at this; simp at this; omega)
        subst e1
        subst e2
        rw [eX, eY]
        show RowD _ _ _ _ _ _
        simpa using hes
      clear hes HD eX eY lX lY hk
      go_wp2
      go_end0
      exact ⟨rfl, HF.out, HB.out⟩
end Go.Proofs.YteablfekfijnhaaDoor
