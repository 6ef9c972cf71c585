/- The walk of layer 10's awake. -/
import Derived.Test.YticpljjbnfimkaaQK
import Derived.Test.YticpljjbnfimkaaJ15
import Derived.Test.YticpljjbnfimkaaJ2
namespace Go.Proofs.Yticpljjbnfimkaa
open Go.RowKit

theorem Txt.one (w : World) (x : ByteArray) : Txt (w.alloc (.cells #[.string x] 9)) (.slice (some ⟨w.heap.size, 0, none⟩) 1 1) [x] := (Own.one w x).txt
theorem Txt.nil (w : World) : Txt w (.slice none 0 0) [] := .inl ⟨rfl, none, 0, rfl⟩
def kA : ByteArray := ⟨#[97]⟩
def kB : ByteArray := ⟨#[98]⟩
def kC : ByteArray := ⟨#[99]⟩
def threeI : List It := [(kA, [kB], []), (kB, [], []), (kC, [kA], [])]
def ringI : List It := [(kA, [kB], []), (kB, [kA], [])]
theorem k_ab : kA ≠ kB := fun e => by have := congrArg (fun x : ByteArray => x.data.toList) e; simp [kA, kB] at this
theorem k_ac : kA ≠ kC := fun e => by have := congrArg (fun x : ByteArray => x.data.toList) e; simp [kA, kC] at this
theorem k_bc : kB ≠ kC := fun e => by have := congrArg (fun x : ByteArray => x.data.toList) e; simp [kB, kC] at this
theorem three_names : (threeI.map (·.1)).Nodup := by
  have h1 := k_ab; have h2 := k_ac; have h3 := k_bc
  simp [threeI]
  exact ⟨⟨h1, h2⟩, h3⟩
theorem three_ord : OrdO threeI (some [kB, kA, kC]) := by
  refine .inl ⟨three_names, ?_⟩
  have hp : List.Perm [(kC, [kA], []), (kA, [kB], []), (kB, [], [])] threeI := by
    unfold threeI
    refine List.Perm.trans (List.Perm.swap _ _ _) ?_
    exact List.Perm.cons _ (List.Perm.swap _ _ _)
  refine Hog.ord_perm hp ?_
  have h := Hog.ord_chain ltB_irr (is := ([(kC, [kA], []), (kA, [kB], []), (kB, [], [])] : List It)) (.more rfl (.more rfl (.one rfl))) (by
    have h1 := k_ab; have h2 := k_ac; have h3 := k_bc
    simp
    exact ⟨⟨h2.symm, h3.symm⟩, h1⟩)
  simpa using h
theorem ring_ord : OrdO ringI none := by
  refine .inl ⟨by have h1 := k_ab; simp [ringI]; exact h1, ?_⟩
  refine Hog.ord_ring (by simp [ringI]) fun i hi => ?_
  have h1 := k_ab
  simp [ringI] at hi
  rcases hi with rfl | rfl
  · exact ⟨kB, by simp, by simp [ringI], fun e => h1 e.symm⟩
  · exact ⟨kA, by simp, by simp [ringI], h1⟩
theorem three_ranks {R : List Nat} (h : RanksOf threeI [kB, kA, kC] R) : numK R = [1, 0, 2] := by
  obtain ⟨hl, h⟩ := h
  obtain ⟨x, h0, e0⟩ := h 0 (kA, [kB], []) rfl
  obtain ⟨y, h1, e1⟩ := h 1 (kB, [], []) rfl
  obtain ⟨z, h2, e2⟩ := h 2 (kC, [kA], []) rfl
  have n : [kB, kA, kC].Nodup := by
    have h1 := k_ab; have h2 := k_ac; have h3 := k_bc
    simp
    exact ⟨⟨h1.symm, h3⟩, h2⟩
  have key : ∀ (k q : Nat) x, [kB, kA, kC][k]? = some x → [kB, kA, kC][q]? = some x → k = q := fun k q x a b => (List.getElem?_inj (List.getElem?_eq_some_iff.1 a).1 n).1 (a.trans b.symm)
  have ex : x = 1 := key x 1 kA e0 rfl
  have ey : y = 0 := key y 0 kB e1 rfl
  have ez : z = 2 := key z 2 kC e2 rfl
  subst ex ey ez
  match R, hl, h0, h1, h2 with
  | [a, b, c], _, h0, h1, h2 =>
    simp at h0 h1 h2
    subst h0 h1 h2
    rfl

/-- The world in which the three stand. -/
def threeW (w : World) : World := ((w.alloc (.cells #[.string kB] 9)).alloc (.cells #[.string kA] 9)).alloc (.cells #[.string kA, .slice (some ⟨w.heap.size, 0, none⟩) 1 1, .slice none 0 0, .string kB, .slice none 0 0, .slice none 0 0, .string kC, .slice (some ⟨w.heap.size + 1, 0, none⟩) 1 1, .slice none 0 0] 33)
theorem three_its (w : World) : Its (threeW w) (.slice (some ⟨w.heap.size + 2, 0, none⟩) 3 3) threeI := by
  have b1 : Below (w.alloc (.cells #[.string kB] 9)).heap.size (w.alloc (.cells #[.string kB] 9)) (threeW w) := below_two (below_box _ _) (below_box _ _)
  have t1 := (Txt.one w kB).below b1
  have t2 := (Txt.one (w.alloc (.cells #[.string kB] 9)) kA).below (w' := threeW w) (below_box _ _)
  rw [show (w.alloc (.cells #[.string kB] 9)).heap.size = w.heap.size + 1 by simp] at t2
  have hnew : (threeW w).heap[w.heap.size + 2]? = some (.cells #[.string kA, .slice (some ⟨w.heap.size, 0, none⟩) 1 1, .slice none 0 0, .string kB, .slice none 0 0, .slice none 0 0, .string kC, .slice (some ⟨w.heap.size + 1, 0, none⟩) 1 1, .slice none 0 0] 33 (0, 0)) := by
    have h := heap_alloc_new ((w.alloc (.cells #[.string kB] 9)).alloc (.cells #[.string kA] 9)) (.cells #[.string kA, .slice (some ⟨w.heap.size, 0, none⟩) 1 1, .slice none 0 0, .string kB, .slice none 0 0, .slice none 0 0, .string kC, .slice (some ⟨w.heap.size + 1, 0, none⟩) 1 1, .slice none 0 0] 33)
    rw [show ((w.alloc (.cells #[.string kB] 9)).alloc (.cells #[.string kA] 9)).heap.size = w.heap.size + 2 by simp] at h
    exact h
  refine .inr ⟨w.heap.size + 2, 0, 3, rfl, by decide, (Array.getElem?_eq_some_iff.1 hnew).1, fun j x hx => ?_⟩
  match j, hx with
  | 0, hx =>
    simp [threeI] at hx
    subst hx
    exact ⟨_, _, _, _, _, _, by rw [cell_of_row _ (w.heap.size + 2) 0 _ _ (0, 0) hnew]; rfl, by rw [cell_of_row _ (w.heap.size + 2) 1 _ _ (0, 0) hnew]; rfl, by rw [cell_of_row _ (w.heap.size + 2) 2 _ _ (0, 0) hnew]; rfl, t1, Nods.nil _ _ _⟩
  | 1, hx =>
    simp [threeI] at hx
    subst hx
    exact ⟨_, _, _, _, _, _, by rw [cell_of_row _ (w.heap.size + 2) 3 _ _ (0, 0) hnew]; rfl, by rw [cell_of_row _ (w.heap.size + 2) 4 _ _ (0, 0) hnew]; rfl, by rw [cell_of_row _ (w.heap.size + 2) 5 _ _ (0, 0) hnew]; rfl, Txt.nil _, Nods.nil _ _ _⟩
  | 2, hx =>
    simp [threeI] at hx
    subst hx
    exact ⟨_, _, _, _, _, _, by rw [cell_of_row _ (w.heap.size + 2) 6 _ _ (0, 0) hnew]; rfl, by rw [cell_of_row _ (w.heap.size + 2) 7 _ _ (0, 0) hnew]; rfl, by rw [cell_of_row _ (w.heap.size + 2) 8 _ _ (0, 0) hnew]; rfl, t2, Nods.nil _ _ _⟩
  | j + 3, hx => simp [threeI] at hx
def ringW (w : World) : World := ((w.alloc (.cells #[.string kB] 9)).alloc (.cells #[.string kA] 9)).alloc (.cells #[.string kA, .slice (some ⟨w.heap.size, 0, none⟩) 1 1, .slice none 0 0, .string kB, .slice (some ⟨w.heap.size + 1, 0, none⟩) 1 1, .slice none 0 0] 33)
theorem ring_its (w : World) : Its (ringW w) (.slice (some ⟨w.heap.size + 2, 0, none⟩) 2 2) ringI := by
  have b1 : Below (w.alloc (.cells #[.string kB] 9)).heap.size (w.alloc (.cells #[.string kB] 9)) (ringW w) := below_two (below_box _ _) (below_box _ _)
  have t1 := (Txt.one w kB).below b1
  have t2 := (Txt.one (w.alloc (.cells #[.string kB] 9)) kA).below (w' := ringW w) (below_box _ _)
  rw [show (w.alloc (.cells #[.string kB] 9)).heap.size = w.heap.size + 1 by simp] at t2
  have hnew : (ringW w).heap[w.heap.size + 2]? = some (.cells #[.string kA, .slice (some ⟨w.heap.size, 0, none⟩) 1 1, .slice none 0 0, .string kB, .slice (some ⟨w.heap.size + 1, 0, none⟩) 1 1, .slice none 0 0] 33 (0, 0)) := by
    have h := heap_alloc_new ((w.alloc (.cells #[.string kB] 9)).alloc (.cells #[.string kA] 9)) (.cells #[.string kA, .slice (some ⟨w.heap.size, 0, none⟩) 1 1, .slice none 0 0, .string kB, .slice (some ⟨w.heap.size + 1, 0, none⟩) 1 1, .slice none 0 0] 33)
    rw [show ((w.alloc (.cells #[.string kB] 9)).alloc (.cells #[.string kA] 9)).heap.size = w.heap.size + 2 by simp] at h
    exact h
  refine .inr ⟨w.heap.size + 2, 0, 2, rfl, by decide, (Array.getElem?_eq_some_iff.1 hnew).1, fun j x hx => ?_⟩
  match j, hx with
  | 0, hx =>
    simp [ringI] at hx
    subst hx
    exact ⟨_, _, _, _, _, _, by rw [cell_of_row _ (w.heap.size + 2) 0 _ _ (0, 0) hnew]; rfl, by rw [cell_of_row _ (w.heap.size + 2) 1 _ _ (0, 0) hnew]; rfl, by rw [cell_of_row _ (w.heap.size + 2) 2 _ _ (0, 0) hnew]; rfl, t1, Nods.nil _ _ _⟩
  | 1, hx =>
    simp [ringI] at hx
    subst hx
    exact ⟨_, _, _, _, _, _, by rw [cell_of_row _ (w.heap.size + 2) 3 _ _ (0, 0) hnew]; rfl, by rw [cell_of_row _ (w.heap.size + 2) 4 _ _ (0, 0) hnew]; rfl, by rw [cell_of_row _ (w.heap.size + 2) 5 _ _ (0, 0) hnew]; rfl, t2, Nods.nil _ _ _⟩
  | j + 2, hx => simp [ringI] at hx
theorem three_below (w : World) : Below w.heap.size w (threeW w) := below_two (below_box _ _) (below_two (below_box _ _) (below_box _ _))
theorem ring_below (w : World) : Below w.heap.size w (ringW w) := below_two (below_box _ _) (below_two (below_box _ _) (below_box _ _))
theorem three_few : ∀ i ∈ threeI, i.2.1.length ≤ 900 := by intro i hi; simp [threeI] at hi; rcases hi with rfl | rfl | rfl <;> simp
theorem ring_few : ∀ i ∈ ringI, i.2.1.length ≤ 900 := by intro i hi; simp [ringI] at hi; rcases hi with rfl | rfl <;> simp
set_option maxRecDepth 100000 in
set_option maxHeartbeats 4000000 in
theorem awake10_ok (w : World) :
    Calls Try.prog 8 #[] w fun e w' => e = .returned (.bool true) ∧ Below w.heap.size w w' := by
  go_enter Try.func8, Try.ntmps8
  go_wp2_with fail
  refine (of_some _ threeI [kB, kA, kC] 3 (threeW w) three_ord rfl (three_its w) (by decide) three_few).mono ?_
  rintro e w2 ⟨a2, c2, rfl, ho2, _, hb2⟩
  have HB2 := hide (below_two (three_below w) hb2)
  have HI2 := hide ((three_its w).below hb2)
  have HO2 := hide ho2.txt
  clear ho2 hb2
  go_wp2_with fail
  refine (of_none _ ringI (ringW w2) ring_ord (ring_its w2) (by decide) ring_few).mono ?_
  rintro e w3 ⟨rfl, hb3⟩
  have HBX := hide (below_two (ring_below w2) hb3)
  have HB3 := hide (below_two HB2.out HBX.out)
  have HI3 := hide (HI2.out.below HBX.out)
  have HO3 := hide (HO2.out.below HBX.out)
  clear hb3 HB2 HI2 HO2
  go_wp2_with fail
  refine (same_any _ _ [kB, kA, kC] [kB, kA, kC] (w3.alloc (.cells #[.string kB, .string kA, .string kC] 9)) (HO3.out.below (below_box _ _)) (Own.made w3 [kB, kA, kC] (by decide)).txt (by decide)).mono ?_
  rintro e w4 ⟨rfl, hb4⟩
  have HBY := hide (below_two (below_box w3 (.cells #[.string kB, .string kA, .string kC] 9)) hb4)
  have HB4 := hide (below_two HB3.out HBY.out)
  have HI4 := hide (HI3.out.below HBY.out)
  have hd : decide ([kB, kA, kC] = [kB, kA, kC]) = true := decide_eq_true rfl
  rw [hd]
  clear hb4 HBY HB3 HI3 HO3 hd HBX
  go_wp2_with fail
  refine (ranks_some _ threeI [kB, kA, kC] 3 w4 three_ord rfl HI4.out (by decide) three_few).mono ?_
  rintro e w5 ⟨a5, c5, R, rfl, ho5, hr5, hb5⟩
  rw [three_ranks hr5] at ho5
  have HO5 := hide ho5.txt
  have HB5 := hide (below_two HB4.out hb5)
  clear ho5 hr5 hb5 HB4 HI4
  go_wp2_with fail
  refine (sameZ_any _ _ [1, 0, 2] [1, 0, 2] (w5.alloc (.cells #[.int .i64 1, .int .i64 0, .int .i64 2] 3)) (HO5.out.below (below_box _ _)) (OwnZ.made w5 [1, 0, 2] (by decide)).txt (by decide)).mono ?_
  rintro e w6 ⟨rfl, hb6⟩
  have HB6 := hide (below_two HB5.out (below_two (below_box w5 (.cells #[.int .i64 1, .int .i64 0, .int .i64 2] 3)) hb6))
  have hd : decide (([1, 0, 2] : List Int) = [1, 0, 2]) = true := decide_eq_true rfl
  rw [hd]
  clear hb6 HB5 HO5 hd
  go_wp2_with fail
  go_ret
  exact ⟨rfl, HB6.out⟩
end Go.Proofs.Yticpljjbnfimkaa
