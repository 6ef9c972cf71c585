/- The walks of package untar's Read and Names. -/
import Derived.Test.YtecjkkipglldlaaGreatDoorVE
import Derived.Test.YtecjkkipglldlaaGreatDoorTH
import Derived.Test.YtecjkkipglldlaaGreatDoorJ5
namespace Go.Proofs.YtecjkkipglldlaaGreatDoor
open Go.RowKit

theorem tar_or (l : List UInt8) : ∃ T E, Hog.TarIs l T E := by
  by_cases h : ∃ t, mayN t = true ∧ Hog.tarL t = l
  · obtain ⟨t, h1, h2⟩ := h
    exact ⟨t, 0, .inl ⟨rfl, h1, h2⟩⟩
  · exact ⟨[], 5, .inr ⟨rfl, rfl, fun t h1 h2 => h ⟨t, h1, h2⟩⟩⟩
theorem short_nodes {l : List UInt8} (h : l.length < 900000) : ShortT (Hog.nodesF 400 l) := by
  obtain ⟨h1, h2⟩ := Hog.nodesF_le 400 l
  exact ⟨by omega, fun n hn => by have := h2 n hn; omega⟩

set_option maxRecDepth 100000 in
set_option maxHeartbeats 1000000 in
theorem uread_ok (ao : Option Addr) (n c : Nat) (l : List UInt8) (T : List Nd) (E : Int) (q : Nat) (w0 w : World) (hp : Lib14 w0) (hok : Ok w0 w) (ha : ArgB w ao n c l) (hn : n < 900000) (hT : Hog.TarIs l T E) (hq : T.length = q) :
    Calls Tryz.prog 8 #[.slice ao n c] w fun e w' => ∃ b c', e = .returned (.tuple #[.slice b q c', .int .i64 E]) ∧ OwnN w.heap.size w' (.slice b q c') T ∧ Ok w0 w' ∧ Below w.heap.size w w' := by
  obtain ⟨X, hX⟩ : ∃ X, Hog.nodesF 400 l = X := ⟨_, rfl⟩
  obtain ⟨k, hk⟩ : ∃ k, X.length = k := ⟨_, rfl⟩
  have hsh : ShortT X := by rw [← hX]; exact short_nodes (by rw [ha.len]; exact hn)
  have hk4 : k ≤ 400 := by rw [← hk, ← hX]; exact (Hog.nodesF_le 400 l).1
  obtain ⟨y, hy⟩ : ∃ y, mayN X = y := ⟨_, rfl⟩
  obtain ⟨i1, i2, i3⟩ := Hog.TarIs.read hX hy
  have HI1 := hide i1
  have HI2 := hide i2
  have HI3 := hide i3
  have HX := hide hX
  have HK := hide hk
  have HS := hide hsh
  have HY := hide hy
  have HP := hide hp
  have HOK := hide hok
  have HA := hide ha
  have HT := hide hT
  have HQ := hide hq
  clear hX hk hsh hy i1 i2 i3 hp hok ha hT hq
  go_enter Tryz.func8, Tryz.ntmps8
  go_wp2_with fail
  refine (nodesL_ok ao n c l X k w0 w HP.out.2 HOK.out HA.out hn HX.out HK.out).mono ?_
  rintro e w1 ⟨b1, c1, rfl, ho1, ok1, hb1⟩
  have HO1 := hide ho1
  have HB1 := hide hb1
  clear ho1 hb1
  cases y with
  | false =>
    obtain ⟨rfl, rfl⟩ := HT.out.one (HI2.out rfl)
    obtain rfl : q = 0 := HQ.out.symm
    go_wp2_with fail
    refine (tlay_bad _ X w0 w1 ok1 HO1.out.nods HS.out HY.out).mono ?_
    rintro e w2 ⟨rfl, ok2, hb2⟩
    have HB2 := hide (below_two HB1.out hb2)
    clear hb2
    go_wp2
    go_ret2
    exact ⟨none, 0, rfl, OwnN.nil _ _, ok2, HB2.out⟩
  | true =>
    obtain ⟨z, hz⟩ : ∃ z, Hog.tarL X = z := ⟨_, rfl⟩
    obtain ⟨m, hm⟩ : ∃ m, z.length = m := ⟨_, rfl⟩
    obtain ⟨r, hr⟩ : ∃ r, decide (z = l) = r := ⟨_, rfl⟩
    have HZ := hide hz
    have HM := hide hm
    have HR := hide hr
    clear hz hm hr
    go_wp2_with fail
    refine (tlay_good _ X z m w0 w1 HP.out.1 ok1 HO1.out.nods HS.out HY.out HZ.out HM.out).mono ?_
    rintro e w2 ⟨b2, c2, rfl, ho2, ok2, hb2⟩
    have HO2 := hide (HO1.out.below hb2)
    have HB2 := hide (below_two HB1.out hb2)
    have HL2 := hide ho2
    clear ho2 hb2
    go_wp2_with fail
    refine (equalB_any _ _ m _ n _ z l r w2 HL2.out.argAt.2 (HA.out.below HB2.out) HR.out).mono ?_
    rintro e w3 ⟨rfl, h3⟩
    have h4 := h3.symm
    subst h4
    clear h3
    cases r with
    | false =>
      obtain ⟨rfl, rfl⟩ := HT.out.one (HI3.out (by rw [HZ.out]; exact of_decide_eq_false HR.out))
      obtain rfl : q = 0 := HQ.out.symm
      go_wp2
      go_ret2
      exact ⟨none, 0, rfl, OwnN.nil _ _, ok2, HB2.out⟩
    | true =>
      obtain ⟨e1, rfl⟩ := HT.out.one (HI1.out (by trivial) (by rw [HZ.out]; exact of_decide_eq_true HR.out))
      obtain rfl : k = q := by rw [← HK.out, ← HQ.out, e1]
      have HO3 := hide HO2.out
      rw [← e1] at HO3
      clear e1
      go_wp2
      go_ret2
      exact ⟨b1, c1, rfl, HO3.out, ok2, HB2.out⟩

/-- The paths of nodes. -/
def pathsN (T : List Nd) : List ByteArray := T.map (·.1)
theorem paths_step {T : List Nd} {k : Nat} {x : Nd} (h : T[k]? = some x) : pathsN (T.take (k + 1)) = pathsN (T.take k) ++ [x.1] := by
  obtain ⟨hk, rfl⟩ := List.getElem?_eq_some_iff.1 h
  unfold pathsN
  rw [List.take_succ_eq_append_getElem hk, List.map_append]; rfl
set_option maxRecDepth 100000 in
set_option maxHeartbeats 1000000 in
theorem unames_ok (ao : Option Addr) (n c : Nat) (l : List UInt8) (T : List Nd) (E : Int) (q : Nat) (w0 w : World) (hp : Lib14 w0) (hok : Ok w0 w) (ha : ArgB w ao n c l) (hn : n < 900000) (hT : Hog.TarIs l T E) (hq : T.length = q) :
    Calls Tryz.prog 10 #[.slice ao n c] w fun e w' => ∃ b c', e = .returned (.tuple #[.slice b q c', .int .i64 E]) ∧ Own w.heap.size w' (.slice b q c') (pathsN T) ∧ Ok w0 w' ∧ Below w.heap.size w w' := by
  have hq4 : q ≤ 400 := by
    rw [← hq]
    rcases hT with ⟨_, h1, _⟩ | ⟨_, rfl, _⟩
    · exact Hog.tree_len h1
    · simp
  have HP := hide hp
  have HOK := hide hok
  have HA := hide ha
  have HT := hide hT
  have HQ := hide hq
  clear hp hok ha hT hq
  go_enter Tryz.func10, Tryz.ntmps10
  go_wp2_with fail
  refine (uread_ok ao n c l T E q w0 w HP.out HOK.out HA.out hn HT.out HQ.out).mono ?_
  rintro e w1 ⟨b1, c1, rfl, ho1, ok1, hb1⟩
  have HR : Hid (∀ (j : Nat) x, T[j]? = some x → ∃ g o, b1 = some ⟨g, o, none⟩ ∧ g < w1.heap.size ∧ At w1 g (o + j * 3) x) := by
    refine hide fun j x hx => ?_
    rcases ho1.nods with ⟨e, _⟩ | ⟨g, o, c2, e, _, hr⟩
    · rw [e] at hx; cases hx
    · have e1 : b1 = some ⟨g, o, none⟩ := by injection e
      exact ⟨g, o, e1, hr.1, hr.2 j x hx⟩
  have HB1 := hide hb1
  have hs1 := hb1.size
  clear ho1 hb1
  go_wp2
  go_loopw [6, 16] (fun s i wr => ∃ (k : Nat) (b : Option Addr) (c : Nat), k ≤ q ∧ i = .int .i64 k ∧ s = .slice b k c ∧ Hid (Own w1.heap.size wr (.slice b k c) (pathsN (T.take k))) ∧ Below w1.heap.size w1 wr) (fun _ i _ => q - (intOf i).toNat)
  case atStart => exact ⟨0, none, 0, by omega, rfl, rfl, hide (Own.nil _ _), Below.refl _ _⟩
  case round =>
    obtain ⟨k, b, c2, hk, rfl, rfl, HO, hbl⟩ := hrel
    by_cases hlt : k < q
    · have hki : (k : Int) < (q : Int) := by omega
      obtain ⟨x, hx⟩ : ∃ x, T[k]? = some x := ⟨T[k]'(by have := HQ.out; omega), List.getElem?_eq_some_iff.2 ⟨_, rfl⟩⟩
      obtain ⟨g, o, rfl, hg, hat⟩ := HR.out k x hx
      obtain ⟨g1, g2, g3⟩ := hat.below hbl hg
      have HST := hide (paths_step hx)
      have HKL : Hid ((pathsN (T.take k)).length = k) := by unfold pathsN; rw [List.length_map, List.length_take, HQ.out]; exact hide (by omega)
      have HBL := hide hbl
      have hsr : w1.heap.size ≤ wr.heap.size := hbl.size
      have HO2 := hide ((HO.out.alloc (.cells #[.string x.1, .int .i64 x.2.1, .string x.2.2] 38)).alloc (.cells #[.string x.1] 9))
      have hon := Own.one (wr.alloc (.cells #[.string x.1, .int .i64 x.2.1, .string x.2.2] 38)) x.1
      rw [show (wr.alloc (.cells #[.string x.1, .int .i64 x.2.1, .string x.2.2] 38)).heap.size = wr.heap.size + 1 by simp] at hon
      have HON := hide hon
      have HB2 := hide (HBL.out.trans (((below_box wr (.cells #[.string x.1, .int .i64 x.2.1, .string x.2.2] 38)).trans ((below_box (wr.alloc (.cells #[.string x.1, .int .i64 x.2.1, .string x.2.2] 38)) (.cells #[.string x.1] 9)).mono (by simp))).mono hsr))
      clear hx hat hbl hon HO
      go_wp2_with (at_builtin; refine wpList_append_texts rfl _ _ rfl w1.heap.size (wr.heap.size + 1) _ _ (pathsN (T.take k)) [x.1] rfl HO2.out rfl HON.out (by rw [HKL.out]; simp; omega) (by simp; omega) ?_)
      intro b4 c4 w4 ho4 hb4
      rw [HKL.out] at ho4 ⊢
      rw [← HST.out] at ho4
      have HO4 := hide ho4
      have HB4 := hide (HB2.out.trans hb4)
      clear ho4 hb4 g1 g2 g3
      go_wp2
      go_roundw
      case rel => exact ⟨k + 1, b4, c4, by omega, by go_num, rfl, HO4, HB4.out⟩
      case measure => simp [intOf]; omega
    · obtain rfl : k = q := by omega
      have hTk : T.take k = T := by rw [← HQ.out, List.take_length]
      rw [hTk] at HO
      have HBF := hide (HB1.out.trans (hbl.mono hs1))
      have HOF := hide (HO.out.base hs1)
      clear hTk hbl hlt
      go_wp2
      go_ret2
      exact ⟨b, c2, rfl, HOF.out, HOK.out.next HBF.out, HBF.out⟩
end Go.Proofs.YtecjkkipglldlaaGreatDoor
