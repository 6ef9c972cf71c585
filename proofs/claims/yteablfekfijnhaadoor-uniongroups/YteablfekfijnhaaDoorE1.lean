/- great, awake: layer 4. -/
import Derived.Test.YteablfekfijnhaaDoorP5
namespace Go.Proofs.YteablfekfijnhaaDoor
open Go.RowKit

/-- Trees that are gone through. -/
def Small (ts : List (List Nd)) : Prop := ts.length ≤ 5 ∧ ∀ t ∈ ts, t.length ≤ 30 ∧ ∀ n ∈ t, n.1.size ≤ 300 ∧ n.2.2.size ≤ 500

set_option maxRecDepth 100000 in
set_option maxHeartbeats 1000000 in
theorem great_many (ao : Option Addr) (n c : Nat) (w : World) (h : 5 < n) : Calls Tryd.prog 7 #[.slice ao n c] w fun e w' => e = .returned (.bool true) ∧ w' = w := by
  have hi : (5 : Int) < (n : Int) := by omega
  have hd : decide ((n : Int) ≤ 5) = false := by simp; omega
  have h0 : (0 : Int) < (n : Int) := by omega
  go_enter Tryd.func7, Tryd.ntmps7
  go_wp2
  go_loopw [3] (fun i wr => i = .int .i64 0 ∧ wr = w) (fun _ _ => 0)
  case atStart => exact ⟨rfl, rfl⟩
  case round =>
    obtain ⟨rfl, rfl⟩ := hrel
    go_wp2
    go_ret
    exact ⟨rfl, rfl⟩

set_option maxRecDepth 100000 in
set_option maxHeartbeats 1000000 in
theorem great_few (v : Value) (ts : List (List Nd)) (w : World) (hT : Trs w v ts) (h5 : ts.length ≤ 5) (hm : ∀ t ∈ ts, t.length ≤ maxLen) :
    Calls Tryd.prog 7 #[v] w fun e w' => ∃ b, e = .returned (.bool b) ∧ (b = false → Small ts) ∧ w' = w := by
  obtain ⟨ao, c, rfl, hA⟩ := hT.open
  obtain ⟨n, hn⟩ : ∃ n, n = ts.length := ⟨_, rfl⟩
  rw [← hn] at h5 ⊢
  have HN := hide hn
  have HA := hide hA
  have HM := hide hm
  clear hT hA hm hn
  have hi5 : (n : Int) ≤ 5 := by omega
  go_enter Tryd.func7, Tryd.ntmps7
  go_wp2
  go_loopw [3] (fun i wr => ∃ k : Nat, k ≤ n ∧ i = .int .i64 k ∧ Hid (∀ t ∈ ts.take k, greatN 30 t = false) ∧ wr = w) (fun i _ => n - (intOf i).toNat)
  case atStart => exact ⟨0, Nat.zero_le _, rfl, fun x hx => by simp at hx, rfl⟩
  case round =>
    obtain ⟨k, hk, rfl, HR, rfl⟩ := hrel
    by_cases hlt : k < n
    · obtain ⟨t, ht⟩ : ∃ t, ts[k]? = some t := ⟨ts[k]'(by have := HN.out; omega), List.getElem?_eq_some_iff.2 ⟨_, rfl⟩⟩
      obtain ⟨b, o, u, rfl, hbs, hcell, hnods⟩ := HA.out k t ht
      have HND := hide hnods
      have HT := hide ht
      obtain ⟨y, hy⟩ : ∃ y, greatN 30 t = y := ⟨_, rfl⟩
      have HY := hide hy
      clear hnods ht hy
      have hki : (k : Int) < (n : Int) := by omega
      go_wp2_with fail
      refine (greatN_ok u 30 t y _ HND.out (HM.out t (List.mem_of_getElem? HT.out)) (by decide) (by decide) HY.out).mono ?_
      rintro e w1 ⟨rfl, rfl⟩
      cases y with
      | true =>
        go_wp2
        go_ret
        exact ⟨true, rfl, (fun h => nomatch h), rfl⟩
      | false =>
        go_wp2
        go_roundw
        case rel =>
          refine ⟨k + 1, by omega, by go_num, ?_, trivial⟩
          intro x hx
          obtain ⟨hk2, e2⟩ := List.getElem?_eq_some_iff.1 HT.out
          rw [List.take_succ_eq_append_getElem hk2, List.mem_append, List.mem_singleton] at hx
          rcases hx with hx | hx
          · exact HR.out x hx
          · rw [hx, e2]; exact HY.out
        case measure => simp [intOf]; omega
    · have hkn : k = n := by omega
      have hd : decide ((k : Int) < (n : Int)) = false := by simp; omega
      have hd5 : decide ((5 : Int) < (n : Int)) = false := by simp; omega
      have HS : Hid (Small ts) := by
        have h1 := HR.out
        rw [hkn, HN.out, List.take_length] at h1
        refine ⟨by have := HN.out; omega, fun t ht => ?_⟩
        obtain ⟨h2, h3⟩ := greatN_not (h1 t ht)
        exact ⟨by omega, h3⟩
      clear hkn
      go_wp2
      go_ret
      exact ⟨_, rfl, fun _ => HS.out, rfl⟩

theorem great_ok (v : Value) (ts : List (List Nd)) (w : World) (hT : Trs w v ts) (hm : ∀ t ∈ ts, t.length ≤ maxLen) :
    Calls Tryd.prog 7 #[v] w fun e w' => ∃ b, e = .returned (.bool b) ∧ (b = false → Small ts) ∧ w' = w := by
  by_cases h : 5 < ts.length
  · obtain ⟨a, c, rfl⟩ := hT.form
    refine (great_many a _ c w h).mono ?_
    rintro e w' ⟨rfl, rfl⟩
    exact ⟨true, rfl, (fun h => nomatch h), rfl⟩
  · exact great_few v ts w hT (by omega) hm

/-! awake -/
def aw4a : List Nd := [ndRoot, (⟨#[97]⟩, 2, ⟨#[49]⟩)]
def aw4b : List Nd := [ndRoot, (⟨#[97]⟩, 1, ByteArray.empty), (⟨#[97, 47, 98]⟩, 2, ByteArray.empty)]
theorem aw4_small : ∀ t ∈ [aw4a, aw4b], ∀ n ∈ t, n.1.size < 999999 := by decide +kernel
theorem aw4_root : ([aw4a, aw4b].all rootedB) = true := by decide +kernel
theorem aw4_lay : layAll [ndRoot] true [aw4a, aw4b].flatten = (aw4a, false) := by decide +kernel
theorem aw4_rise : rootedB aw4a = true := by decide +kernel
theorem aw4_first {es : List Nd} {err : Int} (h : UnionIs 1 [aw4a, aw4b] es err) : es = aw4a ∧ err = 0 := by
  unfold UnionIs at h
  rw [if_neg (by decide), if_neg (by rw [aw4_root]; decide), aw4_lay, if_neg (by decide), if_neg (by decide)] at h
  obtain ⟨ht, _⟩ := rooted_tree aw4_rise
  exact ⟨rising_same (h.1.rise (rising_nd ht.rise)) ht.rise h.1.mem, h.2⟩
theorem aw4_clash {es : List Nd} {err : Int} (h : UnionIs 0 [aw4a, aw4b] es err) : es = [] ∧ err = 9 := by
  unfold UnionIs at h
  rw [if_neg (by decide), if_neg (by rw [aw4_root]; decide), aw4_lay, if_pos (by decide)] at h
  exact h
theorem Run.three (w : World) (n m l : Nd) : Run (w.alloc (.cells #[.string n.1, .int .i64 n.2.1, .string n.2.2, .string m.1, .int .i64 m.2.1, .string m.2.2, .string l.1, .int .i64 l.2.1, .string l.2.2] 37)) w.heap.size 0 [n, m, l] := by
  refine ⟨by simp, fun j x hx => ?_⟩
  match j, hx with
  | 0, hx => simp at hx; subst hx; exact ⟨by simp, by simp, by simp⟩
  | 1, hx => simp at hx; subst hx; exact ⟨by simp, by simp, by simp⟩
  | 2, hx => simp at hx; subst hx; exact ⟨by simp, by simp, by simp⟩
  | j + 3, hx => simp at hx
theorem Trs.two {w : World} {va vb : Value} {ta tb : List Nd} (ha : Nods w va ta) (hb : Nods w vb tb) : Trs (w.alloc (.cells #[va, vb] 25)) (.slice (some ⟨w.heap.size, 0, none⟩) 2 2) [ta, tb] := by
  refine .inr ⟨w.heap.size, 0, 2, rfl, by simp, by simp, fun j t ht => ?_⟩
  match j, ht with
  | 0, ht => simp at ht; subst ht; exact ⟨va, by simp, ha.below (below_alloc _ _)⟩
  | 1, ht => simp at ht; subst ht; exact ⟨vb, by simp, hb.below (below_alloc _ _)⟩
  | j + 2, ht => simp at ht

set_option maxRecDepth 100000 in
set_option maxHeartbeats 1000000 in
theorem awake4_ok (w0 w : World) (h : Ok w0 w) :
    Calls Tryd.prog 8 #[] w fun e w' => e = .returned (.bool true) ∧ Ok w0 w' ∧ Below w.heap.size w w' := by
  obtain ⟨wa, hwa⟩ : ∃ wa, wa = w.alloc (.cells #[.string ⟨#[]⟩, .int .i64 1, .string ⟨#[]⟩, .string ⟨#[97]⟩, .int .i64 2, .string ⟨#[49]⟩] 37) := ⟨_, rfl⟩
  obtain ⟨wb, hwb⟩ : ∃ wb, wb = wa.alloc (.cells #[.string ⟨#[]⟩, .int .i64 1, .string ⟨#[]⟩, .string ⟨#[97]⟩, .int .i64 1, .string ⟨#[]⟩, .string ⟨#[97, 47, 98]⟩, .int .i64 2, .string ⟨#[]⟩] 37) := ⟨_, rfl⟩
  have hba : Below w.heap.size w wa := by rw [hwa]; exact below_alloc _ _
  have hbb : Below wa.heap.size wa wb := by rw [hwb]; exact below_alloc _ _
  have hra : Nods wa (.slice (some ⟨w.heap.size, 0, none⟩) 2 2) aw4a := by
    have h1 := (Run.two w ndRoot (⟨#[97]⟩, 2, ⟨#[49]⟩)).nods (c := 2) (by simp)
    rw [hwa]
    exact h1
  have HRA := hide (hra.below hbb)
  have HRB : Hid (Nods wb (.slice (some ⟨wa.heap.size, 0, none⟩) 3 3) aw4b) := by
    have h1 := (Run.three wa ndRoot (⟨#[97]⟩, 1, ByteArray.empty) (⟨#[97, 47, 98]⟩, 2, ByteArray.empty)).nods (c := 3) (by simp)
    show Nods _ _ _
    rw [hwb]
    exact h1
  have ea : wa.heap.size = w.heap.size + 1 := by rw [hwa]; simp
  have eb : wb.heap.size = w.heap.size + 1 + 1 := by rw [hwb]; simp [ea]
  rw [ea] at HRB
  have HT : Hid (Trs (wb.alloc (.cells #[.slice (some ⟨w.heap.size, 0, none⟩) 2 2, .slice (some ⟨w.heap.size + 1, 0, none⟩) 3 3] 25)) (.slice (some ⟨w.heap.size + 1 + 1, 0, none⟩) 2 2) [aw4a, aw4b]) := by
    show Trs _ _ _
    rw [← eb]
    exact Trs.two HRA.out HRB.out
  have okb := (h.next hba).next hbb
  have HBB := hide (below_two hba hbb)
  have HWA := hide hwa
  have HWB := hide hwb
  clear hba hbb hra hwa hwb h ea eb
  go_enter Tryd.func8, Tryd.ntmps8
  go_wp2_with fail
  rw [← HWA.out, ← HWB.out]
  refine (of_ok 1 _ [aw4a, aw4b] w0 _ (okb.alloc _) HT.out aw4_small (by decide) (by decide)).mono ?_
  rintro e w1 ⟨u, es, err, rfl, ho, hu, ok1, hb1⟩
  obtain ⟨rfl, rfl⟩ := aw4_first hu
  have hb1' := below_two (below_alloc wb (.cells #[.slice (some ⟨w.heap.size, 0, none⟩) 2 2, .slice (some ⟨w.heap.size + 1, 0, none⟩) 3 3] 25)) hb1
  have HRA1 := hide (HRA.out.below hb1')
  have HRB1 := hide (HRB.out.below hb1')
  have HB1 := hide (below_two HBB.out hb1')
  have HU1 := hide ho.nods
  have HT1 := hide (Trs.two HRA1.out HRB1.out)
  clear hb1 hb1' hu ho HRA HRB HT HWA HWB HBB
  go_wp2_with fail
  refine (of_ok 0 _ [aw4a, aw4b] w0 _ (ok1.alloc _) HT1.out aw4_small (by decide) (by decide)).mono ?_
  rintro e w2 ⟨u2, es2, err2, rfl, ho2, hu2, ok2, hb2⟩
  obtain ⟨rfl, rfl⟩ := aw4_clash hu2
  have hb2' := below_two (below_alloc w1 (.cells #[.slice (some ⟨w.heap.size, 0, none⟩) 2 2, .slice (some ⟨w.heap.size + 1, 0, none⟩) 3 3] 25)) hb2
  have HRA2 := hide (HRA1.out.below hb2')
  have HU2 := hide (HU1.out.below hb2')
  have HB2 := hide (below_two HB1.out hb2')
  clear hb2 hb2' hu2 ho2 HRA1 HRB1 HU1 HT1 HB1
  go_wp2_with fail
  refine (sameN_any u _ aw4a aw4a w2 HU2.out HRA2.out (by decide)).mono ?_
  rintro e w3 ⟨rfl, hb3⟩
  have HB3 := hide (below_two HB2.out hb3)
  have ok3 := ok2.next hb3
  clear hb3
  rw [show decide (aw4a = aw4a) = true from by simp]
  go_wp2
  go_ret
  exact ⟨rfl, ok3, HB3.out⟩
end Go.Proofs.YteablfekfijnhaaDoor
