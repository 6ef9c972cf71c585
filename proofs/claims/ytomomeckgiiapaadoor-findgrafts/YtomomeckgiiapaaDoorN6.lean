/- The walk of slices.BinarySearchFunc by paths. -/
import Derived.Test.YtomomeckgiiapaaDoorN5
namespace Go.Proofs.YtomomeckgiiapaaDoor
open Go.RowKit

/-- Does the one's path come ahead of the other's? -/
def ltN (x y : Nd) : Bool := Op.bytesLess x.1.data.toList y.1.data.toList
def Rising (ns : List Nd) : Prop := ∀ (i j : Nat) x y, i < j → ns[i]? = some x → ns[j]? = some y → ltN x y = true
theorem cmpN_neg (x y : Nd) : cmpN x y < 0 ↔ ltN x y = true := Hog.cmp_neg _ _
theorem cmpN_zero (x y : Nd) : cmpN x y = 0 ↔ x.1 = y.1 := by
  unfold cmpN
  rw [Hog.cmp_zero, bytes_eq, Lib.toList_data, Lib.toList_data]
theorem ltN_trans {x y z : Nd} (h : ltN x y = true) (k : ltN y z = true) : ltN x z = true := Hog.less_trans h k
theorem ltN_asymm {x y : Nd} (h : ltN x y = true) : ltN y x = false := Hog.less_asymm h

def Low (ns : List Nd) (t : Nd) (i : Nat) : Prop := ∀ (m : Nat) x, m < i → ns[m]? = some x → ltN x t = true
def High (ns : List Nd) (t : Nd) (j : Nat) : Prop := ∀ (m : Nat) x, j ≤ m → ns[m]? = some x → ltN x t = false
theorem low_step {ns : List Nd} {t x : Nd} {h : Nat} (hs : Rising ns) (hx : ns[h]? = some x) (hl : ltN x t = true) : Low ns t (h + 1) := by
  intro m y hm hy
  by_cases e : m = h
  · subst e
    rw [hx] at hy
    cases hy
    exact hl
  · exact ltN_trans (hs m h y x (by omega) hy hx) hl
theorem high_step {ns : List Nd} {t x : Nd} {h : Nat} (hs : Rising ns) (hx : ns[h]? = some x) (hl : ltN x t = false) : High ns t h := by
  intro m y hm hy
  by_cases e : m = h
  · subst e
    rw [hx] at hy
    cases hy
    exact hl
  · cases k : ltN y t with
    | false => rfl
    | true => rw [ltN_trans (hs h m x y (by omega) hx hy) k] at hl; cases hl
/-- What the search tells: where, and whether it is there. -/
def Found (ns : List Nd) (t : Nd) (i : Nat) (b : Bool) : Prop := i ≤ ns.length ∧ (b = true → ∃ x, ns[i]? = some x ∧ x.1 = t.1) ∧ (b = false → ∀ x ∈ ns, x.1 ≠ t.1)
theorem found_end {ns : List Nd} {t : Nd} {i : Nat} (hl : Low ns t i) (hn : i ≤ ns.length) (hi : ns[i]? = none) : Found ns t i false := by
  refine ⟨hn, by simp, fun _ x hx e => ?_⟩
  obtain ⟨m, hm⟩ := List.mem_iff_getElem?.1 hx
  have h1 := (List.getElem?_eq_some_iff.1 hm).1
  have h2 := List.getElem?_eq_none_iff.1 hi
  have h3 := hl m x (by omega) hm
  unfold ltN at h3
  rw [e, Hog.less_irr] at h3
  cases h3
theorem found_at {ns : List Nd} {t x : Nd} {i : Nat} (hs : Rising ns) (hl : Low ns t i) (hh : High ns t i) (hi : ns[i]? = some x) : Found ns t i (decide (cmpN x t = 0)) := by
  refine ⟨Nat.le_of_lt (List.getElem?_eq_some_iff.1 hi).1, fun h => ⟨x, hi, (cmpN_zero x t).1 (of_decide_eq_true h)⟩, fun h y hy e => ?_⟩
  have hx : x.1 ≠ t.1 := fun k => of_decide_eq_false h ((cmpN_zero x t).2 k)
  obtain ⟨m, hm⟩ := List.mem_iff_getElem?.1 hy
  by_cases h1 : m < i
  · have h3 := hl m y h1 hm
    unfold ltN at h3
    rw [e, Hog.less_irr] at h3
    cases h3
  · by_cases h2 : m = i
    · subst h2
      rw [hi] at hm
      cases hm
      exact hx e
    · have h3 := hs i m x y (by omega) hi hm
      have h4 : ltN x t = true := by unfold ltN at h3 ⊢; rw [← e]; exact h3
      rw [hh i x (Nat.le_refl _) hi] at h4
      cases h4

theorem ret_ib {a b : Int} {x y : Bool} (h : a = b) (k : x = y) : Ending.returned (.tuple #[.int .i64 a, .bool x]) = .returned (.tuple #[.int .i64 b, .bool y]) := by rw [h, k]
theorem enters_bypath : ∀ args w, (callFunc 96 args).run Tryd.prog w = .ok (.enter 96 args) w := enters_of Tryd.func96 (by kernel_rfl) rfl

set_option maxRecDepth 100000 in
set_option maxHeartbeats 1000000 in
theorem search_some (b o c : Nat) (ns : List Nd) (t : Nd) (w : World) (hr : Run w b o ns) (hs : Rising ns) (hl : ns.length < 1000000) :
    Calls Tryd.prog 95 #[.slice (some ⟨b, o, none⟩) ns.length c, .agg #[.string t.1, .int .i64 t.2.1, .string t.2.2], .func (.func 96) #[] #[]] w
      fun e w' => ∃ (i : Nat) (f : Bool), e = .returned (.tuple #[.int .i64 i, .bool f]) ∧ Found ns t i f ∧ Below w.heap.size w w' := by
  obtain ⟨n, hn⟩ : ∃ n, n = ns.length := ⟨_, rfl⟩
  have HN := hide hn
  have HR := hide hr
  have HS := hide hs
  rw [← hn] at hl ⊢
  clear hn hr hs
  obtain ⟨W, hW⟩ : ∃ W, W = w.alloc (.cells #[.string t.1, .int .i64 t.2.1, .string t.2.2] 27) := ⟨_, rfl⟩
  have hb0 : Below w.heap.size w W := by rw [hW]; exact below_box _ _
  have hbox : At W w.heap.size 0 t := by rw [hW]; exact ⟨by simp, by simp, by simp⟩
  have hsz : W.heap.size = w.heap.size + 1 := by rw [hW]; simp
  have HB0 := hide hb0
  have HX := hide hbox
  have HSZ := hide hsz
  have HW := hide hW
  clear hb0 hbox hsz hW
  go_enter Tryd.func95, Tryd.ntmps95
  go_wp2
  rw [← HW.out]
  go_loopw [9, 10, 11] (fun i j h wr => ∃ x y : Nat, x ≤ y ∧ y ≤ n ∧ i = .int .i64 x ∧ j = .int .i64 y ∧ Hid (Low ns t x ∧ High ns t y) ∧ Hid (Below W.heap.size W wr)) (fun i j _ _ => (intOf j).toNat - (intOf i).toNat)
  case atStart => exact ⟨0, n, Nat.zero_le _, Nat.le_refl _, rfl, rfl, ⟨fun m x hm => by omega, fun m x hm hx => by have := (List.getElem?_eq_some_iff.1 hx).1; have := HN.out; omega⟩, Below.refl _ _⟩
  case round =>
    obtain ⟨x, y, hxy, hyn, rfl, rfl, HL, HB⟩ := hrel
    by_cases hlt : x < y
    · have hlt' : (x : Int) < (y : Int) := by omega
      obtain ⟨h, hh⟩ : ∃ h : Nat, ((x : Int) + (y : Int)) / 2 = (h : Int) := ⟨(x + y) / 2, by omega⟩
      have hxh : x ≤ h := by omega
      have hhy : h < y := by omega
      obtain ⟨m, hm⟩ : ∃ m, ns[h]? = some m := ⟨ns[h]'(by have := HN.out; omega), List.getElem?_eq_some_iff.2 ⟨_, rfl⟩⟩
      have hat := ((HR.out.below HB0.out HR.out.1).2 h m hm).below HB.out (Nat.lt_of_lt_of_le HR.out.1 HB0.out.size)
      have hbx := HX.out.below HB.out (by rw [HSZ.out]; omega)
      have hlb : b < wr.heap.size := Nat.lt_of_lt_of_le HR.out.1 (Nat.le_trans HB0.out.size HB.out.size)
      have hlx : w.heap.size < wr.heap.size := by have := HB.out.size; rw [HSZ.out] at this; omega
      have f1 : ∀ p : Later wr, p.w1.cell? ⟨b, o + h * 3, none⟩ = some (.string m.1) := fun p => p.cell hlb hat.path
      have f2 : ∀ p : Later wr, p.w1.cell? ⟨b, o + h * 3 + 1, none⟩ = some (.int .i64 m.2.1) := fun p => p.cell hlb hat.kind
      have f3 : ∀ p : Later wr, p.w1.cell? ⟨b, o + h * 3 + 2, none⟩ = some (.string m.2.2) := fun p => p.cell hlb hat.data
      have g1 : ∀ p : Later wr, p.w1.cell? ⟨w.heap.size, 0, none⟩ = some (.string t.1) := fun p => p.cell hlx hbx.path
      have g2 : ∀ p : Later wr, p.w1.cell? ⟨w.heap.size, 1, none⟩ = some (.int .i64 t.2.1) := fun p => p.cell hlx hbx.kind
      have g3 : ∀ p : Later wr, p.w1.cell? ⟨w.heap.size, 2, none⟩ = some (.string t.2.2) := fun p => p.cell hlx hbx.data
      have HM := hide hm
      have hni : (h : Int) < (n : Int) := by omega
      have HH := hide hh
      clear hat hbx hm hh
      go_wp2
      rw [HH.out]
      have hne := later_one wr
      refine wp_region_later (by kernel_rfl) (by kernel_rfl) ?_
      repeat (quiet_step ((go_at_call 96; exact Calls.later_of (bypath_any m t _))))
      refine wpQuiet_nil ?_
      intro _ hw'
      obtain ⟨⟨wq, hbq⟩, hw''⟩ := hw'
      subst hw''
      have HBQ := hide (HB.out.trans (hbq.mono HB.out.size))
      clear f1 f2 f3 g1 g2 g3 hbq
      by_cases hc : cmpN m t < 0
      · have HC := hide ((cmpN_neg m t).1 hc)
        go_wp2
        go_roundw
        case rel => exact ⟨h + 1, y, by omega, hyn, by go_num, rfl, ⟨low_step HS.out HM.out HC.out, HL.out.2⟩, HBQ.out⟩
        case measure => simp [intOf]; omega
      · have HC : Hid (ltN m t = false) := by
          show ltN m t = false
          cases k : ltN m t with
          | false => rfl
          | true => exact absurd ((cmpN_neg m t).2 k) hc
        have hc' : 0 ≤ cmpN m t := by omega
        clear hc
        go_wp2
        go_roundw
        case rel => exact ⟨x, h, hxh, by omega, rfl, rfl, ⟨HL.out.1, high_step HS.out HM.out HC.out⟩, HBQ.out⟩
        case measure => simp [intOf]; omega
    · have hyx : y = x := by omega
      subst hyx
      by_cases hend : y < n
      · obtain ⟨m, hm⟩ : ∃ m, ns[y]? = some m := ⟨ns[y]'(by have := HN.out; omega), List.getElem?_eq_some_iff.2 ⟨_, rfl⟩⟩
        have hat := ((HR.out.below HB0.out HR.out.1).2 y m hm).below HB.out (Nat.lt_of_lt_of_le HR.out.1 HB0.out.size)
        have hbx := HX.out.below HB.out (by rw [HSZ.out]; omega)
        have hlb : b < wr.heap.size := Nat.lt_of_lt_of_le HR.out.1 (Nat.le_trans HB0.out.size HB.out.size)
        have hlx : w.heap.size < wr.heap.size := by have := HB.out.size; rw [HSZ.out] at this; omega
        have f1 : ∀ p : Later wr, p.w1.cell? ⟨b, o + y * 3, none⟩ = some (.string m.1) := fun p => p.cell hlb hat.path
        have f2 : ∀ p : Later wr, p.w1.cell? ⟨b, o + y * 3 + 1, none⟩ = some (.int .i64 m.2.1) := fun p => p.cell hlb hat.kind
        have f3 : ∀ p : Later wr, p.w1.cell? ⟨b, o + y * 3 + 2, none⟩ = some (.string m.2.2) := fun p => p.cell hlb hat.data
        have g1 : ∀ p : Later wr, p.w1.cell? ⟨w.heap.size, 0, none⟩ = some (.string t.1) := fun p => p.cell hlx hbx.path
        have g2 : ∀ p : Later wr, p.w1.cell? ⟨w.heap.size, 1, none⟩ = some (.int .i64 t.2.1) := fun p => p.cell hlx hbx.kind
        have g3 : ∀ p : Later wr, p.w1.cell? ⟨w.heap.size, 2, none⟩ = some (.string t.2.2) := fun p => p.cell hlx hbx.data
        have HM := hide hm
        have hni : (y : Int) < (n : Int) := by omega
        clear hat hbx hm
        go_wp2
        have hne := later_one wr
        refine wp_region_later (by kernel_rfl) (by kernel_rfl) ?_
        repeat (quiet_step ((go_at_call 96; exact Calls.later_of (bypath_any m t _))))
        refine wpQuiet_nil ?_
        intro _ hw'
        obtain ⟨⟨wq, hbq⟩, hw''⟩ := hw'
        subst hw''
        have HBQ := hide (HB.out.trans (hbq.mono HB.out.size))
        clear f1 f2 f3 g1 g2 g3 hbq
        go_wp2
        go_ret2
        refine ⟨y, decide (cmpN m t = 0), ret_ib rfl (by rw [Bool.eq_iff_iff]; simp), found_at HS.out HL.out.1 HL.out.2 HM.out, (HB0.out.trans (HBQ.out.mono HB0.out.size))⟩
      · have hni : (n : Int) ≤ (y : Int) := by omega
        have hno : decide ((y : Int) < (n : Int)) = false := by simp; omega
        go_wp2
        have hne := later_one wr
        refine wp_region_later (by kernel_rfl) (by kernel_rfl) ?_
        repeat (first | go_big_quiet_step (fail) | quiet_step (fail))
        refine wpQuiet_nil ?_
        intro _ hw'
        obtain ⟨⟨wq, hbq⟩, hw''⟩ := hw'
        subst hw''
        have HBQ := hide (HB.out.trans (hbq.mono HB.out.size))
        clear hbq
        go_wp2
        go_ret2
        exact ⟨y, false, rfl, found_end HL.out.1 (by have := HN.out; omega) (List.getElem?_eq_none_iff.2 (by have := HN.out; omega)), (HB0.out.trans (HBQ.out.mono HB0.out.size))⟩
end Go.Proofs.YtomomeckgiiapaaDoor
