/- The walks of find's compare, and of slices.BinarySearchFunc by it. -/
import Derived.Test.YteablfekfijnhaaDoorF1
namespace Go.Proofs.YteablfekfijnhaaDoor
open Go.RowKit

set_option maxHeartbeats 400000 in
theorem compare_any (x y : Nd) (w : World) :
    Calls Tryd.prog 28 #[.agg #[.string x.1, .int .i64 x.2.1, .string x.2.2], .agg #[.string y.1, .int .i64 y.2.1, .string y.2.2]] w fun e w' => e = .returned (.int .i64 (cmpN x y)) ∧ Below w.heap.size w w' := by
  go_enter Tryd.func28, Tryd.ntmps28
  go_wp2_with (go_at_call 37; refine (Tryd.strings_Compare _ _ _).mono ?_; rintro e w' ⟨rfl, rfl⟩)
  go_ret
  exact ⟨rfl, ((Below.refl _ _).alloc (Nat.le_refl _) _).alloc (by simp) _⟩
theorem enters_compare : ∀ args w, (callFunc 28 args).run Tryd.prog w = .ok (.enter 28 args) w := enters_of Tryd.func28 (by kernel_rfl) rfl

set_option maxRecDepth 100000 in
set_option maxHeartbeats 1000000 in
theorem fsearch_some (b o c : Nat) (ns : List Nd) (t : Nd) (w : World) (hr : Run w b o ns) (hs : Rising ns) (hl : ns.length < 1000000) :
    Calls Tryd.prog 27 #[.slice (some ⟨b, o, none⟩) ns.length c, .agg #[.string t.1, .int .i64 t.2.1, .string t.2.2], .func (.func 28) #[] #[]] w
      fun e w' => ∃ (i : Nat) (f : Bool), e = .returned (.tuple #[.int .i64 i, .bool f]) ∧ Found ns t i f ∧ Below w.heap.size w w' := by
  obtain ⟨n, hn⟩ : ∃ n, n = ns.length := ⟨_, rfl⟩
  have HN := hide hn
  have HR := hide hr
  have HS := hide hs
  rw [← hn] at hl ⊢
  clear hn hr hs
  obtain ⟨W, hW⟩ : ∃ W, W = w.alloc (.cells #[.string t.1, .int .i64 t.2.1, .string t.2.2] 53) := ⟨_, rfl⟩
  have hb0 : Below w.heap.size w W := by rw [hW]; exact below_box _ _
  have hbox : At W w.heap.size 0 t := by rw [hW]; exact ⟨by simp, by simp, by simp⟩
  have hsz : W.heap.size = w.heap.size + 1 := by rw [hW]; simp
  have HB0 := hide hb0
  have HX := hide hbox
  have HSZ := hide hsz
  have HW := hide hW
  clear hb0 hbox hsz hW
  go_enter Tryd.func27, Tryd.ntmps27
  go_wp2
  rw [← HW.out]
  go_loopw [9, 10, 11] (fun i j h wr => ∃ x y : Nat, x ≤ y ∧ y ≤ n ∧ i = .int .i64 x ∧ j = .int .i64 y ∧ Hid (Low ns t x ∧ High ns t y) ∧ Hid (Below W.heap.size W wr)) (fun i j _ _ => (intOf j).toNat - (intOf i).toNat)
  case atStart => exact ⟨0, n, Nat.zero_le _, Nat.le_refl _, rfl, rfl, ⟨fun m x hm => by omega, fun m x hm hx => by have := (List.getElem?_eq_some_iff.1 hx).1; have := HN.out; omega⟩, Below.refl _ _⟩
  case round =>
    obtain ⟨x, y, hxy, hyn, rfl, rfl, HL, HB⟩ := hrel
    by_cases hlt : x < y
    · have hlt' : (x : Int) < (y : Int) := by omega
      obtain ⟨h, hh⟩ : ∃ h : Nat, ((x : Int) + (y : Int)) / 2 = (h : Int) := ⟨(x + y) / 2, by omega⟩
      have hxh : x ≤ h := by omega
      have hhy : h < y := by omega
      obtain ⟨m, hm⟩ : ∃ m, ns[h]? = some m := ⟨ns[h]'(by have := HN.out; omega), List.getElem?_eq_some_iff.2 ⟨_, rfl⟩⟩
      have hat := ((HR.out.below HB0.out HR.out.1).2 h m hm).below HB.out (Nat.lt_of_lt_of_le HR.out.1 HB0.out.size)
      have hbx := HX.out.below HB.out (by rw [HSZ.out]; omega)
      have hlb : b < wr.heap.size := Nat.lt_of_lt_of_le HR.out.1 (Nat.le_trans HB0.out.size HB.out.size)
      have hlx : w.heap.size < wr.heap.size := by have := HB.out.size; rw [HSZ.out] at this; omega
      have f1 : ∀ p : Later wr, p.w1.cell? ⟨b, o + h * 3, none⟩ = some (.string m.1) := fun p => p.cell hlb hat.path
      have f2 : ∀ p : Later wr, p.w1.cell? ⟨b, o + h * 3 + 1, none⟩ = some (.int .i64 m.2.1) := fun p => p.cell hlb hat.kind
      have f3 : ∀ p : Later wr, p.w1.cell? ⟨b, o + h * 3 + 2, none⟩ = some (.string m.2.2) := fun p => p.cell hlb hat.data
      have g1 : ∀ p : Later wr, p.w1.cell? ⟨w.heap.size, 0, none⟩ = some (.string t.1) := fun p => p.cell hlx hbx.path
      have g2 : ∀ p : Later wr, p.w1.cell? ⟨w.heap.size, 1, none⟩ = some (.int .i64 t.2.1) := fun p => p.cell hlx hbx.kind
      have g3 : ∀ p : Later wr, p.w1.cell? ⟨w.heap.size, 2, none⟩ = some (.string t.2.2) := fun p => p.cell hlx hbx.data
      have HM := hide hm
      have hni : (h : Int) < (n : Int) := by omega
      have HH := hide hh
      clear hat hbx hm hh
      go_wp2
      rw [HH.out]
      have hne := later_one wr
      refine wp_region_later (by kernel_rfl) (by kernel_rfl) ?_
      repeat (quiet_step ((go_at_call 28; exact Calls.later_of (compare_any m t _))))
      refine wpQuiet_nil ?_
      intro _ hw'
      obtain ⟨⟨wq, hbq⟩, hw''⟩ := hw'
      subst hw''
      have HBQ := hide (HB.out.trans (hbq.mono HB.out.size))
      clear f1 f2 f3 g1 g2 g3 hbq
      by_cases hc : cmpN m t < 0
      · have HC := hide ((cmpN_neg m t).1 hc)
        go_wp2
        go_roundw
        case rel => exact ⟨h + 1, y, by omega, hyn, by go_num, rfl, ⟨low_step HS.out HM.out HC.out, HL.out.2⟩, HBQ.out⟩
        case measure => simp [intOf]; omega
      · have HC : Hid (ltN m t = false) := by
          show ltN m t = false
          cases k : ltN m t with
          | false => rfl
          | true => exact absurd ((cmpN_neg m t).2 k) hc
        have hc' : 0 ≤ cmpN m t := by omega
        clear hc
        go_wp2
        go_roundw
        case rel => exact ⟨x, h, hxh, by omega, rfl, rfl, ⟨HL.out.1, high_step HS.out HM.out HC.out⟩, HBQ.out⟩
        case measure => simp [intOf]; omega
    · have hyx : y = x := by omega
      subst hyx
      by_cases hend : y < n
      · obtain ⟨m, hm⟩ : ∃ m, ns[y]? = some m := ⟨ns[y]'(by have := HN.out; omega), List.getElem?_eq_some_iff.2 ⟨_, rfl⟩⟩
        have hat := ((HR.out.below HB0.out HR.out.1).2 y m hm).below HB.out (Nat.lt_of_lt_of_le HR.out.1 HB0.out.size)
        have hbx := HX.out.below HB.out (by rw [HSZ.out]; omega)
        have hlb : b < wr.heap.size := Nat.lt_of_lt_of_le HR.out.1 (Nat.le_trans HB0.out.size HB.out.size)
        have hlx : w.heap.size < wr.heap.size := by have := HB.out.size; rw [HSZ.out] at this; omega
        have f1 : ∀ p : Later wr, p.w1.cell? ⟨b, o + y * 3, none⟩ = some (.string m.1) := fun p => p.cell hlb hat.path
        have f2 : ∀ p : Later wr, p.w1.cell? ⟨b, o + y * 3 + 1, none⟩ = some (.int .i64 m.2.1) := fun p => p.cell hlb hat.kind
        have f3 : ∀ p : Later wr, p.w1.cell? ⟨b, o + y * 3 + 2, none⟩ = some (.string m.2.2) := fun p => p.cell hlb hat.data
        have g1 : ∀ p : Later wr, p.w1.cell? ⟨w.heap.size, 0, none⟩ = some (.string t.1) := fun p => p.cell hlx hbx.path
        have g2 : ∀ p : Later wr, p.w1.cell? ⟨w.heap.size, 1, none⟩ = some (.int .i64 t.2.1) := fun p => p.cell hlx hbx.kind
        have g3 : ∀ p : Later wr, p.w1.cell? ⟨w.heap.size, 2, none⟩ = some (.string t.2.2) := fun p => p.cell hlx hbx.data
        have HM := hide hm
        have hni : (y : Int) < (n : Int) := by omega
        clear hat hbx hm
        go_wp2
        have hne := later_one wr
        refine wp_region_later (by kernel_rfl) (by kernel_rfl) ?_
        repeat (quiet_step ((go_at_call 28; exact Calls.later_of (compare_any m t _))))
        refine wpQuiet_nil ?_
        intro _ hw'
        obtain ⟨⟨wq, hbq⟩, hw''⟩ := hw'
        subst hw''
        have HBQ := hide (HB.out.trans (hbq.mono HB.out.size))
        clear f1 f2 f3 g1 g2 g3 hbq
        go_wp2
        go_ret2
        refine ⟨y, decide (cmpN m t = 0), ret_ib rfl (by rw [Bool.eq_iff_iff]; simp), found_at HS.out HL.out.1 HL.out.2 HM.out, (HB0.out.trans (HBQ.out.mono HB0.out.size))⟩
      · have hni : (n : Int) ≤ (y : Int) := by omega
        have hno : decide ((y : Int) < (n : Int)) = false := by simp; omega
        go_wp2
        have hne := later_one wr
        refine wp_region_later (by kernel_rfl) (by kernel_rfl) ?_
        repeat (first | go_big_quiet_step (fail) | quiet_step (fail))
        refine wpQuiet_nil ?_
        intro _ hw'
        obtain ⟨⟨wq, hbq⟩, hw''⟩ := hw'
        subst hw''
        have HBQ := hide (HB.out.trans (hbq.mono HB.out.size))
        clear hbq
        go_wp2
        go_ret2
        exact ⟨y, false, rfl, found_end HL.out.1 (by have := HN.out; omega) (List.getElem?_eq_none_iff.2 (by have := HN.out; omega)), (HB0.out.trans (HBQ.out.mono HB0.out.size))⟩
end Go.Proofs.YteablfekfijnhaaDoor
