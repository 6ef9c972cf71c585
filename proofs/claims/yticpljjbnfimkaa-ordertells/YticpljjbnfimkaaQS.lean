/- The walk of the document's own ready, chapter 10. -/
import Derived.Test.YticpljjbnfimkaaQN
import Derived.Test.YticpljjbnfimkaaKX
namespace Go.Proofs.Yticpljjbnfimkaa
open Go.RowKit

theorem rget_one (v : Value) (ps : List Pr) (x : ByteArray) (b : Bool) (w : World) (h : Sls w v ps) (h9 : ps.length < 900000) (hb : b = true ↔ x ∈ (itsOf ps).map (·.1)) :
    Calls Try.prog 31 #[v, .string x] w fun e w' => ∃ nm a l c a' l' c', e = .returned (.tuple #[.agg #[.string nm, .slice a l c, .slice a' l' c'], .bool b]) ∧ Below w.heap.size w w' := by
  refine (rget_any v ps x w h h9).mono ?_
  rintro e w' (⟨i, h1, p, _, _, _, rfl, hbl⟩ | ⟨h1, rfl, hbl⟩)
  · have hbt : b = true := hb.2 (Hog.getK_isSome.1 (by rw [h1]; rfl))
    subst hbt
    exact ⟨_, _, _, _, _, _, _, rfl, hbl⟩
  · have hbf : b = false := Bool.eq_false_iff.2 fun e => Hog.getK_none.1 h1 (hb.1 e)
    subst hbf
    exact ⟨_, _, _, _, _, _, _, rfl, hbl⟩
/-- What may not be missing yet. -/
def Rdy1 (is : List It) (nm : ByteArray) (rs O : List ByteArray) : Prop := ∀ x ∈ rs, x ∈ is.map (·.1) → x ≠ nm → x ∈ O
theorem rdy1_next {is : List It} {nm : ByteArray} {rs O : List ByteArray} {k : Nat} {x : ByteArray} (hx : rs[k]? = some x) (h : Rdy1 is nm (rs.take k) O) (hk : x ∈ is.map (·.1) → x ≠ nm → x ∈ O) : Rdy1 is nm (rs.take (k + 1)) O := by
  obtain ⟨hl, rfl⟩ := List.getElem?_eq_some_iff.1 hx
  intro y hy
  rw [List.take_succ_eq_append_getElem hl] at hy
  rcases List.mem_append.1 hy with hy | hy
  · exact h y hy
  · rw [List.mem_singleton.1 hy]; exact hk
set_option maxRecDepth 100000 in
set_option maxHeartbeats 8000000 in
theorem ready_any (v dv : Value) (nm : ByteArray) (ra : Option Addr) (rn rc : Nat) (ta : Option Addr) (tn tc : Nat) (ps : List Pr) (rs O : List ByteArray) (w : World) (h : Sls w v ps) (h9 : ps.length < 900000)
    (hR : Txt w (.slice ra rn rc) rs) (hn : rs.length = rn) (hrn : rn < 900000) (hD : Txt w dv O) (hO : O.length < 900000) :
    Calls Try.prog 24 #[v, .agg #[.string nm, .slice ra rn rc, .slice ta tn tc], dv] w fun e w' => ∃ r, e = .returned (.bool r) ∧ (r = true ↔ Rdy1 (itsOf ps) nm rs O) ∧ Below w.heap.size w w' := by
  have HS := hide h
  have HR := hide hR
  have HN := hide hn
  have HD := hide hD
  have HB0 := hide (below_box w (.cells #[.string nm, .slice ra rn rc, .slice ta tn tc] 33))
  have hnew : (w.alloc (.cells #[.string nm, .slice ra rn rc, .slice ta tn tc] 33)).heap[w.heap.size]? = some (.cells #[.string nm, .slice ra rn rc, .slice ta tn tc] 33 (0, 0)) := heap_alloc_new w _
  have HNEW := hide hnew
  obtain ⟨wb, hwb⟩ : ∃ wb, wb = w.alloc (.cells #[.string nm, .slice ra rn rc, .slice ta tn tc] 33) := ⟨_, rfl⟩
  rw [← hwb] at HB0 HNEW
  have HWB := hide hwb.symm
  clear h hR hn hD hnew hwb
  go_enter Try.func24, Try.ntmps24
  go_wp2_with fail
  rw [HWB.out]
  go_loopw [7] (fun iv wr => ∃ k : Nat, k ≤ rn ∧ iv = .int .i64 k ∧ Hid (Rdy1 (itsOf ps) nm (rs.take k) O) ∧ Hid (Below wb.heap.size wb wr)) (fun iv _ => rn - (intOf iv).toNat)
  case atStart => exact ⟨0, Nat.zero_le _, rfl, hide (by intro x hx; simp at hx), hide (Below.refl _ _)⟩
  case round =>
    obtain ⟨k, hk, rfl, hok, hbl⟩ := hrel
    have hgw : w.heap.size < wr.heap.size := Nat.lt_of_lt_of_le (Array.getElem?_eq_some_iff.1 HNEW.out).1 hbl.out.size
    have hblk : wr.heap[w.heap.size]? = some (.cells #[.string nm, .slice ra rn rc, .slice ta tn tc] 33 (0, 0)) := (hbl.out.block _ (Array.getElem?_eq_some_iff.1 HNEW.out).1).trans HNEW.out
    have p0 : wr.cell? ⟨w.heap.size, 0, none⟩ = some (.string nm) := by rw [cell_of_row wr w.heap.size 0 _ _ (0, 0) hblk]; rfl
    have p1 : wr.cell? ⟨w.heap.size, 1, none⟩ = some (.slice ra rn rc) := by rw [cell_of_row wr w.heap.size 1 _ _ (0, 0) hblk]; rfl
    clear hblk
    by_cases hlt : k < rn
    · obtain ⟨x, hx⟩ : ∃ x, rs[k]? = some x := ⟨rs[k]'(by have := HN.out; omega), List.getElem?_eq_some_iff.2 ⟨_, rfl⟩⟩
      obtain ⟨rb, ro, rfl, hrc0, hrb⟩ : ∃ rb ro, ra = some ⟨rb, ro, none⟩ ∧ w.cell? ⟨rb, ro + k, none⟩ = some (.string x) ∧ rb < w.heap.size := by
        rcases HR.out with ⟨e, _⟩ | ⟨rb, ro, rc'', e, _, hlt', hc⟩
        · rw [e] at hx; simp at hx
        · simp only [Value.slice.injEq] at e
          exact ⟨rb, ro, e.1, hc k x hx, hlt'⟩
      have HBW := hide (below_two HB0.out hbl.out)
      have q2 := (HBW.out.cell (p := ⟨rb, ro + k, none⟩) hrb).trans hrc0
      obtain ⟨b, hb⟩ : ∃ b, b = true ↔ x ∈ (itsOf ps).map (·.1) := by
        classical
        exact ⟨decide _, decide_eq_true_iff⟩
      have HBI := hide hb
      have HX := hide hx
      have hki : (k : Int) < (rn : Int) := by omega
      clear hx hb hrc0
      go_wp2_with fail
      refine (rget_one _ ps x b wr (HS.out.below HBW.out) h9 HBI.out).mono ?_
      rintro e w5 ⟨nm5, a5, l5, c5, a6, l6, c6, rfl, hb5⟩
      have HB5 := hide (below_two hbl.out hb5)
      have HBX5 := hide (below_two hb5 (below_box w5 (.cells #[.string nm5, .slice a5 l5 c5, .slice a6 l6 c6] 33)))
      have hrb5 : rb < wr.heap.size := Nat.lt_of_lt_of_le hrb HBW.out.size
      have HP0 := hide ((HBX5.out.cell (p := ⟨w.heap.size, 0, none⟩) hgw).trans p0)
      have HP1 := hide ((HBX5.out.cell (p := ⟨w.heap.size, 1, none⟩) hgw).trans p1)
      have HP2 := hide ((HBX5.out.cell (p := ⟨rb, ro + k, none⟩) hrb5).trans q2)
      have HWS := hide HBX5.out.size
      clear hb5 p0 p1 q2
      cases b with
      | false =>
        go_wp2_with fail
        obtain ⟨W5, hW5⟩ : ∃ W5, w5.alloc (.cells #[.string nm5, .slice a5 l5 c5, .slice a6 l6 c6] 33) = W5 := ⟨_, rfl⟩
        rw [hW5]
        rw [hW5] at HBX5 HP0 HP1 HP2 HWS
        have HBW5 := hide (below_two hbl.out HBX5.out)
        have hgW : w.heap.size < W5.heap.size := Nat.lt_of_lt_of_le hgw HWS.out
        have hrW : rb < W5.heap.size := Nat.lt_of_lt_of_le hrb5 HWS.out
        have f0 : ∀ q : Later W5, q.w1.cell? ⟨w.heap.size, 0, none⟩ = some (.string nm) := fun q => q.cell hgW HP0.out
        have f1 : ∀ q : Later W5, q.w1.cell? ⟨w.heap.size, 1, none⟩ = some (.slice (some ⟨rb, ro, none⟩) rn rc) := fun q => q.cell hgW HP1.out
        have f2 : ∀ q : Later W5, q.w1.cell? ⟨rb, ro + k, none⟩ = some (.string x) := fun q => q.cell hrW HP2.out
        have hne := later_one W5
        obtain ⟨h, hh⟩ : ∃ h, hasB O x = h := ⟨_, rfl⟩
        have HH := hide hh
        have HC : Hid (∀ q : Later W5, Calls Try.prog 23 #[dv, .string x] q.w1 fun e w' => e = .returned (.bool h) ∧ Below q.w1.heap.size q.w1 w') := hide fun q =>
          (xhas_ok dv O x h q.w1 (HD.out.below (below_two HB0.out (below_two HBW5.out q.below))) hO hh).mono fun e w' hq => ⟨hq.1, by rw [hq.2]; exact Below.refl _ _⟩
        clear hh hW5
        refine wp_region_later (by kernel_rfl) (by kernel_rfl) ?_
        repeat (first
          | go_big_quiet_step (fail)
          | quiet_step (fail))
        refine wpQuiet_nil ?_
        intro W6 hw'
        have hbq := later_below hw'
        clear hw' f0 f1 f2 HC
        go_wp2
        go_roundw
        case rel => exact ⟨k + 1, by omega, by go_num, hide (rdy1_next HX.out hok.out (fun hm => by have := HBI.out.2 hm; cases this)), hide (below_two HBW5.out hbq)⟩
        case measure => simp [intOf]; omega
      | true =>
        by_cases hxn : x = nm
        · have hq : (x.toList == nm.toList) = true := by rw [hxn]; exact beq_self_eq_true _
          have HXN := hide hxn
          clear hxn
          go_wp2_with fail
          obtain ⟨W5, hW5⟩ : ∃ W5, w5.alloc (.cells #[.string nm5, .slice a5 l5 c5, .slice a6 l6 c6] 33) = W5 := ⟨_, rfl⟩
          rw [hW5]
          rw [hW5] at HBX5 HP0 HP1 HP2 HWS
          have HBW5 := hide (below_two hbl.out HBX5.out)
          have hgW : w.heap.size < W5.heap.size := Nat.lt_of_lt_of_le hgw HWS.out
          have hrW : rb < W5.heap.size := Nat.lt_of_lt_of_le hrb5 HWS.out
          have f0 : ∀ q : Later W5, q.w1.cell? ⟨w.heap.size, 0, none⟩ = some (.string nm) := fun q => q.cell hgW HP0.out
          have f1 : ∀ q : Later W5, q.w1.cell? ⟨w.heap.size, 1, none⟩ = some (.slice (some ⟨rb, ro, none⟩) rn rc) := fun q => q.cell hgW HP1.out
          have f2 : ∀ q : Later W5, q.w1.cell? ⟨rb, ro + k, none⟩ = some (.string x) := fun q => q.cell hrW HP2.out
          have hne := later_one W5
          obtain ⟨h, hh⟩ : ∃ h, hasB O x = h := ⟨_, rfl⟩
          have HH := hide hh
          have HC : Hid (∀ q : Later W5, Calls Try.prog 23 #[dv, .string x] q.w1 fun e w' => e = .returned (.bool h) ∧ Below q.w1.heap.size q.w1 w') := hide fun q =>
            (xhas_ok dv O x h q.w1 (HD.out.below (below_two HB0.out (below_two HBW5.out q.below))) hO hh).mono fun e w' hq => ⟨hq.1, by rw [hq.2]; exact Below.refl _ _⟩
          clear hh hW5
          refine wp_region_later (by kernel_rfl) (by kernel_rfl) ?_
          repeat (first
            | go_big_quiet_step (fail)
            | quiet_step (fail))
          refine wpQuiet_nil ?_
          intro W6 hw'
          have hbq := later_below hw'
          clear hw' f0 f1 f2 HC
          go_wp2
          go_roundw
          case rel => exact ⟨k + 1, by omega, by go_num, hide (rdy1_next HX.out hok.out (fun _ h => absurd HXN.out h)), hide (below_two HBW5.out hbq)⟩
          case measure => simp [intOf]; omega
        · have hq : (x.toList == nm.toList) = false := by
            rw [beq_eq_false_iff_ne]; exact fun e => hxn (bytes_eq.2 e)
          have HXN := hide hxn
          clear hxn
          go_wp2_with fail
          obtain ⟨W5, hW5⟩ : ∃ W5, w5.alloc (.cells #[.string nm5, .slice a5 l5 c5, .slice a6 l6 c6] 33) = W5 := ⟨_, rfl⟩
          rw [hW5]
          rw [hW5] at HBX5 HP0 HP1 HP2 HWS
          have HBW5 := hide (below_two hbl.out HBX5.out)
          have hgW : w.heap.size < W5.heap.size := Nat.lt_of_lt_of_le hgw HWS.out
          have hrW : rb < W5.heap.size := Nat.lt_of_lt_of_le hrb5 HWS.out
          have f0 : ∀ q : Later W5, q.w1.cell? ⟨w.heap.size, 0, none⟩ = some (.string nm) := fun q => q.cell hgW HP0.out
          have f1 : ∀ q : Later W5, q.w1.cell? ⟨w.heap.size, 1, none⟩ = some (.slice (some ⟨rb, ro, none⟩) rn rc) := fun q => q.cell hgW HP1.out
          have f2 : ∀ q : Later W5, q.w1.cell? ⟨rb, ro + k, none⟩ = some (.string x) := fun q => q.cell hrW HP2.out
          have hne := later_one W5
          obtain ⟨h, hh⟩ : ∃ h, hasB O x = h := ⟨_, rfl⟩
          have HH := hide hh
          have HC : Hid (∀ q : Later W5, Calls Try.prog 23 #[dv, .string x] q.w1 fun e w' => e = .returned (.bool h) ∧ Below q.w1.heap.size q.w1 w') := hide fun q =>
            (xhas_ok dv O x h q.w1 (HD.out.below (below_two HB0.out (below_two HBW5.out q.below))) hO hh).mono fun e w' hq => ⟨hq.1, by rw [hq.2]; exact Below.refl _ _⟩
          clear hh hW5
          cases h with
          | true =>
            refine wp_region_later (by kernel_rfl) (by kernel_rfl) ?_
            repeat (first
              | go_big_quiet_step ((go_at_call 23; exact Calls.later_of (HC.out _)))
              | quiet_step ((go_at_call 23; exact Calls.later_of (HC.out _))))
            refine wpQuiet_nil ?_
            intro W6 hw'
            have hbq := later_below hw'
            clear hw' f0 f1 f2 HC
            go_wp2
            go_roundw
            case rel => exact ⟨k + 1, by omega, by go_num, hide (rdy1_next HX.out hok.out (fun _ _ => has_iff.1 HH.out)), hide (below_two HBW5.out hbq)⟩
            case measure => simp [intOf]; omega
          | false =>
            refine wp_region_later (by kernel_rfl) (by kernel_rfl) ?_
            repeat (first
              | go_big_quiet_step ((go_at_call 23; exact Calls.later_of (HC.out _)))
              | quiet_step ((go_at_call 23; exact Calls.later_of (HC.out _))))
            refine wpQuiet_nil ?_
            intro W6 hw'
            have hbq := later_below hw'
            clear hw' f0 f1 f2 HC
            go_wp2
            go_ret
            refine ⟨_, rfl, ⟨fun e => (by cases e), fun hrd => ?_⟩, below_two HB0.out (below_two HBW5.out hbq)⟩
            have h1 := has_iff.2 (hrd x (List.mem_of_getElem? HX.out) (HBI.out.1 trivial) HXN.out)
            rw [HH.out] at h1
            exact h1
    · have hki : (rn : Int) ≤ (k : Int) := by omega
      have HE : Hid (Rdy1 (itsOf ps) nm rs O) := by
        have h1 := hok.out
        rw [List.take_of_length_le (by have := HN.out; omega)] at h1
        exact hide h1
      go_wp2_with fail
      go_ret
      exact ⟨_, rfl, ⟨fun _ => HE.out, fun _ => rfl⟩, below_two HB0.out hbl.out⟩
theorem ready_ok (v dv : Value) (nm : ByteArray) (ra : Option Addr) (rn rc : Nat) (ta : Option Addr) (tn tc : Nat) (ps : List Pr) (rs O : List ByteArray) (r : Bool) (w : World) (h : Sls w v ps) (h9 : ps.length < 900000)
    (hR : Txt w (.slice ra rn rc) rs) (hn : rs.length = rn) (hrn : rn < 900000) (hD : Txt w dv O) (hO : O.length < 900000) (hr : r = true ↔ Rdy1 (itsOf ps) nm rs O) :
    Calls Try.prog 24 #[v, .agg #[.string nm, .slice ra rn rc, .slice ta tn tc], dv] w fun e w' => e = .returned (.bool r) ∧ Below w.heap.size w w' := by
  refine (ready_any v dv nm ra rn rc ta tn tc ps rs O w h h9 hR hn hrn hD hO).mono ?_
  rintro e w' ⟨r', rfl, h1, hb⟩
  have : r' = r := by rw [Bool.eq_iff_iff, h1, hr]
  rw [this]
  exact ⟨rfl, hb⟩
end Go.Proofs.Yticpljjbnfimkaa
