/- Appends of nodes; the walk of the statements' own awake of layer 2. -/
import Derived.Test.YtdgchinfanialaaDoorN9
import Derived.Laws.AppendOwnNone
namespace Go.Proofs.YtdgchinfanialaaDoor
open Go.RowKit

theorem Nods.take {w : World} {b o c k : Nat} {t : List Nd} (h : Run w b o t) (hk : k ≤ t.length) (hc : k ≤ c) : Nods w (.slice (some ⟨b, o, none⟩) k c) (t.take k) := by
  have hl : (t.take k).length = k := by rw [List.length_take]; omega
  refine .inr ⟨b, o, c, by rw [hl], by rw [hl]; exact hc, h.1, fun j n hn => ?_⟩
  rw [List.getElem?_take] at hn
  split at hn
  · exact h.2 j n hn
  · cases hn
theorem Run.one (w : World) (n : Nd) : Run (w.alloc (.cells #[.string n.1, .int .i64 n.2.1, .string n.2.2] 24)) w.heap.size 0 [n] := by
  refine ⟨by simp, fun j m hm => ?_⟩
  match j, hm with
  | 0, hm => simp at hm; subst hm; exact ⟨by simp, by simp, by simp⟩
  | j + 1, hm => simp at hm
theorem Run.two (w : World) (n m : Nd) : Run (w.alloc (.cells #[.string n.1, .int .i64 n.2.1, .string n.2.2, .string m.1, .int .i64 m.2.1, .string m.2.2] 24)) w.heap.size 0 [n, m] := by
  refine ⟨by simp, fun j x hx => ?_⟩
  match j, hx with
  | 0, hx => simp at hx; subst hx; exact ⟨by simp, by simp, by simp⟩
  | 1, hx => simp at hx; subst hx; exact ⟨by simp, by simp, by simp⟩
  | j + 2, hx => simp at hx
theorem Run.nods {w : World} {b o c : Nat} {t : List Nd} (h : Run w b o t) (hc : t.length ≤ c) : Nods w (.slice (some ⟨b, o, none⟩) t.length c) t := .inr ⟨b, o, c, rfl, hc, h⟩

def ndRoot : Nd := (ByteArray.empty, 1, ByteArray.empty)
def ndBC : Nd := (⟨#[98, 47, 99]⟩, 2, ByteArray.empty)
def ndAbc : Nd := (ByteArray.empty, 0, ⟨#[97, 98, 99]⟩)
theorem aw2_bad : badN [ndRoot, ndBC] = 1 := by decide +kernel
theorem aw2_one : badN [ndRoot] = -1 := by decide +kernel
theorem aw2_may : mayN [ndRoot] = true := by decide +kernel
theorem aw2_size : sizeN [ndAbc] = 3 := by decide +kernel
theorem aw2_small : ∀ n ∈ [ndRoot, ndBC], n.1.size < 999999 := by decide +kernel
theorem aw2_small1 : ∀ n ∈ [ndRoot], n.1.size < 999999 := by decide +kernel
theorem aw2_small0 : ∀ n ∈ ([] : List Nd), n.1.size < 999999 := by decide +kernel
theorem aw2_abc : ∀ n ∈ [ndAbc], n.2.2.size ≤ 1000 := by decide +kernel

set_option maxHeartbeats 800000 in
theorem awake2_any (w0 w : World) (h : Ok w0 w) :
    Calls Tryd.prog 8 #[] w fun e w' => e = .returned (.bool true) ∧ Ok w0 w' ∧ Below w.heap.size w w' := by
  have HR := hide (Run.two w ndRoot ndBC)
  go_enter Tryd.func8, Tryd.ntmps8
  go_wp2_with fail
  refine (bad_ok _ [ndRoot, ndBC] 1 w0 _ (h.alloc _) aw2_small (HR.out.nods (c := 2) (by simp)) (by simp) aw2_bad).mono ?_
  rintro e w1 ⟨rfl, ok1, hb1⟩
  have HB1 := hide (below_two (below_box w _) hb1)
  have HR1 := hide (HR.out.below hb1 HR.out.1)
  clear hb1 HR
  go_wp2_with fail
  refine (bad_ok _ [ndRoot] (-1) w0 _ ok1 aw2_small1 (Nods.take (k := 1) HR1.out (by simp) (by simp)) (by simp) aw2_one).mono ?_
  rintro e w2 ⟨rfl, ok2, hb2⟩
  have HB2 := hide (below_two HB1.out hb2)
  have HR2 := hide (HR1.out.below hb2 HR1.out.1)
  clear hb2 HR1 HB1
  go_wp2_with fail
  refine (mayT_ok _ [ndRoot] true w0 _ ok2 aw2_small1 (Nods.take (k := 1) HR2.out (by simp) (by simp)) (by simp) aw2_may).mono ?_
  rintro e w3 ⟨rfl, ok3, hb3⟩
  have HB3 := hide (below_two HB2.out hb3)
  clear hb3 HR2 HB2
  go_wp2_with fail
  refine (bad_ok _ [] 0 w0 _ ok3 aw2_small0 (Nods.nil _ _ _) (by simp) rfl).mono ?_
  rintro e w4 ⟨rfl, ok4, hb4⟩
  have HB4 := hide (below_two HB3.out hb4)
  clear hb4 HB3
  have HR4 := hide (Run.one w4 ndAbc)
  go_wp2_with fail
  refine (size_any _ [ndAbc] _ (HR4.out.nods (c := 1) (by simp)) (by simp) aw2_abc).mono ?_
  rintro e w5 ⟨rfl, hb5⟩
  have HB5 := hide (below_two (below_two HB4.out (below_box _ _)) hb5)
  have ok5 := (ok4.alloc (.cells #[.string ndAbc.1, .int .i64 ndAbc.2.1, .string ndAbc.2.2] 24)).next hb5
  clear hb5
  rw [aw2_size]
  go_wp2_with fail
  go_ret
  exact ⟨rfl, ok5, HB5.out⟩
end Go.Proofs.YtdgchinfanialaaDoor
