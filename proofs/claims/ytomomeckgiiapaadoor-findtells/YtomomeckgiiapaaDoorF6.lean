/- The walk of the statements' own awake of layer 3. -/
import Derived.Test.YtomomeckgiiapaaDoorF5
namespace Go.Proofs.YtomomeckgiiapaaDoor
open Go.RowKit

def aw3t : List Nd := [(ByteArray.empty, 1, ByteArray.empty), (⟨#[97]⟩, 1, ByteArray.empty), (⟨#[97, 47, 98]⟩, 2, ⟨#[120]⟩), (⟨#[99]⟩, 2, ByteArray.empty)]
theorem Run.aw3 (w : World) : Run (w.alloc (.cells #[.string ByteArray.empty, .int .i64 1, .string ByteArray.empty, .string ⟨#[97]⟩, .int .i64 1, .string ByteArray.empty, .string ⟨#[97, 47, 98]⟩, .int .i64 2, .string ⟨#[120]⟩, .string ⟨#[99]⟩, .int .i64 2, .string ByteArray.empty] 27)) w.heap.size 0 aw3t := by
  refine ⟨by simp, fun j x hx => ?_⟩
  match j, hx with
  | 0, hx => simp [aw3t] at hx; subst hx; exact ⟨by simp, by simp, by simp⟩
  | 1, hx => simp [aw3t] at hx; subst hx; exact ⟨by simp, by simp, by simp⟩
  | 2, hx => simp [aw3t] at hx; subst hx; exact ⟨by simp, by simp, by simp⟩
  | 3, hx => simp [aw3t] at hx; subst hx; exact ⟨by simp, by simp, by simp⟩
  | j + 4, hx => simp [aw3t] at hx
theorem aw3_small : ∀ n ∈ aw3t, n.1.size < 999999 := by decide +kernel
theorem aw3_b : listB aw3t ByteArray.empty = true := by decide +kernel
theorem aw3_l : listL aw3t ByteArray.empty = [[97], [99]] := by decide +kernel
theorem aw3_k : lookP aw3t ⟨#[97, 47, 98]⟩ = ((⟨#[97, 47, 98]⟩, 2, ⟨#[120]⟩), true) := by decide +kernel
theorem aw3_f : (lookP aw3t ⟨#[97]⟩).2 = true := by decide +kernel
def aw3s : List Nd := [(ByteArray.empty, 1, ByteArray.empty), (⟨#[98]⟩, 2, ⟨#[120]⟩)]
theorem aw3_s : subL aw3t ⟨#[97]⟩ = aw3s := by decide +kernel

set_option maxRecDepth 100000 in
set_option maxHeartbeats 800000 in
theorem awake3_ok (w0 w : World) (h : Ok w0 w) :
    Calls Tryd.prog 8 #[] w fun e w' => e = .returned (.bool true) ∧ Ok w0 w' ∧ Below w.heap.size w w' := by
  have HR := hide (Run.aw3 w)
  go_enter Tryd.func8, Tryd.ntmps8
  go_wp2_with fail
  refine (list_ok w.heap.size 0 4 aw3t ByteArray.empty [[97], [99]] true w0 _ (h.alloc _) aw3_small HR.out (by decide) (by decide) aw3_b aw3_l).mono ?_
  rintro e w1 ⟨a1, c1, rfl, ho1, ok1, hb1⟩
  have HB1 := hide (below_two (below_box w _) hb1)
  have HR1 := hide (HR.out.below hb1 HR.out.1)
  have HO1 := hide ho1
  clear hb1 HR ho1
  go_wp2_with fail
  refine (lookup_ok _ aw3t ⟨#[97, 47, 98]⟩ _ true w0 _ ok1 aw3_small (HR1.out.nods (c := 4) (by decide)) (by decide) aw3_k).mono ?_
  rintro e w2 ⟨rfl, ok2, hb2⟩
  have HB2 := hide (below_two (below_two HB1.out hb2) (below_box w2 (.cells #[.string ⟨#[97, 47, 98]⟩, .int .i64 2, .string ⟨#[120]⟩] 27)))
  have hb2' := below_two hb2 (below_box w2 (.cells #[.string ⟨#[97, 47, 98]⟩, .int .i64 2, .string ⟨#[120]⟩] 27))
  have HR2 := hide (HR1.out.below hb2' HR1.out.1)
  have HO2 := hide (HO1.out.below hb2')
  have HX := hide (Blk.made w2 (⟨#[97, 47, 98]⟩, 2, ⟨#[120]⟩))
  clear hb2 hb2' HR1 HO1 HB1
  go_wp2_with fail
  refine (sub_ok w.heap.size 0 4 aw3t ⟨#[97]⟩ aw3s true w0 _ (ok2.alloc _) aw3_small (by decide) HR2.out (by decide) (by decide) aw3_f aw3_s).mono ?_
  rintro e w3 ⟨a3, c3, rfl, ho3, ok3, hb3⟩
  have HB3 := hide (below_two HB2.out hb3)
  have HO3 := hide ((HO2.out.below hb3).allocF (.cells #[.string ⟨#[97]⟩, .string ⟨#[99]⟩] 9))
  obtain ⟨⟨x1, x2, x3⟩, _, hbl⟩ := (HX.out.below hb3).facts
  clear hb3 ho3 HO2 HR2 HX HB2
  have HT := hide (Own.made w3 [⟨#[97]⟩, ⟨#[99]⟩] (by simp [maxLen]))
  go_wp2_with fail
  refine (same_ok _ _ [[97], [99]] [[97], [99]] true w0 _ (ok3.alloc _) HO3.out.txt HT.out.txt (by decide) (by decide)).mono ?_
  rintro e w4 ⟨rfl, ok4, hb4⟩
  have HB4 := hide (below_two (below_two HB3.out (below_box w3 _)) hb4)
  have hy := (hb4.cell (p := ⟨w2.heap.size, 2, none⟩) (by simp; omega)).trans ((below_box w3 _).cell (p := ⟨w2.heap.size, 2, none⟩) hbl |>.trans x3)
  clear hb4 x1 x2 x3
  go_wp2_with fail
  go_ret
  exact ⟨rfl, ok4, HB4.out⟩
end Go.Proofs.YtomomeckgiiapaaDoor
