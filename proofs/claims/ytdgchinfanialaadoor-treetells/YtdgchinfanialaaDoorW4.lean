/- The walks of package path: May, Split, Under. -/
import Derived.Test.YtdgchinfanialaaDoorW3
namespace Go.Proofs.YtdgchinfanialaaDoor
open Go.RowKit

theorem cut_sizes (l : List UInt8) (h : l.length < 1000000) : ∀ x ∈ (Hog.cutC l).map Hog.mk, x.size < 1000000 := by
  intro x hx
  obtain ⟨y, hy, rfl⟩ := List.mem_map.1 hx
  rw [Hog.mk_size]
  exact Nat.lt_of_le_of_lt (Hog.cutC_part_len l y hy) h
theorem cut_count (l : List UInt8) (h : l.length < 999999) : ((Hog.cutC l).map Hog.mk).length < 1000000 := by
  have := Hog.cutC_len l
  simp only [List.length_map]; omega

set_option maxHeartbeats 400000 in
theorem may_any (s : ByteArray) (w : World) (hsh : w.ShapedOpen Tryd.prog) (hs : s.size < 999999) :
    Calls Tryd.prog 33 #[.string s] w fun e w' => e = .returned (.bool (Hog.mayL s.data.toList)) ∧ Below w.heap.size w w' := by
  by_cases h : s.size ≤ 200
  · have h' : (s.size : Int) ≤ 200 := by omega
    go_enter Tryd.func33, Tryd.ntmps33
    go_wp2_with fail
    refine (cut_any s w hsh (by omega)).mono ?_
    rintro e w1 ⟨v, rfl, ho, hb⟩
    go_wp2_with fail
    refine (parts_any v _ w1 ho.txt (cut_count _ (by rw [← Hog.size_len]; exact hs)) (cut_sizes _ (by rw [← Hog.size_len]; omega))).mono ?_
    rintro e w2 ⟨rfl, rfl⟩
    go_wp2_with fail
    go_ret
    refine ⟨ret_bool ?_, hb⟩
    unfold Hog.mayL
    rw [parts_mk, ← Hog.size_len]
    simp [h]
  · have h' : (200 : Int) < (s.size : Int) := by omega
    go_enter Tryd.func33, Tryd.ntmps33
    go_wp2_with fail
    go_ret
    refine ⟨ret_bool ?_, Below.refl _ _⟩
    unfold Hog.mayL
    rw [← Hog.size_len]
    simp [h]

end Go.Proofs.YtdgchinfanialaaDoor
