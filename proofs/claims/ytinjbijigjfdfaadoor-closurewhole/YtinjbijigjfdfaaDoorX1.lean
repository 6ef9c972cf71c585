/- The walks of package item: only, Name, Hash. -/
import Derived.Test.YtinjbijigjfdfaaDoorJ2
import Derived.Test.YtinjbijigjfdfaaDoorPlainI
import Derived.Test.YtinjbijigjfdfaaDoorJ5
namespace Go.Proofs.YtinjbijigjfdfaaDoor
open Go.RowKit

theorem index_not {g : List UInt8} {c : UInt8} (h : c ∉ g) : decide (Lib.indexByte g c < 0) = true := by
  rw [decide_eq_true_eq, Hog.indexByte_neg]; exact h
theorem index_in {g : List UInt8} {c : UInt8} (h : c ∈ g) : decide (Lib.indexByte g c < 0) = false := by
  rw [decide_eq_false_iff_not, Hog.indexByte_neg]; exact fun k => k h

set_option maxHeartbeats 400000 in
theorem only_any (s g : ByteArray) (w : World) (hs : s.size < 1000000) :
    Calls Tryd.prog 37 #[.string s, .string g] w fun e w' => e = .returned (.bool (Hog.onlyL s.data.toList g.data.toList)) ∧ w' = w := by
  go_enter Tryd.func37, Tryd.ntmps37
  go_wp2
  go_loop [5, 8] (fun _ i => ∃ k : Nat, k ≤ s.size ∧ i = .int .i64 k ∧ Hid (Hog.onlyL (s.data.toList.take k) g.data.toList = true)) (fun _ i => s.size - (intOf i).toNat)
  case atStart => exact ⟨0, Nat.zero_le _, rfl, rfl⟩
  case round =>
    obtain ⟨k, hk, rfl, ho⟩ := hrel
    by_cases hlt : k < s.size
    · have HAT := hide (at_byte s k hlt)
      by_cases hc : s[k] ∈ g.data.toList
      · have hd := index_in hc
        have HC := hide hc
        clear hc
        go_wp2_with fail
        refine (Tryd.strings_IndexByte _ _ _).mono ?_
        rintro e w1 ⟨rfl, rfl⟩
        go_wp2
        go_round
        case rel => exact ⟨k + 1, by omega, by go_num, Hog.only_step HAT.out ho.out HC.out⟩
        case measure => simp [intOf]; omega
      · have hd := index_not hc
        have HC := hide hc
        clear hc
        go_wp2_with fail
        refine (Tryd.strings_IndexByte _ _ _).mono ?_
        rintro e w1 ⟨rfl, rfl⟩
        go_wp2
        go_ret
        exact ⟨ret_bool (Hog.only_fall HAT.out HC.out).symm, rfl⟩
    · go_wp2
      go_ret
      refine ⟨ret_bool ?_, rfl⟩
      have e : k = s.data.toList.length := by rw [← Hog.size_len]; omega
      have h1 := ho.out
      rw [e, List.take_length] at h1
      exact h1.symm
end Go.Proofs.YtinjbijigjfdfaaDoor
