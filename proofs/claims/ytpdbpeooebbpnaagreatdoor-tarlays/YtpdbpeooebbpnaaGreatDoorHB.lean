/- The walks of package head and of the document's own answer, chapter 12: OfOctal. -/
import Derived.Test.YtpdbpeooebbpnaaGreatDoorHA
namespace Go.Proofs.YtpdbpeooebbpnaaGreatDoor
open Go.RowKit Hog

theorem ret_of (l : List UInt8) {n : Nat} {b : Bool} (hn : ofT l = n) (hb : ofR l = b) : Ending.returned (.tuple #[.int .i64 n, .bool b]) = .returned (.tuple #[.int .i64 (ofT l), .bool (ofR l)]) := by rw [hn, hb]
theorem of_out {l : List UInt8} (h : l.length < 1 ∨ 11 < l.length) : ofR l = false ∧ ofT l = 0 := by
  have e : ofR l = false := by
    unfold ofR
    rw [decide_eq_false (by omega)]; rfl
  exact ⟨e, by unfold ofT; rw [e]; rfl⟩
theorem of_bad {l : List UInt8} {k : Nat} {x : UInt8} (hx : l[k]? = some x) (h : dig x = false) : ofR l = false ∧ ofT l = 0 := by
  have e : ofR l = false := by
    unfold ofR
    rw [Bool.and_eq_false_iff]
    refine .inr ?_
    rw [List.all_eq_false]
    exact ⟨x, List.mem_of_getElem? hx, by rw [h]; simp⟩
  exact ⟨e, by unfold ofT; rw [e]; rfl⟩
theorem of_good {l : List UInt8} (h1 : 1 ≤ l.length) (h11 : l.length ≤ 11) (h : l.all dig = true) : ofR l = true ∧ ofT l = numO l := by
  have e : ofR l = true := by
    unfold ofR
    rw [h, Bool.and_true, decide_eq_true_eq]; exact ⟨h1, h11⟩
  exact ⟨e, by unfold ofT; rw [if_pos e]⟩
theorem str_at {s : ByteArray} {k : Nat} (h : k < s.size) : s.data.toList[k]? = some s[k] := by
  rw [List.getElem?_eq_getElem (by rw [← Hog.size_len]; exact h)]
  simp [ByteArray.getElem_eq_getElem_data]
theorem byte_num {x : UInt8} (h : dig x = true) : IntKind.u8.wrap ((x.toNat : Int) - 48) = ((x.toNat - 48 : Nat) : Int) := by
  have := dig_range h
  rw [IntKind.wrap_u8]; omega
theorem dig_under {x : UInt8} (h : x.toNat < 48) : dig x = false := by unfold dig; rw [decide_eq_false (by omega)]; rfl
theorem dig_over {x : UInt8} (h : 56 ≤ x.toNat) : dig x = false := by unfold dig; rw [decide_eq_false (show ¬ x.toNat < 56 by omega), Bool.and_false]

end Go.Proofs.YtpdbpeooebbpnaaGreatDoor
