/- Bytes 0 appended, as many as a number says; bytes appended in a region that draws its order. -/
import Derived.Test.YtecjkkipglldlaaGreatDoorHF
import Derived.Test.YtecjkkipglldlaaGreatDoorJ21
namespace Go.Proofs.YtecjkkipglldlaaGreatDoor
open Go.RowKit

theorem zeros_cells (m : Nat) : Builtin.zeroCells (Value.int .u8 0).cells m = (Lib.strCells (Hog.mk (Hog.zeros m))).toArray := by
  apply Array.ext'
  unfold Builtin.zeroCells Lib.strCells Hog.zeros
  rw [show (Value.int IntKind.u8 0).cells = #[Value.int .u8 0] by rfl, Hog.mk_data, List.map_replicate]
  apply List.ext_getElem?
  intro j
  rw [Array.getElem?_toList, Array.getElem?_map, show (#[Value.int IntKind.u8 0] : Array Value).size = 1 by rfl, Nat.mul_one, List.getElem?_replicate]
  by_cases hj : j < m
  · rw [if_pos hj, Array.getElem?_range, if_pos hj, Option.map_some, Nat.mod_one]; rfl
  · rw [if_neg hj, Array.getElem?_range, if_neg hj]; rfl
theorem run_append_zeros {P : Program} (w : World) (t u us ty e : TypeId) (i : TypeInfo) (ht : P.underlying t = some (.slice e)) (hu : P.underlying u = some (.int .i64)) (hus : P.underlying us = some .string) (hi : P.info? e = some i) (hz : i.zero = some (.int .u8 0))
    (hsize : i.size = 1) (hby : i.bytes = 1) (b : Option Addr) (n c m : Nat) (hnc : n ≤ c) (h : n + m < 1000000000) :
    (Builtin.append_ #[t, u] ty #[.slice b n c, .int .i64 m]).run P w = (Builtin.append_ #[t, us] ty #[.slice b n c, .string (Hog.mk (Hog.zeros m))]).run P w := by
  have hs : (Hog.mk (Hog.zeros m)).size = m := by rw [Hog.mk_size, Hog.zeros_len]
  have hf : ∀ w : World, (Builtin.firstCells 1 m (.string (Hog.mk (Hog.zeros m)))).run P w = .ok (Builtin.zeroCells (Value.int .u8 0).cells m) w := fun w => by
    have := Lib.run_firstCells_string (P := P) w 1 (Hog.mk (Hog.zeros m))
    rw [hs] at this
    rw [this, zeros_cells]
  have hw : IntKind.i64.wrap (m : Int) = (m : Int) := by rw [IntKind.wrap_i64]; omega
  have hw0 : IntKind.i64.wrap 0 = 0 := by rw [IntKind.wrap_i64]; omega
  have hz0 : Builtin.zeroCells (Value.int .u8 0).cells 0 = #[] := by rw [zeros_cells]; rfl
  have h0 : ¬ ((m : Int) < 0) := by omega
  have h48 : ¬ (281474976710656 < (m : Int)) := by omega
  have h63 : ¬ (9223372036854775807 < ((n : Int) + (m : Int))) := by omega
  by_cases hm : m = 0
  · subst hm
    cases b <;> simp [Builtin.append_, run_underlying ht, run_underlying hu, run_underlying hus, sizeOf, typeInfo, zeroValue, hi, hz, hsize, hby, Builtin.lenOf, asInt, asIntOf, hnc, hs, hf, hw0, hz0]
  · by_cases hroom : n + m ≤ c
    · cases b <;> simp [Builtin.append_, run_underlying ht, run_underlying hu, run_underlying hus, sizeOf, typeInfo, zeroValue, hi, hz, hsize, hby, Builtin.lenOf, asInt, asIntOf, hroom, hs, hf, hw, hm, h0, h48]
    · have hfit : ¬ (281474976710656 < Builtin.nextslicecap (n + m) c) := by
        have := growslice_fits (old := c) (need := n + m) (bytes := 1) (by omega) (by omega)
        omega
      cases b <;> simp [Builtin.append_, run_underlying ht, run_underlying hu, run_underlying hus, sizeOf, typeInfo, zeroValue, hi, hz, hsize, hby, Builtin.lenOf, asInt, asIntOf, hroom, hs, hf, hw, hm, h0, h48, h63, hfit]
end Go.Proofs.YtecjkkipglldlaaGreatDoor
