/- Bytes turned into a text, and a text into bytes. -/
import Derived.Test.YtecjkkipglldlaaGreatDoorB1
import Derived.Laws.BytesArg
import Derived.Laws.IdiomStrings
namespace Go.Proofs.YtecjkkipglldlaaGreatDoor
open Go.RowKit

theorem str_nums (l : List UInt8) : strOfNums (l.map fun x => (x.toNat : Int)) = Hog.mk l := by
  unfold strOfNums Hog.mk
  rw [List.map_map]
  have e : (l.map ((fun n : Int => UInt8.ofNat n.toNat) ∘ fun x : UInt8 => (x.toNat : Int))) = l := by
    conv => rhs; rw [← List.map_id l]
    apply List.map_congr_left
    intro x _
    simp
  rw [e]
theorem str_bytes {w : World} {ao : Option Addr} {n c : Nat} {l : List UInt8} (h : ArgB w ao n c l) : (convert 22 9 (.slice ao n c)).run Tryz.prog w = .ok (.string (Hog.mk l)) w := by
  by_cases hn : 0 < n
  · obtain ⟨b, o, rfl, _⟩ := h.plain hn
    have hr := run_convert_bytes_arg (P := Tryz.prog) w 22 5 Tryz.underlying22 Tryz.underlying5 b o n c (l.map fun x => (x.toNat : Int)) (by rw [List.length_map]; exact h.len) (fun i hi => by
      have hi' : i < l.length := by rw [h.len]; exact hi
      rw [h.at (List.getElem?_eq_getElem hi')]
      simp [List.getD, hi']) 9 Tryz.underlying9
    rw [hr, str_nums]
  · have h0 : n = 0 := by omega
    subst h0
    have hl : l = [] := List.eq_nil_of_length_eq_zero h.len
    subst hl
    cases ao with
    | none => exact run_convert_bytes_nil (P := Tryz.prog) w 22 5 Tryz.underlying22 Tryz.underlying5 0 c 9 Tryz.underlying9
    | some ad =>
      rw [run_convert_bytes_string w 22 9 5 _ 0 c Tryz.underlying22 Tryz.underlying5 Tryz.underlying9]
      exact run_bytesToString w ad 0 c [] (run_loadCells_list w ad [] (fun j v hj => by simp at hj))

/-- A text's bytes, as a new slice. -/
theorem run_bytes_str (w : World) (s : ByteArray) : ∃ c w', (convert 9 22 (.string s)).run Tryz.prog w = .ok (.slice (some ⟨w.heap.size, 0, none⟩) s.size c) w' ∧ ArgB w' (some ⟨w.heap.size, 0, none⟩) s.size c s.data.toList ∧ Below w.heap.size w w' := by
  refine ⟨_, _, run_bytes_of_string (P := Tryz.prog) w 9 22 5 s Tryz.underlying9 Tryz.underlying22 Tryz.underlying5, ?_, ((Below.refl _ w).drew).alloc (Nat.le_refl _) _⟩
  refine ⟨(Hog.size_len s).symm, by simp, ?_, fun ad e j u hu => ?_⟩
  · exact grownCap_ge _ _ _ _
  · cases e
    have hj := (List.getElem?_eq_some_iff.1 hu).1
    rw [bcells_len] at hj
    rw [addB_plain, Nat.zero_add]
    have h1 := World.cell?_alloc_mark w.drew (bytesRow s (grownCap w s.size 0 5)) 5 ((bytesRow s (grownCap w s.size 0 5)).size, (bytesRow s (grownCap w s.size 0 5)).size + 1) j
    refine h1.trans ?_
    rw [bytesRow_at s _ j (by simpa using hj), ← hu]
    simp [bcells, Array.getElem?_eq_getElem (show j < s.data.size by simpa using hj)]
end Go.Proofs.YtecjkkipglldlaaGreatDoor
