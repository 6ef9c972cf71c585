/- A row of bytes that is laid over, piece by piece; which texts have room; what kinds look like. -/
import Derived.Test.YtecjkkipglldlaaGreatDoorHB
import Derived.Lib.BufferWrite
import Derived.Lib.IndexLaws
import Derived.Lib.BytesEntry
namespace Go.Proofs.YtecjkkipglldlaaGreatDoor
open Go.RowKit Hog

/-- In block g lie just these bytes, as a slice's row. -/
def RowH (w : World) (g : Nat) (l : List UInt8) : Prop := w.heap[g]? = some (.cells (bcells l).toArray 5 (0, 0))
theorem RowH.cell {w : World} {g : Nat} {l : List UInt8} (h : RowH w g l) {j : Nat} {x : UInt8} (hx : l[j]? = some x) : w.cell? ⟨g, j, none⟩ = some (.int .u8 x.toNat) := by
  rw [cell_of_row w g j _ 5 (0, 0) h]
  simpa using bcells_get hx
theorem RowH.free {w : World} {g : Nat} {l : List UInt8} (h : RowH w g l) (j : Nat) : w.frozen? ⟨g, j, none⟩ = false := frozen_of_row w g j _ 5 h
theorem RowH.lt {w : World} {g : Nat} {l : List UInt8} (h : RowH w g l) : g < w.heap.size := (Array.getElem?_eq_some_iff.1 h).1
theorem RowH.stored {w : World} {g : Nat} {l : List UInt8} (h : RowH w g l) (k : Nat) (y : UInt8) : RowH (w.setCell ⟨g, k, none⟩ (.int .u8 y.toNat)) g (l.set k y) := by
  unfold RowH
  rw [heap_setCell_same w g k _ 5 _ h]
  unfold bcells
  rw [List.map_set]
  simp
theorem RowH.below {w w' : World} {g B : Nat} {l : List UInt8} (h : RowH w g l) (hb : Below B w w') (hB : g < B) : RowH w' g l := by
  unfold RowH
  rw [hb.block g hB]
  exact h
theorem RowH.arg {w : World} {g n c : Nat} {l : List UInt8} (h : RowH w g l) (hn : l.length = n) (hc : n ≤ c) : ArgB w (some ⟨g, 0, none⟩) n c l := by
  subst hn
  refine ⟨rfl, by simp, hc, fun ad e j u hu => ?_⟩
  cases e
  rw [addB_plain, Nat.zero_add, cell_of_row w g j _ 5 (0, 0) h]
  simpa using hu
theorem RowH.own {w : World} {g n base : Nat} {l : List UInt8} (h : RowH w g l) (hn : l.length = n) (hb : base ≤ g) (hm : n ≤ maxLen) : OwnB base w (.slice (some ⟨g, 0, none⟩) n n) l := by
  subst hn
  exact ⟨by simp [bcells], .inr ⟨g, l.length, _, rfl, hb, h, Nat.le_refl _, hm, by simp [bcells], by rw [Nat.mul_one, ← bcells_len]; simp [List.take_of_length_le]⟩⟩
theorem bcells_splice (l s : List UInt8) (k : Nat) : (bcells l).take k ++ bcells s ++ (bcells l).drop (k + s.length) = bcells (splice l k s) := by
  unfold bcells splice
  simp [List.map_take, List.map_drop]

/-- A text laid over a row's bytes, as a law for the walk. -/
theorem wpList_copy_str {w : World} {ops : Array Oper} {rest : List Oper} {o : Oper} {a : Act} {Q : Exit → Act → World → Prop} (hgd : o.guard = none) (d s : Operand)
    (ho : o.op = .call { callee := .builtin .copy, args := #[d, s], argTypes := #[22, 9] })
    (g k m c : Nat) (hd : a.eval d = .slice (some ⟨g, k, none⟩) m c) (t : ByteArray) (hs : a.eval s = .string t) (l xs l' : List UInt8) (hg : RowH w g l) (hx : t.data.toList = xs) (hl : splice l k xs = l')
    (hle : xs.length ≤ m) (hfit : k + xs.length ≤ l.length) (B : Nat) (w0 : World) (hb : Below B w0 w) (hB : B ≤ g)
    (h : ∀ w', Hid (RowH w' g l') → Hid (Below B w0 w') → wpList Tryz.prog ops Q rest (a.put o.dst (goInt t.size)) w') : wpList Tryz.prog ops Q (o :: rest) a w := by
  obtain ⟨i0, hi, hz0, hz1, hz2⟩ := info_parts A5
  subst hx
  subst hl
  rw [← Hog.size_len] at hle hfit
  refine wpList_plain hgd fun K hK => ?_
  have hrun := Lib.run_copy_row_string (P := Tryz.prog) w 22 9 o.type 5 g k m c t _ 5 Tryz.underlying22 (by rw [hi]; simp [hz1]) hg hle (by simpa [bcells] using hfit)
  unfold Oper.wp
  simp only [execOp, ho, resolve, invoke, builtin, Sem.run_bind, Sem.run_pure, Result.andThen_ok, List.map_toArray, List.map_cons, List.map_nil, hd, hs, hrun]
  refine hK _ _ (h _ ?_ (below_setRow hb hB _))
  refine hide ?_
  unfold RowH
  rw [setRow_heap w g _ _ 5 (0, 0) hg]
  have e := bcells_splice l t.data.toList k
  rw [← Hog.size_len] at e
  rw [← e]
  rfl

theorem idxb_any (s : ByteArray) (c : Int) (w : World) :
    Calls Tryz.prog 70 #[.string s, .int .u8 c] w fun e w' => e = .returned (.int .i64 (Lib.indexByte s.data.toList c.toNat.toUInt8)) ∧ w' = w := Tryz.strings_IndexByte s c w
theorem idx_zero (l : List UInt8) : decide (Lib.indexByte l 0 < 0) = decide ((0 : UInt8) ∉ l) := by
  have h1 := Lib.indexByte_ge l 0
  by_cases h : Lib.indexByte l 0 < 0
  · have e : Lib.indexByte l 0 = -1 := by omega
    rw [decide_eq_true h, eq_comm, decide_eq_true_eq]
    intro hm
    obtain ⟨k, hk⟩ := List.getElem?_of_mem hm
    exact Lib.indexByte_none e k hk
  · obtain ⟨k, hk⟩ : ∃ k : Nat, Lib.indexByte l 0 = k := ⟨_, (Int.toNat_of_nonneg (by omega)).symm⟩
    rw [decide_eq_false h, eq_comm, decide_eq_false_iff_not]
    exact fun hm => hm (List.mem_of_getElem? (Lib.indexByte_some hk).1)
set_option maxHeartbeats 400000 in
theorem mayfill_ok (s : ByteArray) (l : List UInt8) (r : Bool) (w : World) (hl : s.data.toList = l) (hr : fillB l = r) :
    Calls Tryz.prog 56 #[.string s] w fun e w' => e = .returned (.bool r) ∧ w' = w := by
  subst hl
  subst hr
  by_cases h : s.size ≤ 100
  · have h1 : (s.size : Int) ≤ 100 := by omega
    obtain ⟨i, hi⟩ : ∃ i, i = Lib.indexByte s.data.toList 0 := ⟨_, rfl⟩
    have HI := hide hi
    have HS := hide h
    go_enter Tryz.func56, Tryz.ntmps56
    go_wp2_with fail
    refine (idxb_any s 0 w).mono ?_
    rintro e w1 ⟨rfl, rfl⟩
    rw [show ((0 : Int).toNat.toUInt8) = 0 by rfl, ← hi]
    clear hi h
    go_wp2_with fail
    go_ret
    refine ⟨ret_bool ?_, rfl⟩
    unfold fillB
    rw [← Hog.size_len, decide_eq_true HS.out, Bool.true_and, ← idx_zero, ← HI.out]
  · have h1 : ¬ ((s.size : Int) ≤ 100) := by omega
    have hf : fillB s.data.toList = false := by
      unfold fillB
      rw [← Hog.size_len, decide_eq_false h]; rfl
    have HF := hide hf
    clear hf
    go_enter Tryz.func56, Tryz.ntmps56
    go_wp2_with fail
    go_ret
    exact ⟨ret_bool HF.out.symm, rfl⟩
end Go.Proofs.YtecjkkipglldlaaGreatDoor
