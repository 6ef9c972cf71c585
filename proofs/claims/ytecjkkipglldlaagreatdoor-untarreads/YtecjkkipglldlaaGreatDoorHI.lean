/- The walks of head's filled (over bytes.Cut, Index, IndexByte), of bytes.Equal, and of the document's field. -/
import Derived.Test.YtecjkkipglldlaaGreatDoorHH
namespace Go.Proofs.YtecjkkipglldlaaGreatDoor
open Go.RowKit Hog

def numsB (l : List UInt8) : List Int := l.map fun x => (x.toNat : Int)
theorem bytes_nums (l : List UInt8) : Lib.bytesOf (numsB l) = l := by
  unfold Lib.bytesOf numsB
  rw [List.map_map]
  conv => rhs; rw [← List.map_id l]
  apply List.map_congr_left
  intro x _
  simp
theorem nums_cells {w : World} {b o n c : Nat} {l : List UInt8} (h : ArgB w (some ⟨b, o, none⟩) n c l) : ∀ i, i < n → w.cell? ⟨b, o + i, none⟩ = some (.int .u8 ((numsB l).getD i 0)) := by
  intro i hi
  have hi' : i < l.length := by rw [h.len]; exact hi
  rw [h.at (List.getElem?_eq_getElem hi')]
  simp [numsB, List.getD, hi']
set_option maxRecDepth 100000 in
theorem bidx_any (b o n c : Nat) (l : List UInt8) (x : Int) (w : World) (h : ArgB w (some ⟨b, o, none⟩) n c l) :
    Calls Tryz.prog 120 #[.slice (some ⟨b, o, none⟩) n c, .int .u8 x] w fun e w' => e = .returned (.int .i64 (Lib.indexByte l x.toNat.toUInt8)) ∧ w' = w := by
  have hrun := Lib.run_indexByteSlice (P := Tryz.prog) w b o n c (numsB l) (by unfold numsB; rw [List.length_map]; exact h.len) (nums_cells h) x
  rw [bytes_nums] at hrun
  go_enter Tryz.func120, Tryz.ntmps120
  go_wp2
  rw [run_callFunc_extern Tryz.func137 (by kernel_rfl) (by kernel_rfl) (by kernel_rfl) (e := Extern.BytealgIndexByte.indexByte) (by kernel_rfl), hrun]
  simp only [Result.andThen]
  rw [Oper.upon_value]
  go_wp2
  go_ret
  exact ⟨rfl, rfl⟩
set_option maxRecDepth 100000 in
set_option maxHeartbeats 400000 in
theorem bindex_one (b o n c g : Nat) (l : List UInt8) (w : World) (h : ArgB w (some ⟨b, o, none⟩) n c l) (hg : w.cell? ⟨g, 0, none⟩ = some (.int .u8 0)) :
    Calls Tryz.prog 108 #[.slice (some ⟨b, o, none⟩) n c, .slice (some ⟨g, 0, none⟩) 1 1] w fun e w' => e = .returned (.int .i64 (Lib.indexByte l 0)) ∧ w' = w := by
  have HA := hide h
  clear h
  go_enter Tryz.func108, Tryz.ntmps108
  go_wp2_with fail
  refine (bidx_any b o n c l 0 w HA.out).mono ?_
  rintro e w1 ⟨rfl, rfl⟩
  rw [show ((0 : Int).toNat.toUInt8) = 0 by rfl]
  go_wp2_with fail
  go_ret
  exact ⟨rfl, rfl⟩
theorem while_at : ∀ {l : List UInt8} {i : Nat}, l[i]? = some 0 → (∀ k, k < i → l[k]? ≠ some 0) → l.takeWhile (· != 0) = l.take i
  | [], _, h, _ => by simp at h
  | x :: l, 0, h, _ => by
    have hx : x = 0 := by simpa using h
    subst hx
    simp
  | x :: l, i + 1, h, hn => by
    have hx : (x != 0) = true := by
      rw [bne_iff_ne]
      intro e
      exact hn 0 (by omega) (by simp [e])
    rw [List.takeWhile_cons, if_pos hx, List.take_succ_cons, while_at (i := i) (by simpa using h) (fun k hk => by have := hn (k + 1) (by omega); simpa using this)]
theorem while_all : ∀ {l : List UInt8}, (∀ k : Nat, l[k]? ≠ some 0) → l.takeWhile (· != 0) = l
  | [], _ => rfl
  | x :: l, h => by
    have hx : (x != 0) = true := by
      rw [bne_iff_ne]
      intro e
      exact h 0 (by simp [e])
    rw [List.takeWhile_cons, if_pos hx, while_all (fun k => by have := h (k + 1); simpa using this)]
/-- How many bytes stand ahead of the first 0. -/
def lenW (l : List UInt8) : Nat := (l.takeWhile (· != 0)).length
theorem lenW_take (l : List UInt8) : l.take (lenW l) = l.takeWhile (· != 0) := (List.prefix_iff_eq_take.1 (List.takeWhile_prefix _)).symm
theorem lenW_le (l : List UInt8) : lenW l ≤ l.length := (List.takeWhile_prefix _).length_le
set_option maxRecDepth 100000 in
set_option maxHeartbeats 800000 in
theorem cutz_any (b o n c g k : Nat) (l : List UInt8) (w : World) (h : ArgB w (some ⟨b, o, none⟩) n c l) (hn : n < 1000000) (hg : w.cell? ⟨g, 0, none⟩ = some (.int .u8 0)) (hk : lenW l = k) :
    Calls Tryz.prog 95 #[.slice (some ⟨b, o, none⟩) n c, .slice (some ⟨g, 0, none⟩) 1 1] w fun e w' => (∃ v u : Value, e = .returned (.tuple #[.slice (some ⟨b, o, none⟩) k c, v, u])) ∧ Below w.heap.size w w' := by
  have HA := hide h
  have HC := h.cap
  have HN := h.len
  have hge := Lib.indexByte_ge l 0
  by_cases h0 : Lib.indexByte l 0 < 0
  · have e0 : Lib.indexByte l 0 = -1 := by omega
    have ek : k = n := by
      rw [← hk, ← HN]
      unfold lenW
      rw [while_all (Lib.indexByte_none e0)]
    have HK := hide ek
    have H0 := hide e0
    clear h h0 e0 hge ek hk HN
    go_enter Tryz.func95, Tryz.ntmps95
    go_wp2_with fail
    refine (bindex_one b o n c g l w HA.out hg).mono ?_
    rintro e w1 ⟨rfl, rfl⟩
    rw [H0.out]
    go_wp2_with fail
    go_ret3
    have hkk := HK.out
    subst hkk
    exact ⟨⟨_, _, rfl⟩, Below.refl _ _⟩
  · obtain ⟨i, hi⟩ : ∃ i : Nat, Lib.indexByte l 0 = i := ⟨_, (Int.toNat_of_nonneg (by omega)).symm⟩
    have hs := Lib.indexByte_some hi
    have ek : k = i := by
      rw [← hk]
      unfold lenW
      rw [while_at hs.1 hs.2, List.length_take]
      have := (List.getElem?_eq_some_iff.1 hs.1).1
      omega
    have hin : i < n := by rw [← HN]; exact (List.getElem?_eq_some_iff.1 hs.1).1
    have HK := hide ek
    have H0 := hide hi
    have hi0 : (0 : Int) ≤ (i : Int) := by omega
    have hii : (i : Int) < (n : Int) := by omega
    have hci : (i : Int) ≤ (c : Int) := by omega
    have hn1 : (i : Int) + 1 ≤ (n : Int) := by omega
    clear h h0 hge ek hk HN hs hi
    go_enter Tryz.func95, Tryz.ntmps95
    go_wp2_with fail
    refine (bindex_one b o n c g l w HA.out hg).mono ?_
    rintro e w1 ⟨rfl, rfl⟩
    rw [H0.out]
    go_wp2_with fail
    have HKI : Hid (i = k) := hide HK.out.symm
    by_cases hck : c = i + 1
    · subst hck
      go_quiet (fail)
      go_wp2_with fail
      go_ret3
      have hkk := HKI.out
      subst hkk
      exact ⟨⟨_, _, rfl⟩, below_drewN (Below.refl _ _) nq⟩
    · go_quiet (fail)
      go_wp2_with fail
      go_ret3
      have hkk := HKI.out
      subst hkk
      exact ⟨⟨_, _, rfl⟩, below_drewN (Below.refl _ _) nq⟩
theorem seps_cell (w : World) : (w.alloc (.cells #[.int .u8 0] 5)).cell? ⟨w.heap.size, 0, none⟩ = some (.int .u8 0) := by simp
set_option maxRecDepth 100000 in
set_option maxHeartbeats 800000 in
theorem filled_any (b o n c : Nat) (l r : List UInt8) (w : World) (h : ArgB w (some ⟨b, o, none⟩) n c l) (h1 : 100 ≤ n) (hn : n < 1000000) (hr : (l.take 100).takeWhile (· != 0) = r) :
    Calls Tryz.prog 77 #[.slice (some ⟨b, o, none⟩) n c] w fun e w' => e = .returned (.string (mk r)) ∧ Below w.heap.size w w' := by
  have hcap := h.cap
  have HA := hide (h.take h1)
  have hc1 : (100 : Int) ≤ (c : Int) := by omega
  obtain ⟨k, hk⟩ : ∃ k, lenW (l.take 100) = k := ⟨_, rfl⟩
  have HK := hide hk
  have hk100 : k ≤ 100 := by rw [← hk]; exact Nat.le_trans (lenW_le _) (by rw [List.length_take]; omega)
  have HKR : Hid (((l.take 100).take k) = r) := by rw [← hk, lenW_take]; exact hide hr
  clear h hr hk
  go_enter Tryz.func77, Tryz.ntmps77
  go_wp2_with fail
  have HB0 : Hid (Below w.heap.size w (w.alloc (.cells #[.int .u8 0] 5))) := hide (below_alloc w _)
  refine (cutz_any b o 100 c w.heap.size k _ _ (HA.out.below HB0.out) (by omega) (seps_cell w) HK.out).mono ?_
  rintro e w1 ⟨⟨v, f, rfl⟩, hb1⟩
  have HB1 : Hid (Below w.heap.size w w1) := hide (HB0.out.trans (hb1.mono HB0.out.size))
  have hs := str_bytes ((HA.out.below HB1.out).take hk100)
  rw [HKR.out] at hs
  clear hb1
  go_wp2_with fail
  go_ret
  exact ⟨rfl, HB1.out⟩
end Go.Proofs.YtecjkkipglldlaaGreatDoor
