/- slices.Sort and slices.Compact at texts of one's own. -/
import Derived.Test.YtinjbijigjfdfaaDoorSI
import Derived.Test.YtinjbijigjfdfaaDoorJ7
import Derived.Test.YtinjbijigjfdfaaDoorJ8
import Derived.Sort.OwnSorted
import Derived.Lib.OwnBridge
import Derived.Lib.RowBridge
namespace Go.Proofs.YtinjbijigjfdfaaDoor
open Go.RowKit

theorem enc_mk (l : List UInt8) : encStr l = .string (Hog.mk l) := rfl
theorem enc_texts (xs : List ByteArray) : xs.map Value.string = (xs.map fun x => x.data.toList).map encStr := by
  rw [List.map_map]
  refine List.map_congr_left fun x _ => ?_
  show Value.string x = .string (Hog.mk x.data.toList)
  rw [Hog.data_mk]
theorem enc_lists (ss : List (List UInt8)) : ss.map encStr = (ss.map Hog.mk).map Value.string := by rw [List.map_map]; rfl
/-- The texts, as lists of bytes. -/
def plainT (xs : List ByteArray) : List (List UInt8) := xs.map fun x => x.data.toList
theorem plain_mk (ss : List (List UInt8)) : plainT (ss.map Hog.mk) = ss := by
  unfold plainT
  rw [List.map_map]
  have : (fun x : ByteArray => x.data.toList) ∘ Hog.mk = id := by funext l; exact Hog.mk_data l
  rw [this, List.map_id]
theorem mk_plain (xs : List ByteArray) : (plainT xs).map Hog.mk = xs := by
  unfold plainT
  rw [List.map_map]
  have : Hog.mk ∘ (fun x : ByteArray => x.data.toList) = id := by funext l; exact Hog.data_mk l
  rw [this, List.map_id]
def sortedL (ss : List (List UInt8)) : List (List UInt8) := ss.mergeSort fun x y => decide (x ≤ y)
theorem sortedL_len (ss : List (List UInt8)) : (sortedL ss).length = ss.length := List.length_mergeSort ss

theorem sortT_ok (v : Value) (xs ys : List ByteArray) (base : Nat) (w : World) (h : Own base w v xs) (hl : xs.length < 1000000) (hy : (sortedL (plainT xs)).map Hog.mk = ys) :
    Calls Tryd.prog 35 #[v] w fun e w' => e = .returned (.tuple #[]) ∧ Own base w' v ys ∧ w.grownBy w' v.ownBlock := by
  have hlen : (plainT xs).length = xs.length := by simp [plainT]
  rcases id h.2 with ⟨rfl, h0⟩ | ⟨g, cap, cur, rfl, hbase, hb, h1, h2, h3, h4⟩
  · refine (Tryd.slices_Sort_string_none none 0 w).mono ?_
    rintro e w' ⟨rfl, rfl⟩
    have hx : xs = [] := List.eq_nil_of_length_eq_zero h0
    subst hx
    have : ys = [] := by rw [← hy]; simp [sortedL, plainT]
    subst this
    exact ⟨rfl, h, grown_refl _ _⟩
  · rw [Nat.mul_one, enc_texts] at h4
    have hH := holds_of_block (ss := plainT xs) hb (by rw [hlen]; exact h4)
    have hc := Tryd.slices_Sort_string g 0 cap (plainT xs) w hH (Array.getElem?_eq_some_iff.1 hb).1 (by rw [hlen]; omega)
    rw [hlen] at hc
    refine hc.mono ?_
    rintro e w' ⟨rfl, n, os, rfl⟩
    refine ⟨rfl, ?_, grownBy_sorted _⟩
    have hs := ownsRow_sorted (n := n) (os := os) (ss := plainT xs) (ts := sortedL (plainT xs)) (sortedL_len _) hbase hb (by rw [hlen]; exact h1) h2 h3
    rw [hlen, enc_lists, hy] at hs
    have hyl : ys.length = xs.length := by rw [← hy, List.length_map, sortedL_len, hlen]
    unfold Own
    rw [hyl]
    exact hs
theorem compactT_ok (v : Value) (xs ys : List ByteArray) (base : Nat) (w : World) (h : Own base w v xs) (hl : xs.length < 1000000) (hy : (Lib.compact (plainT xs)).map Hog.mk = ys) :
    Calls Tryd.prog 40 #[v] w fun e w' => ∃ a c, e = .returned (.slice a ys.length c) ∧ Own base w' (.slice a ys.length c) ys ∧ w.grownBy w' v.ownBlock := by
  have hlen : (plainT xs).length = xs.length := by simp [plainT]
  rcases id h.2 with ⟨rfl, h0⟩ | ⟨g, cap, cur, rfl, hbase, hb, h1, h2, h3, h4⟩
  · refine (Tryd.slices_Compact_string_empty none 0 w).mono ?_
    rintro e w' ⟨rfl, rfl⟩
    have hx : xs = [] := List.eq_nil_of_length_eq_zero h0
    subst hx
    have : ys = [] := by rw [← hy]; rfl
    subst this
    exact ⟨none, 0, rfl, h, grown_refl _ _⟩
  · rw [Nat.mul_one, enc_texts] at h4
    have hH := holds_of_block (ss := plainT xs) hb (by rw [hlen]; exact h4)
    have hc := Tryd.slices_Compact_string g 0 cap (plainT xs) w hH (by rw [hlen]; omega) (by rw [hlen]; exact h1)
    rw [hlen] at hc
    have hle := Lib.compact_length_le (plainT xs)
    have hyl : ys.length = (Lib.compact (plainT xs)).length := by rw [← hy, List.length_map]
    refine hc.mono ?_
    rintro e w' ⟨rfl, q, rfl⟩
    have h5 : w.ownsRow base 9 1 (.slice (some ⟨g, 0, none⟩) xs.length cap) xs.length ((plainT xs).map encStr) := by
      have := h
      unfold Own at this
      rw [enc_texts] at this
      exact this
    have hk := Lib.ownsRow_putRow (q := q) (k := (Lib.compact (plainT xs)).length) (ys := Lib.compact (plainT xs) ++ List.replicate (xs.length - (Lib.compact (plainT xs)).length) []) h5 (by simp; omega) (by omega)
    rw [List.take_left, enc_lists, hy] at hk
    refine ⟨some ⟨g, 0, none⟩, cap, by rw [hyl], by unfold Own; rw [hyl]; exact hk, ?_⟩
    have := grownBy_sorted (w := w) (g := g) (n := q) (os := #[]) (Lib.compact (plainT xs) ++ List.replicate (xs.length - (Lib.compact (plainT xs)).length) []).toArray
    rwa [Sort.grow_empty] at this
end Go.Proofs.YtinjbijigjfdfaaDoor
