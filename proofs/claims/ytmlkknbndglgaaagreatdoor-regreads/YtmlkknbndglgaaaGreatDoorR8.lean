/- The walk of the statements' own GreatTexts. -/
import Derived.Test.YtmlkknbndglgaaaGreatDoorJ5
namespace Go.Proofs.YtmlkknbndglgaaaGreatDoor
open Go.RowKit

/-- A slice of texts that was handed in. -/
structure Arg (w : World) (ao : Option Addr) (n c : Nat) (xs : List ByteArray) : Prop where
  len : xs.length = n
  none : ao = none → n = 0 ∧ c = 0
  cap : n ≤ c
  cell : ∀ ad, ao = some ad → ∀ (j : Nat) u, (xs.map Value.string)[j]? = some u → w.cell? (ad.add j) = some u

theorem addr_plain {w : World} {ad : Addr} {v : Value} (h : w.cell? ad = some v) : ad = ⟨ad.block, ad.off, none⟩ ∧ ad.block < w.heap.size := by
  unfold World.cell? at h
  split at h
  · rename_i c _ _ hb
    split at h
    · cases h
    · rename_i hs
      refine ⟨?_, (Array.getElem?_eq_some_iff.1 hb).1⟩
      obtain ⟨b, o, s⟩ := ad
      simp at hs
      simp [hs]
  · cases h
theorem add_zero' (ad : Addr) : ad.add 0 = ad := by unfold Addr.add; obtain ⟨b, o, s⟩ := ad; cases s <;> rfl
theorem add_plain (b o j : Nat) : (⟨b, o, none⟩ : Addr).add j = ⟨b, o + j, none⟩ := by unfold Addr.add; split <;> simp_all

theorem Arg.txt {w : World} {ao : Option Addr} {n c : Nat} {xs : List ByteArray} (h : Arg w ao n c xs) : Txt w (.slice ao n c) xs := by
  cases xs with
  | nil => exact .inl ⟨rfl, ao, c, by rw [← h.len]; rfl⟩
  | cons x r =>
    cases ao with
    | none => have h1 := (h.none rfl).1; have h2 := h.len; rw [h1] at h2; simp at h2
    | some ad =>
      have h0 := h.cell ad rfl 0 (.string x) rfl
      rw [add_zero'] at h0
      obtain ⟨e, hlt⟩ := addr_plain h0
      refine .inr ⟨ad.block, ad.off, c, by rw [h.len, ← e], by rw [h.len]; exact h.cap, hlt, fun j y hy => ?_⟩
      have h1 := h.cell ad rfl j (.string y) (by rw [List.getElem?_map, hy]; rfl)
      rw [e, add_plain] at h1
      exact h1
theorem Arg.below {w w' : World} {ao : Option Addr} {n c : Nat} {xs : List ByteArray} (h : Arg w ao n c xs) (hb : Below w.heap.size w w') : Arg w' ao n c xs :=
  ⟨h.len, h.none, h.cap, fun ad e j u hu => by
    have h1 := h.cell ad e j u hu
    rw [hb.cell (addr_plain h1).2]; exact h1⟩

/-- Are texts too many, or too long? -/
def greatV (xs : List ByteArray) : Bool := decide (14 < xs.length) || xs.any fun x => decide (100 < x.size)

set_option maxHeartbeats 400000 in
theorem great_many (ao : Option Addr) (n c : Nat) (w : World) (h : 14 < n) (hm : n ≤ maxLen) :
    Calls Tryz.prog 22 #[.slice ao n c, .int .i64 14, .int .i64 100] w fun e w' => e = .returned (.bool true) ∧ w' = w := by
  unfold maxLen at hm
  have h' : (14 : Int) < (n : Int) := by omega
  go_enter Tryz.func22, Tryz.ntmps22
  go_wp2
  go_loop [7] (fun i => i = .int .i64 0) (fun _ => 0)
  case atStart => rfl
  case round =>
    subst hrel
    have h2 : (0 : Int) < (n : Int) := by omega
    go_wp2
    go_ret
    exact ⟨rfl, rfl⟩
set_option maxHeartbeats 400000 in
theorem great_none (ao : Option Addr) (c : Nat) (w : World) :
    Calls Tryz.prog 22 #[.slice ao 0 c, .int .i64 14, .int .i64 100] w fun e w' => e = .returned (.bool false) ∧ w' = w := by
  go_enter Tryz.func22, Tryz.ntmps22
  go_wp2
  go_loop [7] (fun i => i = .int .i64 0) (fun _ => 0)
  case atStart => rfl
  case round =>
    subst hrel
    go_wp2
    go_ret
    exact ⟨rfl, rfl⟩
theorem any_fall {xs : List ByteArray} {k : Nat} {x : ByteArray} (hx : xs[k]? = some x) (h : 100 < x.size) : greatV xs = true := by
  unfold greatV
  rw [Bool.or_eq_true]
  exact .inr (List.any_eq_true.2 ⟨x, List.mem_of_getElem? hx, by simpa using h⟩)
theorem any_step {xs : List ByteArray} {k : Nat} {x : ByteArray} (hx : xs[k]? = some x) (h : ¬ 100 < x.size) (ha : (xs.take k).any (fun x => decide (100 < x.size)) = false) : (xs.take (k + 1)).any (fun x => decide (100 < x.size)) = false := by
  obtain ⟨hk, rfl⟩ := List.getElem?_eq_some_iff.1 hx
  rw [List.take_succ_eq_append_getElem hk, List.any_append, ha]
  simpa using h
set_option maxHeartbeats 400000 in
theorem great_few (b o c : Nat) (xs : List ByteArray) (w : World) (h : xs.length ≤ 14) (hcell : ∀ (j : Nat) x, xs[j]? = some x → w.cell? ⟨b, o + j, none⟩ = some (.string x)) :
    Calls Tryz.prog 22 #[.slice (some ⟨b, o, none⟩) xs.length c, .int .i64 14, .int .i64 100] w fun e w' => e = .returned (.bool (greatV xs)) ∧ w' = w := by
  obtain ⟨n, hn⟩ : ∃ n, n = xs.length := ⟨_, rfl⟩
  have HC := hide hcell
  have HN := hide hn
  rw [← hn] at h ⊢
  have h' : (n : Int) ≤ 14 := by omega
  clear hcell hn
  go_enter Tryz.func22, Tryz.ntmps22
  go_wp2
  go_loop [7] (fun i => ∃ k : Nat, k ≤ n ∧ i = .int .i64 k ∧ Hid ((xs.take k).any (fun x => decide (100 < x.size)) = false)) (fun i => n - (intOf i).toNat)
  case atStart => exact ⟨0, Nat.zero_le _, rfl, rfl⟩
  case round =>
    obtain ⟨k, hk, rfl, ha⟩ := hrel
    by_cases hlt : k < n
    · obtain ⟨x, hx⟩ : ∃ x, xs[k]? = some x := ⟨xs[k]'(by have := HN.out; omega), List.getElem?_eq_some_iff.2 ⟨_, rfl⟩⟩
      have hc := HC.out k x hx
      have HX := hide hx
      clear hx
      by_cases hz : 100 < x.size
      · have hz' : (100 : Int) < (x.size : Int) := by omega
        go_wp2
        go_ret
        exact ⟨ret_bool (any_fall HX.out hz).symm, rfl⟩
      · have hz' : (x.size : Int) ≤ 100 := by omega
        go_wp2
        go_round
        case rel => exact ⟨k + 1, by omega, by go_num, any_step HX.out hz ha.out⟩
        case measure => simp [intOf]; omega
    · go_wp2
      go_ret
      refine ⟨ret_bool ?_, rfl⟩
      have e : k = xs.length := by have := HN.out; omega
      have h1 := ha.out
      rw [e, List.take_length] at h1
      unfold greatV
      rw [h1, Bool.or_false, ← HN.out]
      rw [Bool.eq_iff_iff]
      simp only [decide_eq_true_eq]
      omega
theorem great_ok (ao : Option Addr) (n c : Nat) (xs : List ByteArray) (b : Bool) (w : World) (h : Arg w ao n c xs) (hm : n ≤ maxLen) (hv : greatV xs = b) :
    Calls Tryz.prog 22 #[.slice ao n c, .int .i64 14, .int .i64 100] w fun e w' => e = .returned (.bool b) ∧ w' = w := by
  subst hv
  by_cases hn : 14 < n
  · have e : greatV xs = true := by unfold greatV; rw [h.len, decide_eq_true hn, Bool.true_or]
    rw [e]
    exact great_many ao n c w hn hm
  · have hl := h.len
    rcases h.txt with ⟨e, a, c', hv⟩ | ⟨b, o, c', hv, _, _, hcell⟩
    · subst e
      simp at hl
      subst hl
      exact great_none ao c w
    · rw [hv]
      exact great_few b o c' xs w (by omega) hcell
end Go.Proofs.YtmlkknbndglgaaaGreatDoor
