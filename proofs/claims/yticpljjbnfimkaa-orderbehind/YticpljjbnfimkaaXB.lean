/- The walks of the statements' own GreatTexts (of so many, so long), GreatItems, SameItems. -/
import Derived.Test.YticpljjbnfimkaaK8
import Derived.Test.YticpljjbnfimkaaX9
import Derived.BigQuiet
namespace Go.Proofs.Yticpljjbnfimkaa
open Go.RowKit

/-- Are texts too many, or too long? -/
def greatT (m l : Int) (xs : List ByteArray) : Bool := decide (m < (xs.length : Int)) || xs.any fun x => decide (l < (x.size : Int))
theorem greatT_fall {m l : Int} {xs : List ByteArray} {k : Nat} {x : ByteArray} (hx : xs[k]? = some x) (h : l < (x.size : Int)) : greatT m l xs = true := by
  unfold greatT
  rw [Bool.or_eq_true]
  exact .inr (List.any_eq_true.2 ⟨x, List.mem_of_getElem? hx, by simpa using h⟩)
theorem anyT_step {l : Int} {xs : List ByteArray} {k : Nat} {x : ByteArray} (hx : xs[k]? = some x) (h : ¬ l < (x.size : Int)) (ha : (xs.take k).any (fun x => decide (l < (x.size : Int))) = false) : (xs.take (k + 1)).any (fun x => decide (l < (x.size : Int))) = false := by
  obtain ⟨hk, rfl⟩ := List.getElem?_eq_some_iff.1 hx
  rw [List.take_succ_eq_append_getElem hk, List.any_append, ha]
  simpa using h
theorem greatT_not {m l : Int} {xs : List ByteArray} (h : greatT m l xs = false) : (xs.length : Int) ≤ m ∧ ∀ x ∈ xs, (x.size : Int) ≤ l := by
  unfold greatT at h
  rw [Bool.or_eq_false_iff] at h
  refine ⟨by have := h.1; simp at this; omega, fun x hx => ?_⟩
  have h2 := List.any_eq_false.1 h.2 x hx
  simp at h2
  omega

set_option maxHeartbeats 400000 in
theorem greatT_many (ao : Option Addr) (n c : Nat) (m l : Int) (w : World) (h : m < (n : Int)) (h0 : 0 ≤ m) (h1 : m ≤ 1000) (hm : n ≤ maxLen) :
    Calls Try.prog 19 #[.slice ao n c, .int .i64 m, .int .i64 l] w fun e w' => e = .returned (.bool true) ∧ w' = w := by
  unfold maxLen at hm
  go_enter Try.func19, Try.ntmps19
  go_wp2
  go_loop [7] (fun i => i = .int .i64 0) (fun _ => 0)
  case atStart => rfl
  case round =>
    subst hrel
    have h2 : (0 : Int) < (n : Int) := by omega
    go_wp2
    go_ret
    exact ⟨rfl, rfl⟩
set_option maxHeartbeats 400000 in
theorem greatT_none (ao : Option Addr) (c : Nat) (m l : Int) (w : World) (h0 : 0 ≤ m) (h1 : m ≤ 1000) :
    Calls Try.prog 19 #[.slice ao 0 c, .int .i64 m, .int .i64 l] w fun e w' => e = .returned (.bool false) ∧ w' = w := by
  go_enter Try.func19, Try.ntmps19
  go_wp2
  go_loop [7] (fun i => i = .int .i64 0) (fun _ => 0)
  case atStart => rfl
  case round =>
    subst hrel
    go_wp2
    go_ret
    exact ⟨ret_bool (decide_eq_false (by omega)), rfl⟩
set_option maxHeartbeats 400000 in
theorem greatT_few (b o c n : Nat) (m l : Int) (xs : List ByteArray) (w : World) (hn : n = xs.length) (hl : (n : Int) ≤ m) (h1 : m ≤ 1000) (hcell : ∀ (j : Nat) x, xs[j]? = some x → w.cell? ⟨b, o + j, none⟩ = some (.string x)) :
    Calls Try.prog 19 #[.slice (some ⟨b, o, none⟩) n c, .int .i64 m, .int .i64 l] w fun e w' => e = .returned (.bool (greatT m l xs)) ∧ w' = w := by
  have HC := hide hcell
  have HN := hide hn
  clear hcell hn
  go_enter Try.func19, Try.ntmps19
  go_wp2
  go_loop [7] (fun i => ∃ k : Nat, k ≤ n ∧ i = .int .i64 k ∧ Hid ((xs.take k).any (fun x => decide (l < (x.size : Int))) = false)) (fun i => n - (intOf i).toNat)
  case atStart => exact ⟨0, Nat.zero_le _, rfl, rfl⟩
  case round =>
    obtain ⟨k, hk, rfl, ha⟩ := hrel
    by_cases hlt : k < n
    · obtain ⟨x, hx⟩ : ∃ x, xs[k]? = some x := ⟨xs[k]'(by have := HN.out; omega), List.getElem?_eq_some_iff.2 ⟨_, rfl⟩⟩
      have hc := HC.out k x hx
      have HX := hide hx
      clear hx
      by_cases hz : l < (x.size : Int)
      · go_wp2
        go_ret
        exact ⟨ret_bool (greatT_fall HX.out hz).symm, rfl⟩
      · have hz' : (x.size : Int) ≤ l := by omega
        go_wp2
        go_round
        case rel => exact ⟨k + 1, by omega, by go_num, anyT_step HX.out hz ha.out⟩
        case measure => simp [intOf]; omega
    · go_wp2
      go_ret
      refine ⟨ret_bool ?_, rfl⟩
      have e : k = xs.length := by have := HN.out; omega
      have h1 := ha.out
      rw [e, List.take_length] at h1
      unfold greatT
      rw [h1, Bool.or_false, ← HN.out]
theorem greatT_ok (v : Value) (m l : Int) (xs : List ByteArray) (r : Bool) (w : World) (h : Txt w v xs) (hm : xs.length ≤ maxLen) (h0 : 0 ≤ m) (h1 : m ≤ 1000) (hv : greatT m l xs = r) :
    Calls Try.prog 19 #[v, .int .i64 m, .int .i64 l] w fun e w' => e = .returned (.bool r) ∧ w' = w := by
  subst hv
  by_cases hn : m < (xs.length : Int)
  · have e : greatT m l xs = true := by unfold greatT; rw [decide_eq_true hn, Bool.true_or]
    rw [e]
    obtain ⟨a, c, rfl⟩ := h.form
    exact greatT_many a xs.length c m l w hn h0 h1 hm
  · rcases h with ⟨rfl, a, c, rfl⟩ | ⟨b, o, c, rfl, _, _, hcell⟩
    · have e : greatT m l [] = false := by unfold greatT; rw [decide_eq_false (by simpa using h0)]; rfl
      rw [e]
      exact greatT_none a c m l w h0 h1
    · exact greatT_few b o c xs.length m l xs w rfl (by omega) h1 hcell
end Go.Proofs.Yticpljjbnfimkaa
