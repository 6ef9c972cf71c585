/- The walk of the document's own has, chapter 10. -/
import Derived.Test.YticpljjbnfimkaaHas
import Derived.Test.YticpljjbnfimkaaK8
namespace Go.Proofs.Yticpljjbnfimkaa
open Go.RowKit

theorem xhas_step {xs : List ByteArray} {k : Nat} {y x : ByteArray} (hy : xs[k]? = some y) (hne : y ≠ x) (ha : hasB (xs.take k) x = false) : hasB (xs.take (k + 1)) x = false := by
  obtain ⟨hk, rfl⟩ := List.getElem?_eq_some_iff.1 hy
  unfold hasB at ha ⊢
  rw [List.take_succ_eq_append_getElem hk, List.any_append, ha]
  simpa using hne
set_option maxRecDepth 100000 in
set_option maxHeartbeats 800000 in
theorem xhas_some (b o c n : Nat) (xs : List ByteArray) (x : ByteArray) (w : World) (hn : n = xs.length) (h9 : n < 900000) (hx : ∀ (j : Nat) y, xs[j]? = some y → w.cell? ⟨b, o + j, none⟩ = some (.string y)) :
    Calls Try.prog 23 #[.slice (some ⟨b, o, none⟩) n c, .string x] w fun e w' => e = .returned (.bool (hasB xs x)) ∧ w' = w := by
  have HX := hide hx
  have HN := hide hn
  clear hx hn
  go_enter Try.func23, Try.ntmps23
  go_wp2
  go_loop [5] (fun i => ∃ k : Nat, k ≤ n ∧ i = .int .i64 k ∧ Hid (hasB (xs.take k) x = false)) (fun i => n - (intOf i).toNat)
  case atStart => exact ⟨0, Nat.zero_le _, rfl, rfl⟩
  case round =>
    obtain ⟨k, hk, rfl, ha⟩ := hrel
    by_cases hlt : k < n
    · obtain ⟨y, hy⟩ : ∃ y, xs[k]? = some y := ⟨xs[k]'(by have := HN.out; omega), List.getElem?_eq_some_iff.2 ⟨_, rfl⟩⟩
      have hcell := HX.out k y hy
      have HY := hide hy
      have hki : (k : Int) < (n : Int) := by omega
      clear hy
      by_cases hyx : y = x
      · have hq : (y.toList == x.toList) = true := by rw [hyx]; exact beq_self_eq_true _
        have HE : Hid (hasB xs x = true) := has_iff.2 (by rw [← hyx]; exact List.mem_of_getElem? HY.out)
        clear hyx
        go_wp2
        go_ret
        exact ⟨ret_bool HE.out.symm, rfl⟩
      · have hq : (y.toList == x.toList) = false := by
          rw [beq_eq_false_iff_ne]; exact fun e => hyx (bytes_eq.2 e)
        have HST := hide (xhas_step HY.out hyx ha.out)
        clear hyx
        go_wp2
        go_round
        case rel => exact ⟨k + 1, by omega, by go_num, HST⟩
        case measure => simp [intOf]; omega
    · have hki : (n : Int) ≤ (k : Int) := by omega
      have HE : Hid (hasB xs x = false) := by
        have h1 := ha.out
        rw [List.take_of_length_le (by have := HN.out; omega)] at h1
        exact h1
      go_wp2
      go_ret
      exact ⟨ret_bool HE.out.symm, rfl⟩
set_option maxRecDepth 100000 in
set_option maxHeartbeats 400000 in
theorem xhas_none (a : Option Addr) (c : Nat) (x : ByteArray) (w : World) :
    Calls Try.prog 23 #[.slice a 0 c, .string x] w fun e w' => e = .returned (.bool false) ∧ w' = w := by
  go_enter Try.func23, Try.ntmps23
  go_wp2
  go_loop [5] (fun i => i = .int .i64 0) (fun _ => 0)
  case atStart => rfl
  case round =>
    subst hrel
    go_wp2
    go_ret
    exact ⟨rfl, rfl⟩
theorem xhas_ok (v : Value) (xs : List ByteArray) (x : ByteArray) (r : Bool) (w : World) (h : Txt w v xs) (h9 : xs.length < 900000) (hr : hasB xs x = r) :
    Calls Try.prog 23 #[v, .string x] w fun e w' => e = .returned (.bool r) ∧ w' = w := by
  subst hr
  rcases h with ⟨rfl, a, c, rfl⟩ | ⟨b, o, c, rfl, _, _, hcell⟩
  · exact xhas_none a c x w
  · exact xhas_some b o c xs.length xs x w rfl h9 hcell
end Go.Proofs.Yticpljjbnfimkaa
