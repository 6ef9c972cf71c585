/- Decimal digits read back, plainly. Nothing here names the program. -/
import Derived.Test.YtecjkkipglldlaaGreatDoorPlainJ
namespace Go.Proofs.YtecjkkipglldlaaGreatDoor.Hog
open Go
/-- The number of these decimal digits. -/
def valD (l : List UInt8) : Nat := l.foldl (fun a c => a * 10 + (c.toNat - 48)) 0
theorem valD_nil : valD [] = 0 := rfl
theorem valD_snoc (l : List UInt8) (c : UInt8) : valD (l ++ [c]) = valD l * 10 + (c.toNat - 48) := by unfold valD; rw [List.foldl_append]; rfl
theorem valD_step {l : List UInt8} {k : Nat} {x : UInt8} (hx : l[k]? = some x) : valD (l.take (k + 1)) = valD (l.take k) * 10 + (x.toNat - 48) := by
  obtain ⟨h1, rfl⟩ := List.getElem?_eq_some_iff.1 hx
  rw [List.take_succ_eq_append_getElem h1, valD_snoc]
theorem dig_byte {n : Nat} (h : n < 10) : (UInt8.ofNat (48 + n)).toNat = 48 + n := by rw [UInt8.toNat_ofNat']; omega
theorem valD_dec (n : Nat) : valD (decL n) = n := by
  induction n using Nat.strongRecOn with
  | _ n ih =>
    by_cases h : n < 10
    · rw [decL_one h]
      have := valD_snoc [] (UInt8.ofNat (48 + n))
      rw [List.nil_append, dig_byte h] at this
      rw [this, valD_nil]; omega
    · rw [decL_more h, valD_snoc, ih (n / 10) (by omega), dig_byte (Nat.mod_lt _ (by decide))]; omega
theorem dec_digits (n : Nat) : ∀ c ∈ decL n, 48 ≤ c.toNat ∧ c.toNat ≤ 57 := by
  induction n using Nat.strongRecOn with
  | _ n ih =>
    intro c hc
    by_cases h : n < 10
    · rw [decL_one h, List.mem_singleton] at hc
      subst hc
      rw [dig_byte h]; omega
    · rw [decL_more h, List.mem_append, List.mem_singleton] at hc
      rcases hc with hc | rfl
      · exact ih (n / 10) (by omega) c hc
      · rw [dig_byte (Nat.mod_lt _ (by decide))]; omega
theorem dec_first (n : Nat) (h0 : 0 < n) : ∃ c r, decL n = c :: r ∧ c.toNat ≠ 48 := by
  induction n using Nat.strongRecOn with
  | _ n ih =>
    by_cases h : n < 10
    · exact ⟨_, [], decL_one h, by rw [dig_byte h]; omega⟩
    · obtain ⟨c, r, e, hc⟩ := ih (n / 10) (by omega) (by omega)
      exact ⟨c, r ++ [UInt8.ofNat (48 + n % 10)], by rw [decL_more h, e]; rfl, hc⟩
theorem valD_lt (l : List UInt8) : (∀ c ∈ l, c.toNat ≤ 57) → valD l < 10 ^ l.length := by
  intro h
  have key : ∀ (l : List UInt8) (a : Nat), (∀ c ∈ l, c.toNat ≤ 57) → l.foldl (fun a c => a * 10 + (c.toNat - 48)) a < (a + 1) * 10 ^ l.length := by
    intro l
    induction l with
    | nil => intro a _; simp
    | cons c l ih =>
      intro a h
      have h1 := ih (a * 10 + (c.toNat - 48)) (fun x hx => h x (List.mem_cons_of_mem _ hx))
      have h2 := h c (by simp)
      rw [List.foldl_cons, List.length_cons, Nat.pow_succ]
      have h3 : (a * 10 + (c.toNat - 48) + 1) * 10 ^ l.length ≤ ((a + 1) * 10) * 10 ^ l.length := Nat.mul_le_mul_right _ (by omega)
      rw [Nat.mul_assoc (a + 1) 10, Nat.mul_comm 10] at h3
      omega
  have := key l 0 h
  unfold valD
  omega
end Go.Proofs.YtecjkkipglldlaaGreatDoor.Hog
