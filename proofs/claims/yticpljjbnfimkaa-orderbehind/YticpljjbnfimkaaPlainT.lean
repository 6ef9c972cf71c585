/- Plain facts on the order of texts as bytes. Nothing here names the program. -/
import Derived.Test.YticpljjbnfimkaaPlain2
import Derived.Lib.Bytealg
namespace Go.Proofs.Yticpljjbnfimkaa.Hog
open Go

theorem less_irr : ∀ a : List UInt8, Op.bytesLess a a = false
  | [] => rfl
  | c :: r => by simp [Op.bytesLess, less_irr r]
theorem less_trans : ∀ {a b c : List UInt8}, Op.bytesLess a b = true → Op.bytesLess b c = true → Op.bytesLess a c = true
  | a, b, [], _, h => by cases b <;> simp [Op.bytesLess] at h
  | [], b, _ :: _, _, _ => rfl
  | x :: a, [], z :: c, h, _ => by simp [Op.bytesLess] at h
  | x :: a, y :: b, z :: c, h, k => by
    simp only [Op.bytesLess, Bool.or_eq_true, Bool.and_eq_true, decide_eq_true_eq, beq_iff_eq] at h k ⊢
    rcases h with h | ⟨rfl, h⟩
    · rcases k with k | ⟨rfl, k⟩
      · exact .inl (UInt8.lt_trans h k)
      · exact .inl h
    · rcases k with k | ⟨rfl, k⟩
      · exact .inl k
      · exact .inr ⟨rfl, less_trans h k⟩
theorem less_asymm {a b : List UInt8} (h : Op.bytesLess a b = true) : Op.bytesLess b a = false := by
  cases k : Op.bytesLess b a with
  | false => rfl
  | true => have := less_trans h k; rw [less_irr] at this; cases this
theorem less_three : ∀ a b : List UInt8, Op.bytesLess a b = true ∨ a = b ∨ Op.bytesLess b a = true
  | [], [] => .inr (.inl rfl)
  | [], _ :: _ => .inl rfl
  | _ :: _, [] => .inr (.inr rfl)
  | x :: a, y :: b => by
    by_cases h : x < y
    · exact .inl (by simp [Op.bytesLess, h])
    · by_cases k : y < x
      · exact .inr (.inr (by simp [Op.bytesLess, k]))
      · have e : x = y := UInt8.le_antisymm (UInt8.not_lt.1 k) (UInt8.not_lt.1 h)
        subst e
        rcases less_three a b with h | h | h
        · exact .inl (by simp [Op.bytesLess, h])
        · exact .inr (.inl (by rw [h]))
        · exact .inr (.inr (by simp [Op.bytesLess, h]))
theorem cmp_cases : ∀ a b : List UInt8, (Lib.compareBytes a b = -1 ∧ Op.bytesLess a b = true) ∨ (Lib.compareBytes a b = 0 ∧ a = b) ∨ (Lib.compareBytes a b = 1 ∧ Op.bytesLess b a = true)
  | [], [] => .inr (.inl ⟨rfl, rfl⟩)
  | [], _ :: _ => .inl ⟨rfl, rfl⟩
  | _ :: _, [] => .inr (.inr ⟨rfl, rfl⟩)
  | x :: a, y :: b => by
    by_cases h : x < y
    · exact .inl (by simp [Op.bytesLess, Lib.compareBytes, h])
    · by_cases k : y < x
      · exact .inr (.inr (by simp [Op.bytesLess, Lib.compareBytes, k, h]))
      · have e : x = y := UInt8.le_antisymm (UInt8.not_lt.1 k) (UInt8.not_lt.1 h)
        subst e
        rcases cmp_cases a b with ⟨h1, h2⟩ | ⟨h1, h2⟩ | ⟨h1, h2⟩
        · exact .inl (by simp [Op.bytesLess, Lib.compareBytes, h1, h2])
        · exact .inr (.inl (by simp [Lib.compareBytes, h2]; rw [← h2]; exact h2 ▸ h1))
        · exact .inr (.inr (by simp [Op.bytesLess, Lib.compareBytes, h1, h2]))
theorem cmp_neg (a b : List UInt8) : Lib.compareBytes a b < 0 ↔ Op.bytesLess a b = true := by
  rcases cmp_cases a b with ⟨h1, h2⟩ | ⟨h1, h2⟩ | ⟨h1, h2⟩
  · rw [h1, h2]; simp
  · rw [h1, h2, less_irr]; simp
  · rw [h1, less_asymm h2]; simp
theorem cmp_zero (a b : List UInt8) : Lib.compareBytes a b = 0 ↔ a = b := by
  rcases cmp_cases a b with ⟨h1, h2⟩ | ⟨h1, h2⟩ | ⟨h1, h2⟩
  · rw [h1]
    exact ⟨fun h => by simp at h, fun h => by rw [h, less_irr] at h2; cases h2⟩
  · rw [h1, h2]; simp
  · rw [h1]
    exact ⟨fun h => by simp at h, fun h => by rw [h, less_irr] at h2; cases h2⟩
theorem cmp_bounds (a b : List UInt8) : -1 ≤ Lib.compareBytes a b ∧ Lib.compareBytes a b ≤ 1 := by
  rcases cmp_cases a b with ⟨h1, _⟩ | ⟨h1, _⟩ | ⟨h1, _⟩ <;> rw [h1] <;> decide
theorem less_ne {a b : List UInt8} (h : Op.bytesLess a b = true) : a ≠ b := by
  rintro rfl
  rw [less_irr] at h
  cases h
theorem not_less_iff {a b : List UInt8} : Op.bytesLess a b = false ↔ a = b ∨ Op.bytesLess b a = true := by
  rcases less_three a b with h | h | h
  · simp [h, less_asymm h, less_ne h]
  · subst h; simp [less_irr]
  · simp [h, less_asymm h]

end Go.Proofs.Yticpljjbnfimkaa.Hog
