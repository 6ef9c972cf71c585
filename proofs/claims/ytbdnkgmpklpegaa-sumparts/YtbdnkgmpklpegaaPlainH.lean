/- Sums, plainly: one step, a sum of bytes, digits; that steps are one to one, and digits keep the order. Nothing here names the program. -/
import Derived.Test.YtbdnkgmpklpegaaK1
import GoSem.Op.String
namespace Go.Proofs.Ytbdnkgmpklpegaa

def nextH (h : Nat) (b : UInt8) : Nat := (h ^^^ b.toNat) * 1099511628211 % 18446744073709551616
def sumH (h : Nat) (l : List UInt8) : Nat := l.foldl nextH h
def ofH (l : List UInt8) : Nat := sumH 14695981039346656037 l

theorem nextH_lt (h : Nat) (b : UInt8) : nextH h b < 18446744073709551616 := Nat.mod_lt _ (by decide)
theorem sumH_nil (h : Nat) : sumH h [] = h := rfl
theorem sumH_cons (h : Nat) (b : UInt8) (l : List UInt8) : sumH h (b :: l) = sumH (nextH h b) l := rfl
theorem sumH_app (h : Nat) (a b : List UInt8) : sumH h (a ++ b) = sumH (sumH h a) b := List.foldl_append
theorem sumH_step {h k : Nat} {l : List UInt8} {x : UInt8} (hx : l[k]? = some x) : sumH h (l.take (k + 1)) = nextH (sumH h (l.take k)) x := by
  obtain ⟨h1, rfl⟩ := List.getElem?_eq_some_iff.1 hx
  rw [List.take_succ_eq_append_getElem h1, sumH_app, sumH_cons, sumH_nil]
theorem sumH_lt : ∀ {h : Nat} (l : List UInt8), h < 18446744073709551616 → sumH h l < 18446744073709551616
  | _, [], hh => hh
  | h, b :: l, _ => sumH_lt l (nextH_lt h b)
theorem ofH_lt (l : List UInt8) : ofH l < 18446744073709551616 := sumH_lt l (by decide)

theorem mul_back (x : Nat) (hx : x < 18446744073709551616) : x * 1099511628211 % 18446744073709551616 * 14886173955864302971 % 18446744073709551616 = x := by omega
theorem xor_lt64 {h : Nat} (b : UInt8) (hh : h < 18446744073709551616) : h ^^^ b.toNat < 18446744073709551616 := by
  have h1 : b.toNat < 2 ^ 64 := Nat.lt_of_lt_of_le b.toNat_lt (by decide)
  exact Nat.xor_lt_two_pow (n := 64) hh h1
theorem next_xor {h g : Nat} {b c : UInt8} (hh : h < 18446744073709551616) (hg : g < 18446744073709551616) (e : nextH h b = nextH g c) : h ^^^ b.toNat = g ^^^ c.toNat := by
  rw [← mul_back _ (xor_lt64 b hh), ← mul_back _ (xor_lt64 c hg)]
  unfold nextH at e
  rw [e]
theorem xor_back (h b : Nat) : h ^^^ b ^^^ b = h := by rw [Nat.xor_assoc, Nat.xor_self, Nat.xor_zero]
theorem next_inj {h g : Nat} {b : UInt8} (hh : h < 18446744073709551616) (hg : g < 18446744073709551616) (e : nextH h b = nextH g b) : h = g := by
  rw [← xor_back h b.toNat, next_xor hh hg e, xor_back]
theorem next_byte {h : Nat} {b c : UInt8} (hh : h < 18446744073709551616) (e : nextH h b = nextH h c) : b = c := by
  have k := next_xor hh hh e
  have : b.toNat = c.toNat := by
    rw [← xor_back b.toNat h, Nat.xor_comm b.toNat h, k, Nat.xor_comm h, xor_back]
  exact UInt8.toNat_inj.1 this
theorem sum_inj : ∀ (l : List UInt8) {h g : Nat}, h < 18446744073709551616 → g < 18446744073709551616 → sumH h l = sumH g l → h = g
  | [], _, _, _, _, e => e
  | b :: l, h, g, hh, hg, e => next_inj hh hg (sum_inj l (nextH_lt h b) (nextH_lt g b) e)
/-- With one byte another one a sum is another one. -/
theorem sum_turned {l : List UInt8} {k : Nat} {x y : UInt8} (hx : l[k]? = some x) (hy : x ≠ y) : ofH l ≠ ofH (l.set k y) := by
  obtain ⟨hk, rfl⟩ := List.getElem?_eq_some_iff.1 hx
  have e1 : l = l.take k ++ l[k] :: l.drop (k + 1) := by rw [List.getElem_cons_drop, List.take_append_drop]
  have e2 : l.set k y = l.take k ++ y :: l.drop (k + 1) := List.set_eq_take_append_cons_drop.trans (if_pos hk)
  intro e
  rw [e2] at e
  conv at e => lhs; rw [e1]
  unfold ofH at e
  rw [sumH_app, sumH_app, sumH_cons, sumH_cons] at e
  have hs : sumH 14695981039346656037 (l.take k) < 18446744073709551616 := sumH_lt _ (by decide)
  exact hy (next_byte hs (sum_inj _ (nextH_lt _ _) (nextH_lt _ _) e))
theorem sum_flat (h : Nat) (ls : List (List UInt8)) {k : Nat} {l : List UInt8} (hl : ls[k]? = some l) : sumH h (ls.take (k + 1)).flatten = sumH (sumH h (ls.take k).flatten) l := by
  obtain ⟨h1, rfl⟩ := List.getElem?_eq_some_iff.1 hl
  rw [List.take_succ_eq_append_getElem h1, List.flatten_append, sumH_app]
  simp

/-- A digit of base 16, and the n last digits of a number. -/
def hexD (d : Nat) : UInt8 := if d < 10 then UInt8.ofNat (48 + d) else UInt8.ofNat (87 + d)
def digL : Nat → Nat → List UInt8
  | 0, _ => []
  | n + 1, h => digL n (h / 16) ++ [hexD (h % 16)]
def hexL (h : Nat) : List UInt8 := digL 16 h
theorem digL_len : ∀ n h, (digL n h).length = n
  | 0, _ => rfl
  | n + 1, h => by rw [digL, List.length_append, digL_len n]; rfl
theorem hexL_len (h : Nat) : (hexL h).length = 16 := digL_len 16 h
theorem digL_head : ∀ n h, digL (n + 1) h = hexD (h / 16 ^ n % 16) :: digL n h
  | 0, h => by simp [digL]
  | n + 1, h => by
    rw [digL, digL_head n (h / 16), digL, Nat.div_div_eq_div_mul, Nat.pow_succ, Nat.mul_comm 16 (16 ^ n)]
    simp
theorem hexD_less : ∀ d < 16, ∀ e < 16, decide (hexD d < hexD e) = decide (d < e) := by decide
theorem hexD_same : ∀ d < 16, ∀ e < 16, decide (hexD d = hexD e) = decide (d = e) := by decide
theorem less_snoc : ∀ (a b : List UInt8) (x y : UInt8), a.length = b.length → Op.bytesLess (a ++ [x]) (b ++ [y]) = (Op.bytesLess a b || (decide (a = b) && decide (x < y)))
  | [], [], x, y, _ => by simp [Op.bytesLess]
  | c :: a, d :: b, x, y, h => by
    have ih := less_snoc a b x y (by simpa using h)
    simp only [List.cons_append, Op.bytesLess, ih]
    by_cases e : c = d
    · subst e
      have : ¬ c < c := UInt8.lt_irrefl c
      simp [this]
    · have e2 : (c == d) = false := by simp [e]
      simp [e, e2]
theorem snoc_same (a b : List UInt8) (x y : UInt8) : (a ++ [x] = b ++ [y]) ↔ (a = b ∧ x = y) := by
  constructor
  · intro e
    have := List.append_inj' e rfl
    exact ⟨this.1, by simpa using this.2⟩
  · rintro ⟨rfl, rfl⟩; rfl
theorem dig_same : ∀ n g h, g < 16 ^ n → h < 16 ^ n → (digL n g = digL n h ↔ g = h)
  | 0, g, h, hg, hh => by simp [digL]; simp at hg hh; omega
  | n + 1, g, h, hg, hh => by
    have hp : 16 ^ (n + 1) = 16 ^ n * 16 := Nat.pow_succ _ _
    have hd := hexD_same (g % 16) (Nat.mod_lt _ (by decide)) (h % 16) (Nat.mod_lt _ (by decide))
    rw [decide_eq_decide] at hd
    rw [digL, digL, snoc_same, dig_same n (g / 16) (h / 16) (by omega) (by omega), hd]
    omega
theorem dig_less : ∀ n g h, g < 16 ^ n → h < 16 ^ n → Op.bytesLess (digL n g) (digL n h) = decide (g < h)
  | 0, g, h, hg, hh => by simp at hg hh; subst hg; subst hh; rfl
  | n + 1, g, h, hg, hh => by
    have hp : 16 ^ (n + 1) = 16 ^ n * 16 := Nat.pow_succ _ _
    rw [digL, digL, less_snoc _ _ _ _ (by rw [digL_len, digL_len]), dig_less n (g / 16) (h / 16) (by omega) (by omega),
      hexD_less (g % 16) (Nat.mod_lt _ (by decide)) (h % 16) (Nat.mod_lt _ (by decide)), Bool.eq_iff_iff]
    have := dig_same n (g / 16) (h / 16) (by omega) (by omega)
    simp only [Bool.or_eq_true, Bool.and_eq_true, decide_eq_true_eq, this]
    omega
theorem hex_same {g h : Nat} (hg : g < 18446744073709551616) (hh : h < 18446744073709551616) : hexL g = hexL h ↔ g = h := dig_same 16 g h (by simpa using hg) (by simpa using hh)
theorem hex_less {g h : Nat} (hg : g < 18446744073709551616) (hh : h < 18446744073709551616) : Op.bytesLess (hexL g) (hexL h) = decide (g < h) := dig_less 16 g h (by simpa using hg) (by simpa using hh)
theorem hex_none : hexL (ofH []) = [99, 98, 102, 50, 57, 99, 101, 52, 56, 52, 50, 50, 50, 51, 50, 53] := by decide +kernel
theorem hex_a : hexL (ofH [97]) = [97, 102, 54, 51, 100, 99, 52, 99, 56, 54, 48, 49, 101, 99, 56, 99] := by decide +kernel
end Go.Proofs.Ytbdnkgmpklpegaa
