/- Headers, plainly: digits of base 8, texts laid at places, sums; what is read of them. Nothing here names the program. -/
import Derived.Test.YtecjkkipglldlaaGreatDoorJ1
import Derived.Laws.CopyOwn
namespace Go.Proofs.YtecjkkipglldlaaGreatDoor.Hog
open Go

/-- The digit of a number below 8. -/
def d8 (d : Nat) : UInt8 := UInt8.ofNat (48 + d)
theorem d8_val {d : Nat} (h : d < 8) : (d8 d).toNat = 48 + d := by unfold d8; rw [UInt8.toNat_ofNat']; omega
/-- The last k digits of n, in base 8. -/
def octL : Nat → Nat → List UInt8
  | 0, _ => []
  | k + 1, n => d8 (n / 8 ^ k % 8) :: octL k n
theorem octL_len : ∀ k n, (octL k n).length = k
  | 0, _ => rfl
  | k + 1, n => by rw [octL, List.length_cons, octL_len k n]
def dig (c : UInt8) : Bool := decide (48 ≤ c.toNat) && decide (c.toNat < 56)
theorem dig_d8 {d : Nat} (h : d < 8) : dig (d8 d) = true := by unfold dig; rw [d8_val h]; simp; omega
theorem dig_range {c : UInt8} (h : dig c = true) : 48 ≤ c.toNat ∧ c.toNat < 56 := by unfold dig at h; simpa using h
/-- The number of these digits. -/
def numF (a : Nat) (l : List UInt8) : Nat := l.foldl (fun a c => a * 8 + (c.toNat - 48)) a
def numO (l : List UInt8) : Nat := numF 0 l
theorem numF_nil (a : Nat) : numF a [] = a := rfl
theorem numF_cons (a : Nat) (c : UInt8) (l : List UInt8) : numF a (c :: l) = numF (a * 8 + (c.toNat - 48)) l := by unfold numF; rw [List.foldl_cons]
theorem numF_app (a : Nat) (l r : List UInt8) : numF a (l ++ r) = numF (numF a l) r := List.foldl_append
theorem numF_from (l : List UInt8) (a : Nat) : numF a l = a * 8 ^ l.length + numF 0 l := by
  induction l generalizing a with
  | nil => rw [numF_nil, numF_nil, List.length_nil, Nat.pow_zero, Nat.mul_one, Nat.add_zero]
  | cons c l ih =>
    obtain ⟨d, hd⟩ : ∃ d, c.toNat - 48 = d := ⟨_, rfl⟩
    rw [numF_cons, numF_cons, hd, ih (a * 8 + d), ih (0 * 8 + d), List.length_cons, Nat.pow_succ, Nat.zero_mul, Nat.zero_add, Nat.add_mul]
    rw [show a * (8 ^ l.length * 8) = a * 8 * 8 ^ l.length by rw [Nat.mul_assoc a 8, Nat.mul_comm 8], Nat.add_assoc]
theorem numO_cons (c : UInt8) (l : List UInt8) : numO (c :: l) = (c.toNat - 48) * 8 ^ l.length + numO l := by
  unfold numO
  rw [numF_cons, numF_from, Nat.zero_mul, Nat.zero_add]
theorem numO_snoc (l : List UInt8) (c : UInt8) : numO (l ++ [c]) = numO l * 8 + (c.toNat - 48) := by
  unfold numO
  rw [numF_app, numF_cons, numF_nil]
theorem numO_step {l : List UInt8} {k : Nat} {x : UInt8} (hx : l[k]? = some x) : numO (l.take (k + 1)) = numO (l.take k) * 8 + (x.toNat - 48) := by
  obtain ⟨h1, rfl⟩ := List.getElem?_eq_some_iff.1 hx
  rw [List.take_succ_eq_append_getElem h1, numO_snoc]
theorem numO_back {l : List UInt8} {k : Nat} {x : UInt8} (hx : l[k]? = some x) : numO (l.drop k) = (x.toNat - 48) * 8 ^ (l.length - (k + 1)) + numO (l.drop (k + 1)) := by
  obtain ⟨h1, rfl⟩ := List.getElem?_eq_some_iff.1 hx
  rw [List.drop_eq_getElem_cons h1, numO_cons, List.length_drop]
theorem numO_lt : ∀ l : List UInt8, l.all dig = true → numO l < 8 ^ l.length
  | [], _ => by decide
  | c :: l, h => by
    rw [List.all_cons, Bool.and_eq_true] at h
    have h1 := numO_lt l h.2
    have h2 := dig_range h.1
    rw [numO_cons, List.length_cons, Nat.pow_succ]
    have h3 : (c.toNat - 48) * 8 ^ l.length ≤ 7 * 8 ^ l.length := Nat.mul_le_mul_right _ (by omega)
    omega
theorem all_oct : ∀ k n, (octL k n).all dig = true
  | 0, _ => rfl
  | k + 1, n => by rw [octL, List.all_cons, all_oct k n, dig_d8 (Nat.mod_lt _ (by decide))]; rfl
theorem num_oct : ∀ k n, numO (octL k n) = n % 8 ^ k
  | 0, n => by rw [octL, Nat.pow_zero, Nat.mod_one]; rfl
  | k + 1, n => by
    rw [octL, numO_cons, octL_len, num_oct k n, d8_val (Nat.mod_lt _ (by decide)), Nat.pow_succ, Nat.mod_mul]
    rw [show 48 + n / 8 ^ k % 8 - 48 = n / 8 ^ k % 8 by omega, Nat.mul_comm (8 ^ k)]
    omega
theorem oct_inj {k n m : Nat} (h : octL k n = octL k m) (hn : n < 8 ^ k) (hm : m < 8 ^ k) : n = m := by
  have e := congrArg numO h
  rwa [num_oct, num_oct, Nat.mod_eq_of_lt hn, Nat.mod_eq_of_lt hm] at e

/-- Has n room in d digits? -/
def octR (n d : Int) : Bool := decide (0 ≤ n ∧ 1 ≤ d ∧ d ≤ 11 ∧ n.toNat < 8 ^ d.toNat)
def octT (n d : Int) : List UInt8 := if octR n d = true then octL d.toNat n.toNat else []
/-- Are these 1 to 11 digits? -/
def ofR (l : List UInt8) : Bool := decide (1 ≤ l.length ∧ l.length ≤ 11) && l.all dig
def ofT (l : List UInt8) : Nat := if ofR l = true then numO l else 0
theorem ofT_lt (l : List UInt8) : ofT l < 8589934592 := by
  unfold ofT
  split
  · rename_i h
    unfold ofR at h
    rw [Bool.and_eq_true, decide_eq_true_eq] at h
    have h1 := numO_lt l h.2
    have h2 : 8 ^ l.length ≤ 8 ^ 11 := Nat.pow_le_pow_right (by decide) h.1.2
    have h3 : 8 ^ 11 = 8589934592 := by decide
    omega
  · decide
theorem oct_room {n d : Int} (h : octR n d = true) : 0 ≤ n ∧ 1 ≤ d ∧ d ≤ 11 ∧ n.toNat < 8 ^ d.toNat := by unfold octR at h; exact of_decide_eq_true h
theorem of_oct {n d : Int} (h : octR n d = true) : ofR (octT n d) = true ∧ (ofT (octT n d) : Int) = n ∧ ((octT n d).length : Int) = d := by
  obtain ⟨h0, h1, h2, h3⟩ := oct_room h
  have e : octT n d = octL d.toNat n.toNat := by unfold octT; rw [if_pos h]
  have hr : ofR (octT n d) = true := by
    rw [e]
    unfold ofR
    rw [all_oct, octL_len, Bool.and_true, decide_eq_true_eq]
    omega
  refine ⟨hr, ?_, ?_⟩
  · unfold ofT
    rw [if_pos hr, e, num_oct, Nat.mod_eq_of_lt h3]
    omega
  · rw [e, octL_len]; omega

/-- A text, and bytes 0 behind it, as far as n. -/
def pad (n : Nat) (l : List UInt8) : List UInt8 := l ++ List.replicate (n - l.length) 0
theorem pad_len {n : Nat} {l : List UInt8} (h : l.length ≤ n) : (pad n l).length = n := by unfold pad; simp; omega
theorem pad_all {n : Nat} {l : List UInt8} (h : l.length = n) : pad n l = l := by unfold pad; rw [h, Nat.sub_self]; simp
theorem pad_app {m n : Nat} {a b : List UInt8} (h : a.length = m) : pad (m + n) (a ++ b) = a ++ pad n b := by
  unfold pad
  rw [List.length_append, List.append_assoc, show m + n - (a.length + b.length) = n - b.length by omega]
theorem pad_take {n k : Nat} {l : List UInt8} (h : l.length ≤ k) (hk : k ≤ n) : (pad n l).take k = pad k l := by
  unfold pad
  rw [List.take_append, List.take_of_length_le h, List.take_replicate, Nat.min_eq_left (by omega)]
theorem pad_drop {n k : Nat} {l : List UInt8} (h : l.length ≤ k) : (pad n l).drop k = List.replicate (n - k) 0 := by
  unfold pad
  rw [List.drop_append, List.drop_of_length_le h, List.drop_replicate, List.nil_append, show n - l.length - (k - l.length) = n - k by omega]
theorem over_pad {n k : Nat} {x s : List UInt8} (h : x.length ≤ k) (hk : k + s.length ≤ n) : splice (pad n x) k s = pad n (pad k x ++ s) := by
  unfold splice
  rw [pad_take h (by omega), pad_drop (show x.length ≤ k + s.length by omega), ← List.append_assoc]
  have h2 : (pad k x ++ s).length = k + s.length := by rw [List.length_append, pad_len h]
  generalize pad k x ++ s = z at h2
  unfold pad
  rw [h2]
theorem over_set {l : List UInt8} {k : Nat} (y : UInt8) (h : k < l.length) : l.set k y = splice l k [y] := by
  unfold splice
  rw [List.set_eq_take_append_cons_drop, if_pos h]
  rfl

def sumL (l : List UInt8) : Nat := (l.map UInt8.toNat).sum
theorem sumL_nil : sumL [] = 0 := rfl
theorem sumL_app (a b : List UInt8) : sumL (a ++ b) = sumL a + sumL b := by unfold sumL; rw [List.map_append, List.sum_append]
theorem sumL_cons (x : UInt8) (l : List UInt8) : sumL (x :: l) = x.toNat + sumL l := by unfold sumL; rw [List.map_cons, List.sum_cons]
theorem sumL_step {l : List UInt8} {k : Nat} {x : UInt8} (hx : l[k]? = some x) : sumL (l.take (k + 1)) = sumL (l.take k) + x.toNat := by
  obtain ⟨h1, rfl⟩ := List.getElem?_eq_some_iff.1 hx
  rw [List.take_succ_eq_append_getElem h1, sumL_app, sumL_cons, sumL_nil]; rfl
theorem sumL_le : ∀ l : List UInt8, sumL l ≤ 255 * l.length
  | [] => by decide
  | x :: l => by
    have := sumL_le l
    have := x.toNat_lt
    rw [sumL_cons, List.length_cons]; omega
theorem sumL_set {l : List UInt8} {k : Nat} {x : UInt8} (y : UInt8) (hx : l[k]? = some x) : sumL (l.set k y) + x.toNat = sumL l + y.toNat := by
  obtain ⟨h1, rfl⟩ := List.getElem?_eq_some_iff.1 hx
  rw [List.set_eq_take_append_cons_drop, if_pos h1, sumL_app, sumL_cons]
  have e : l = l.take k ++ (l[k] :: l.drop (k + 1)) := by rw [← List.drop_eq_getElem_cons h1, List.take_append_drop]
  conv => rhs; rw [e]
  rw [sumL_app, sumL_cons]; omega

def blanks : List UInt8 := [32, 32, 32, 32, 32, 32, 32, 32]
def sealH (x : List UInt8) : List UInt8 := splice x 148 (octL 6 (sumL x) ++ [0, 32])
def blankH (x : List UInt8) : List UInt8 := splice x 148 blanks
def own7 : List UInt8 := [48, 48, 48, 48, 48, 48, 48]
def time11 : List UInt8 := [48, 48, 48, 48, 48, 48, 48, 48, 48, 48, 48]
def mark8 : List UInt8 := [117, 115, 116, 97, 114, 0, 48, 48]
/-- A header, the eight bytes s where its sum stands. -/
def rawH (nm md dg s : List UInt8) (sg : UInt8) (lk : List UInt8) : List UInt8 :=
  pad 100 nm ++ (pad 8 md ++ (pad 8 own7 ++ (pad 8 own7 ++ (pad 12 dg ++ (pad 12 time11 ++ (s ++ ([sg] ++ (pad 100 lk ++ pad 255 mark8))))))))

theorem splice_mid {a b c s : List UInt8} {k : Nat} (ha : a.length = k) (hb : b.length = s.length) : splice (a ++ (b ++ c)) k s = a ++ (s ++ c) := by
  unfold splice
  rw [List.take_left' ha, List.drop_append, List.drop_of_length_le (by omega), ha, Nat.add_sub_cancel_left, List.drop_left' hb, List.nil_append]
theorem splice_len (l : List UInt8) (k : Nat) (s : List UInt8) (h : k + s.length ≤ l.length) : (splice l k s).length = l.length := length_splice l k s h

section
variable {nm md dg s lk : List UInt8} {sg : UInt8}
/-- What stands ahead of the sum. -/
def aheadH (nm md dg : List UInt8) : List UInt8 := pad 100 nm ++ (pad 8 md ++ (pad 8 own7 ++ (pad 8 own7 ++ (pad 12 dg ++ pad 12 time11))))
def behindH (sg : UInt8) (lk : List UInt8) : List UInt8 := [sg] ++ (pad 100 lk ++ pad 255 mark8)
theorem raw_three (nm md dg s : List UInt8) (sg : UInt8) (lk : List UInt8) : rawH nm md dg s sg lk = aheadH nm md dg ++ (s ++ behindH sg lk) := by
  unfold rawH aheadH behindH
  simp only [List.append_assoc]
theorem ahead_len (h1 : nm.length ≤ 100) (h2 : md.length ≤ 8) (h3 : dg.length ≤ 12) : (aheadH nm md dg).length = 148 := by
  unfold aheadH
  simp only [List.length_append]
  rw [pad_len h1, pad_len h2, pad_len h3, pad_len (show own7.length ≤ 8 by decide), pad_len (show time11.length ≤ 12 by decide)]
theorem behind_len (h1 : lk.length ≤ 100) : (behindH sg lk).length = 356 := by
  unfold behindH
  simp only [List.length_append, List.length_cons, List.length_nil]
  rw [pad_len h1, pad_len (show mark8.length ≤ 255 by decide)]
theorem raw_len (h1 : nm.length ≤ 100) (h2 : md.length ≤ 8) (h3 : dg.length ≤ 12) (h4 : s.length = 8) (h5 : lk.length ≤ 100) : (rawH nm md dg s sg lk).length = 512 := by
  rw [raw_three, List.length_append, List.length_append, ahead_len h1 h2 h3, behind_len h5, h4]
theorem raw_seal (h1 : nm.length ≤ 100) (h2 : md.length ≤ 8) (h3 : dg.length ≤ 12) (h4 : s.length = 8) : sealH (rawH nm md dg s sg lk) = rawH nm md dg (octL 6 (sumL (rawH nm md dg s sg lk)) ++ [0, 32]) sg lk := by
  unfold sealH
  rw [raw_three nm md dg (octL 6 (sumL (rawH nm md dg s sg lk)) ++ [0, 32])]
  conv => lhs; arg 1; rw [raw_three]
  exact splice_mid (ahead_len h1 h2 h3) (by rw [h4, List.length_append, octL_len]; rfl)
theorem raw_blank (h1 : nm.length ≤ 100) (h2 : md.length ≤ 8) (h3 : dg.length ≤ 12) (h4 : s.length = 8) : blankH (rawH nm md dg s sg lk) = rawH nm md dg blanks sg lk := by
  unfold blankH
  rw [raw_three, raw_three]
  exact splice_mid (ahead_len h1 h2 h3) (by rw [h4]; rfl)

/-- The fields of a header, read. -/
def nameF (c : List UInt8) : List UInt8 := (c.take 100).takeWhile (· != 0)
def linkF (c : List UInt8) : List UInt8 := ((c.drop 157).take 100).takeWhile (· != 0)
def modeF (c : List UInt8) : List UInt8 := (c.drop 100).take 8
def sizeF (c : List UInt8) : List UInt8 := (c.drop 124).take 11
theorem while_pad {n : Nat} (h : (0 : UInt8) ∉ nm) : (pad n nm).takeWhile (· != 0) = nm := by
  unfold pad
  have e : ∀ l r : List UInt8, (0 : UInt8) ∉ l → (l ++ r).takeWhile (· != 0) = l ++ r.takeWhile (· != 0) := by
    intro l
    induction l with
    | nil => intro r _; rfl
    | cons x l ih =>
      intro r hl
      have hx : (x != 0) = true := by rw [bne_iff_ne]; intro e; exact hl (by simp [e])
      rw [List.cons_append, List.takeWhile_cons, if_pos hx, ih r (fun h => hl (by simp [h])), List.cons_append]
  rw [e nm _ h]
  cases n - nm.length with
  | zero => simp
  | succ k => simp [List.replicate_succ]
theorem raw_name (h1 : nm.length ≤ 100) (h0 : (0 : UInt8) ∉ nm) : nameF (rawH nm md dg s sg lk) = nm := by
  unfold nameF rawH
  rw [List.take_left' (pad_len h1), while_pad h0]
theorem raw_mode (h1 : nm.length ≤ 100) (h2 : md.length ≤ 8) : modeF (rawH nm md dg s sg lk) = pad 8 md := by
  unfold modeF rawH
  rw [List.drop_left' (pad_len h1), List.take_left' (pad_len h2)]
theorem raw_sign (h1 : nm.length ≤ 100) (h2 : md.length ≤ 8) (h3 : dg.length ≤ 12) (h4 : s.length = 8) : (rawH nm md dg s sg lk)[156]? = some sg := by
  rw [raw_three, ← List.append_assoc, List.getElem?_append_right (by rw [List.length_append, ahead_len h1 h2 h3, h4]; omega), List.length_append, ahead_len h1 h2 h3, h4]
  rfl
theorem raw_link (h1 : nm.length ≤ 100) (h2 : md.length ≤ 8) (h3 : dg.length ≤ 12) (h4 : s.length = 8) (h5 : lk.length ≤ 100) (h0 : (0 : UInt8) ∉ lk) : linkF (rawH nm md dg s sg lk) = lk := by
  have e : rawH nm md dg s sg lk = (aheadH nm md dg ++ (s ++ [sg])) ++ (pad 100 lk ++ pad 255 mark8) := by rw [raw_three]; unfold behindH; simp only [List.append_assoc]
  unfold linkF
  rw [e, List.drop_left' (by rw [List.length_append, List.length_append, ahead_len h1 h2 h3, h4]; rfl), List.take_left' (pad_len h5), while_pad h0]
theorem raw_size (h1 : nm.length ≤ 100) (h2 : md.length ≤ 8) (h3 : dg.length = 11) : sizeF (rawH nm md dg s sg lk) = dg := by
  have e : rawH nm md dg s sg lk = (pad 100 nm ++ (pad 8 md ++ (pad 8 own7 ++ pad 8 own7))) ++ (dg ++ ([0] ++ (pad 12 time11 ++ (s ++ ([sg] ++ (pad 100 lk ++ pad 255 mark8)))))) := by
    have e2 : pad 12 dg = dg ++ [0] := by unfold pad; rw [h3]; rfl
    unfold rawH
    rw [e2]
    simp only [List.append_assoc]
  unfold sizeF
  rw [e, List.drop_left' (by simp only [List.length_append]; rw [pad_len h1, pad_len h2]; rfl), List.take_left' h3]
end
end Go.Proofs.YtecjkkipglldlaaGreatDoor.Hog
