/- Plain facts on trees as bytes: numbers, texts, nodes laid and read. Nothing here names the program. -/
import Derived.Test.YtlepahfbbdjdgaaDoorJ3
namespace Go.Proofs.YtlepahfbbdjdgaaDoor

/-- The 64 bits of a number. -/
def bitsN (n : Int) : Nat := (n % 18446744073709551616).toNat
theorem bitsN_lt (n : Int) : bitsN n < 18446744073709551616 := by unfold bitsN; omega
/-- 64 bits, as a number with a sign. -/
def signN (x : Nat) : Int := if x < 9223372036854775808 then (x : Int) else (x : Int) - 18446744073709551616
def I64 (n : Int) : Prop := -9223372036854775808 ≤ n ∧ n < 9223372036854775808
theorem sign_bits {n : Int} (h : I64 n) : signN (bitsN n) = n := by
  unfold signN bitsN
  obtain ⟨h1, h2⟩ := h
  split <;> omega
theorem bits_sign {x : Nat} (h : x < 18446744073709551616) : bitsN (signN x) = x := by
  unfold signN bitsN
  split <;> omega
theorem sign_i64 {x : Nat} (h : x < 18446744073709551616) : I64 (signN x) := by
  unfold signN I64
  split <;> omega
/-- Byte k of 64 bits, the highest first. -/
def byteN (x k : Nat) : UInt8 := UInt8.ofNat (x / 2 ^ (56 - 8 * k))
def bytesN (x : Nat) : List UInt8 := (List.range 8).map (byteN x)
def numL (n : Int) : List UInt8 := bytesN (bitsN n)
theorem bytesN_len (x : Nat) : (bytesN x).length = 8 := by simp [bytesN]
theorem numL_len (n : Int) : (numL n).length = 8 := bytesN_len _
theorem bytesN_get {x k : Nat} (h : k < 8) : (bytesN x)[k]? = some (byteN x k) := by simp [bytesN, h]
theorem bytesN_take {x k : Nat} (h : k < 8) : (bytesN x).take (k + 1) = (bytesN x).take k ++ [byteN x k] := by
  have e := bytesN_get (x := x) h
  obtain ⟨hl, e2⟩ := List.getElem?_eq_some_iff.1 e
  rw [List.take_succ_eq_append_getElem hl, e2]
theorem bytesN_all (x : Nat) : (bytesN x).take 8 = bytesN x := by rw [← bytesN_len x, List.take_length]
theorem byteN_toNat (x k : Nat) : (byteN x k).toNat = x / 2 ^ (56 - 8 * k) % 256 := by simp [byteN]

/-- Bytes, the highest first, as a number. -/
def valN (l : List UInt8) : Nat := l.foldl (fun x b => x * 256 + b.toNat) 0
theorem valN_nil : valN [] = 0 := rfl
theorem valN_snoc (l : List UInt8) (b : UInt8) : valN (l ++ [b]) = valN l * 256 + b.toNat := by simp [valN, List.foldl_append]
theorem valN_lt : ∀ (k : Nat) (l : List UInt8), l.length = k → valN l < 256 ^ k
  | 0, l, h => by rw [List.eq_nil_of_length_eq_zero h]; decide
  | k + 1, l, h => by
    have hne : l ≠ [] := fun e => by rw [e] at h; simp at h
    rw [← List.dropLast_concat_getLast hne, valN_snoc]
    have := valN_lt k l.dropLast (by rw [List.length_dropLast]; omega)
    have hb := (l.getLast hne).toNat_lt
    rw [Nat.pow_succ]
    omega
theorem valN_lt8 {l : List UInt8} (h : l.length ≤ 8) : valN l < 18446744073709551616 := by
  have h1 := valN_lt l.length l rfl
  have h2 : 256 ^ l.length ≤ 256 ^ 8 := Nat.pow_le_pow_right (by decide) h
  have h3 : (256 : Nat) ^ 8 = 18446744073709551616 := by decide
  omega
theorem valN_lt7 {l : List UInt8} (h : l.length < 8) : valN l < 72057594037927936 := by
  have h1 := valN_lt l.length l rfl
  have h2 : 256 ^ l.length ≤ 256 ^ 7 := Nat.pow_le_pow_right (by decide) (by omega)
  have h3 : (256 : Nat) ^ 7 = 72057594037927936 := by decide
  omega
theorem eight {l : List UInt8} (h : l.length = 8) : ∃ a b c d e f g i, l = [a, b, c, d, e, f, g, i] := by
  match l, h with
  | [a, b, c, d, e, f, g, i], _ => exact ⟨a, b, c, d, e, f, g, i, rfl⟩
theorem val_bytes {x : Nat} (h : x < 18446744073709551616) : valN (bytesN x) = x := by
  simp [valN, bytesN, byteN, List.range, List.range.loop]
  omega
theorem bytes_val {l : List UInt8} (h : l.length = 8) : bytesN (valN l) = l := by
  obtain ⟨a, b, c, d, e, f, g, i, rfl⟩ := eight h
  have ha := a.toNat_lt; have hb := b.toNat_lt; have hc := c.toNat_lt; have hd := d.toNat_lt
  have he := e.toNat_lt; have hf := f.toNat_lt; have hg := g.toNat_lt; have hi := i.toNat_lt
  simp only [bytesN, byteN, List.range, List.range.loop, List.map, valN, List.foldl]
  have k : ∀ (z : UInt8) (y : Nat), y % 256 = z.toNat → UInt8.ofNat y = z := fun z y hy => by
    apply UInt8.toNat_inj.1
    rw [UInt8.toNat_ofNat']
    exact hy
  simp only [List.cons.injEq, and_true]
  refine ⟨k _ _ ?_, k _ _ ?_, k _ _ ?_, k _ _ ?_, k _ _ ?_, k _ _ ?_, k _ _ ?_, k _ _ ?_⟩ <;> simp <;> omega
theorem num_inj {n m : Int} (hn : I64 n) (hm : I64 m) (h : numL n = numL m) : n = m := by
  have e : bitsN n = bitsN m := by rw [← val_bytes (bitsN_lt n), ← val_bytes (bitsN_lt m)]; exact congrArg valN h
  rw [← sign_bits hn, ← sign_bits hm, e]

/-- How many bytes fill a text up. -/
def fillN (n : Nat) : Nat := (8 - n % 8) % 8
theorem fillN_lt (n : Nat) : fillN n < 8 := by unfold fillN; omega
def zerosN (n : Nat) : List UInt8 := List.replicate n 0
def textL (s : List UInt8) : List UInt8 := numL s.length ++ s ++ zerosN (fillN s.length)
theorem textL_len (s : List UInt8) : (textL s).length = 8 + (s.length + 7) / 8 * 8 := by
  simp [textL, numL_len, zerosN, fillN]; omega
def nodeL (n : Nd) : List UInt8 := textL n.1.data.toList ++ numL n.2.1 ++ textL n.2.2.data.toList
def nodesL (t : List Nd) : List UInt8 := t.flatMap nodeL
theorem nodesL_cons (n : Nd) (t : List Nd) : nodesL (n :: t) = nodeL n ++ nodesL t := by simp [nodesL]
theorem nodesL_app (t u : List Nd) : nodesL (t ++ u) = nodesL t ++ nodesL u := by simp [nodesL]
theorem nodesL_step {t : List Nd} {k : Nat} {n : Nd} (h : t[k]? = some n) : nodesL (t.take (k + 1)) = nodesL (t.take k) ++ nodeL n := by
  obtain ⟨hk, rfl⟩ := List.getElem?_eq_some_iff.1 h
  rw [List.take_succ_eq_append_getElem hk, nodesL_app, nodesL_cons]
  simp [nodesL]
def markL : List UInt8 := [110, 97, 114, 45, 49]
def headL (k : Nat) : List UInt8 := textL markL ++ numL k
def layL (t : List Nd) : List UInt8 := headL t.length ++ nodesL t
theorem nodeL_len (n : Nd) : (nodeL n).length = 24 + (n.1.size + 7) / 8 * 8 + (n.2.2.size + 7) / 8 * 8 := by
  simp only [nodeL, List.length_append, textL_len, numL_len, ← Hog.size_len]; omega
theorem headL_len (k : Nat) : (headL k).length = 24 := by simp [headL, textL_len, numL_len, markL]

/-- What a reader has left, and whether it has failed. -/
abbrev RS := List UInt8 × Bool
def takeR (n : Int) (s : RS) : List UInt8 × RS := if n < 0 ∨ (s.1.length : Int) < n then ([], ([], true)) else (s.1.take n.toNat, (s.1.drop n.toNat, s.2))
def numR (s : RS) : Int × RS := (signN (valN (takeR 8 s).1), (takeR 8 s).2)
def failIf (b : Bool) (s : RS) : RS := if b = true then ([], true) else s
def setN (l : List UInt8) : Bool := l.any fun b => b != 0
def textR3 (n : Int) (s : RS) : List UInt8 × RS :=
  (if (failIf (setN (takeR (fillN (takeR n s).1.length) (takeR n s).2).1) (takeR (fillN (takeR n s).1.length) (takeR n s).2).2).2 = true then [] else (takeR n s).1,
   failIf (setN (takeR (fillN (takeR n s).1.length) (takeR n s).2).1) (takeR (fillN (takeR n s).1.length) (takeR n s).2).2)
def textR (s : RS) : List UInt8 × RS := textR3 (numR s).1 (numR s).2
def nodeR (s : RS) : Nd × RS := ((Hog.mk (textR s).1, (numR (textR s).2).1, Hog.mk (textR (numR (textR s).2).2).1), (textR (numR (textR s).2).2).2)
def nodesR : Nat → RS → List Nd × RS
  | 0, s => ([], s)
  | k + 1, s => ((nodeR s).1 :: (nodesR k (nodeR s).2).1, (nodesR k (nodeR s).2).2)
def listR (s : RS) : List Nd × RS := if 400 < (numR s).1 then ([], (numR s).2) else nodesR (numR s).1.toNat (numR s).2

theorem take_lay (a r : List UInt8) (f : Bool) : takeR a.length (a ++ r, f) = (a, (r, f)) := by
  unfold takeR
  rw [if_neg (by simp; omega)]
  simp
theorem num_lay {n : Int} (h : I64 n) (r : List UInt8) (f : Bool) : numR (numL n ++ r, f) = (n, (r, f)) := by
  have e : takeR 8 (numL n ++ r, f) = (numL n, (r, f)) := by have := take_lay (numL n) r f; rw [numL_len] at this; exact this
  unfold numR
  rw [e]
  simp only [numL, val_bytes (bitsN_lt n), sign_bits h]
theorem set_zeros (n : Nat) : setN (zerosN n) = false := by simp [setN, zerosN]
theorem zerosN_len (n : Nat) : (zerosN n).length = n := by simp [zerosN]
theorem text_lay {s : List UInt8} (h : s.length < 9223372036854775808) (r : List UInt8) : textR (textL s ++ r, false) = (s, (r, false)) := by
  have e1 : numR (textL s ++ r, false) = ((s.length : Int), (s ++ (zerosN (fillN s.length) ++ r), false)) := by
    unfold textL
    rw [List.append_assoc, List.append_assoc]
    exact num_lay (by unfold I64; omega) _ _
  have e2 := take_lay s (zerosN (fillN s.length) ++ r) false
  have e3 := take_lay (zerosN (fillN s.length)) r false
  rw [zerosN_len] at e3
  unfold textR textR3
  simp only [e1, e2, e3, set_zeros]
  simp [failIf]
/-- A node that can be laid. -/
def FitN (n : Nd) : Prop := I64 n.2.1 ∧ n.1.size < 9223372036854775808 ∧ n.2.2.size < 9223372036854775808
theorem node_lay {n : Nd} (h : FitN n) (r : List UInt8) : nodeR (nodeL n ++ r, false) = (n, (r, false)) := by
  obtain ⟨h1, h2, h3⟩ := h
  rw [Hog.size_len] at h2 h3
  have e1 : textR (nodeL n ++ r, false) = (n.1.data.toList, (numL n.2.1 ++ (textL n.2.2.data.toList ++ r), false)) := by
    unfold nodeL
    rw [List.append_assoc, List.append_assoc]
    exact text_lay h2 _
  have e2 := num_lay h1 (textL n.2.2.data.toList ++ r) false
  have e3 := text_lay h3 r
  unfold nodeR
  rw [e1, e2, e3]
  simp only [Hog.data_mk]
theorem nodes_lay : ∀ {t : List Nd}, (∀ n ∈ t, FitN n) → ∀ r, nodesR t.length (nodesL t ++ r, false) = (t, (r, false))
  | [], _, r => rfl
  | n :: t, h, r => by
    rw [List.length_cons, nodesR, nodesL_cons, List.append_assoc, node_lay (h n (by simp)), nodes_lay (fun m hm => h m (List.mem_cons_of_mem _ hm)) r]
theorem list_lay {t : List Nd} (h : ∀ n ∈ t, FitN n) (hl : t.length ≤ 400) (r : List UInt8) : listR (numL t.length ++ (nodesL t ++ r), false) = (t, (r, false)) := by
  unfold listR
  rw [num_lay (by unfold I64; omega), if_neg (by simp; omega)]
  exact nodes_lay h r
/-- The word ahead, the nodes, and what is left. -/
def readS (b : List UInt8) : List UInt8 × List Nd × RS := ((textR (b, false)).1, listR (textR (b, false)).2)
theorem read_lay {t : List Nd} (h : ∀ n ∈ t, FitN n) (hl : t.length ≤ 400) (r : List UInt8) : readS (layL t ++ r) = (markL, t, (r, false)) := by
  have e : layL t ++ r = textL markL ++ (numL t.length ++ (nodesL t ++ r)) := by unfold layL headL; simp
  unfold readS
  rw [e, text_lay (by decide)]
  rw [list_lay h hl]
theorem lay_free {t u : List Nd} (h : ∀ n ∈ t, FitN n) (hl : t.length ≤ 400) (k : ∀ n ∈ u, FitN n) (kl : u.length ≤ 400) {r q : List UInt8} (e : layL t ++ r = layL u ++ q) : t = u ∧ r = q := by
  have e1 := read_lay h hl r
  rw [e, read_lay k kl q] at e1
  simp only [Prod.mk.injEq, true_and, and_true] at e1
  exact ⟨e1.1.symm, e1.2.symm⟩

theorem rs_eta {α : Type} (q : α × RS) (h : q.2.2 = false) : q = (q.1, (q.2.1, false)) := by
  obtain ⟨a, b, c⟩ := q
  simp at h
  rw [h]
theorem rs_eta2 {α : Type} (q : α × RS) {r : List UInt8} (h : q.2 = (r, false)) : q = (q.1, (r, false)) := by
  obtain ⟨a, b⟩ := q
  simp at h
  rw [h]
theorem take_sound {n : Int} {s : RS} {x r : List UInt8} (h : takeR n s = (x, (r, false))) : s.2 = false ∧ (x.length : Int) = n ∧ s.1 = x ++ r := by
  unfold takeR at h
  split at h
  · simp at h
  · rename_i hc
    simp only [Prod.mk.injEq] at h
    obtain ⟨rfl, rfl, h3⟩ := h
    refine ⟨h3, ?_, (List.take_append_drop _ _).symm⟩
    rw [List.length_take]; omega
theorem num_sound {s : RS} {n : Int} {r : List UInt8} (h : numR s = (n, (r, false))) : s.2 = false ∧ I64 n ∧ s.1 = numL n ++ r := by
  unfold numR at h
  simp only [Prod.mk.injEq] at h
  obtain ⟨h1, h2⟩ := h
  obtain ⟨a, b, c⟩ := take_sound (n := 8) (s := s) (x := (takeR 8 s).1) (r := r) (by rw [← h2])
  have hl : (takeR 8 s).1.length = 8 := by omega
  have hv := valN_lt8 (l := (takeR 8 s).1) (by omega)
  subst h1
  refine ⟨a, sign_i64 hv, ?_⟩
  rw [c]
  unfold numL
  rw [bits_sign hv, bytes_val hl]
theorem set_none {l : List UInt8} (h : setN l = false) : l = zerosN l.length := by
  unfold setN at h
  rw [List.any_eq_false] at h
  exact List.eq_replicate_of_mem fun b hb => by simpa using h b hb
theorem text_sound {s : RS} {x r : List UInt8} (h : textR s = (x, (r, false))) : s.2 = false ∧ x.length < 9223372036854775808 ∧ s.1 = textL x ++ r := by
  unfold textR textR3 at h
  obtain ⟨q1, hq1⟩ : ∃ q, q = takeR (numR s).1 (numR s).2 := ⟨_, rfl⟩
  rw [← hq1] at h
  obtain ⟨q2, hq2⟩ : ∃ q, q = takeR (fillN q1.1.length) q1.2 := ⟨_, rfl⟩
  rw [← hq2] at h
  simp only [Prod.mk.injEq] at h
  obtain ⟨h1, h2⟩ := h
  unfold failIf at h2
  cases hs : setN q2.1 with
  | true => rw [hs] at h2; simp at h2
  | false =>
    rw [hs] at h1 h2
    simp only [Bool.false_eq_true, if_false] at h2
    simp only [failIf, Bool.false_eq_true, if_false, h2] at h1
    obtain ⟨a2, b2, c2⟩ := take_sound (n := fillN q1.1.length) (s := q1.2) (x := q2.1) (r := r) (by rw [← hq2, ← h2])
    obtain ⟨a1, b1, c1⟩ := take_sound (n := (numR s).1) (s := (numR s).2) (x := q1.1) (r := q1.2.1) (by rw [← hq1, ← a2])
    obtain ⟨a0, b0, c0⟩ := num_sound (s := s) (n := (numR s).1) (r := (numR s).2.1) (by rw [← a1])
    subst h1
    refine ⟨a0, by unfold I64 at b0; omega, ?_⟩
    rw [c0, c1, c2, ← b1]
    unfold textL
    have e : q2.1 = zerosN (fillN q1.1.length) := by
      have e1 := set_none hs
      rwa [show q2.1.length = fillN q1.1.length by omega] at e1
    rw [← e]
    simp
theorem node_sound {s : RS} {n : Nd} {r : List UInt8} (h : nodeR s = (n, (r, false))) : s.2 = false ∧ FitN n ∧ s.1 = nodeL n ++ r := by
  unfold nodeR at h
  obtain ⟨q1, hq1⟩ : ∃ q, q = textR s := ⟨_, rfl⟩
  rw [← hq1] at h
  obtain ⟨q2, hq2⟩ : ∃ q, q = numR q1.2 := ⟨_, rfl⟩
  rw [← hq2] at h
  obtain ⟨q3, hq3⟩ : ∃ q, q = textR q2.2 := ⟨_, rfl⟩
  rw [← hq3] at h
  obtain ⟨h1, h2⟩ := Prod.mk.inj h
  obtain ⟨a3, b3, c3⟩ := text_sound (hq3.symm.trans (rs_eta2 _ h2))
  obtain ⟨a2, b2, c2⟩ := num_sound (hq2.symm.trans (rs_eta _ a3))
  obtain ⟨a1, b1, c1⟩ := text_sound (hq1.symm.trans (rs_eta _ a2))
  rw [← h1]
  refine ⟨a1, ⟨b2, by show (Hog.mk q1.1).size < _; rw [Hog.mk_size]; exact b1, by show (Hog.mk q3.1).size < _; rw [Hog.mk_size]; exact b3⟩, ?_⟩
  rw [c1, c2, c3]
  unfold nodeL
  simp only [Hog.mk_data, List.append_assoc]
theorem nodesR_len : ∀ (k : Nat) (s : RS), (nodesR k s).1.length = k
  | 0, s => rfl
  | k + 1, s => by rw [nodesR, List.length_cons, nodesR_len]
theorem nodes_sound : ∀ {k : Nat} {s : RS} {t : List Nd} {r : List UInt8}, nodesR k s = (t, (r, false)) → s.2 = false ∧ (∀ n ∈ t, FitN n) ∧ s.1 = nodesL t ++ r
  | 0, s, t, r, h => by
    rw [nodesR] at h
    obtain ⟨rfl, rfl⟩ := by simpa using h
    exact ⟨rfl, by simp, by simp [nodesL]⟩
  | k + 1, s, t, r, h => by
    rw [nodesR] at h
    simp only [Prod.mk.injEq] at h
    obtain ⟨rfl, h2⟩ := h
    obtain ⟨a2, b2, c2⟩ := nodes_sound (k := k) (s := (nodeR s).2) (t := (nodesR k (nodeR s).2).1) (r := r) (rs_eta2 _ h2)
    obtain ⟨a1, b1, c1⟩ := node_sound (s := s) (n := (nodeR s).1) (r := (nodeR s).2.1) (rs_eta _ a2)
    refine ⟨a1, fun n hn => ?_, ?_⟩
    · rcases List.mem_cons.1 hn with rfl | hn
      · exact b1
      · exact b2 n hn
    · rw [c1, c2, nodesL_cons, List.append_assoc]
theorem list_sound {s : RS} {t : List Nd} {r : List UInt8} (h : listR s = (t, (r, false))) (ht : t ≠ []) : s.2 = false ∧ (∀ n ∈ t, FitN n) ∧ t.length ≤ 400 ∧ s.1 = numL t.length ++ (nodesL t ++ r) := by
  unfold listR at h
  split at h
  · simp only [Prod.mk.injEq] at h
    exact absurd h.1.symm ht
  · rename_i hc
    obtain ⟨a2, b2, c2⟩ := nodes_sound h
    obtain ⟨a1, b1, c1⟩ := num_sound (s := s) (n := (numR s).1) (r := (numR s).2.1) (rs_eta _ a2)
    have hl : t.length = (numR s).1.toNat := by
      have := nodesR_len (numR s).1.toNat (numR s).2
      rw [h] at this
      exact this
    have hp := List.length_pos_iff.2 ht
    refine ⟨a1, b2, by omega, ?_⟩
    rw [c1, c2, hl]
    congr 2
    omega
theorem read_sound {b : List UInt8} {t : List Nd} {r : List UInt8} (h : readS b = (markL, t, (r, false))) (ht : t ≠ []) : (∀ n ∈ t, FitN n) ∧ t.length ≤ 400 ∧ b = layL t ++ r := by
  unfold readS at h
  simp only [Prod.mk.injEq] at h
  obtain ⟨h1, h2⟩ := h
  obtain ⟨a2, b2, l2, c2⟩ := list_sound h2 ht
  obtain ⟨a1, b1, c1⟩ := text_sound (s := (b, false)) (x := (textR (b, false)).1) (r := (textR (b, false)).2.1) (rs_eta _ a2)
  refine ⟨b2, l2, ?_⟩
  have c1' : b = textL (textR (b, false)).1 ++ (textR (b, false)).2.1 := c1
  rw [c1', h1, c2]
  unfold layL headL
  simp

end Go.Proofs.YtlepahfbbdjdgaaDoor
