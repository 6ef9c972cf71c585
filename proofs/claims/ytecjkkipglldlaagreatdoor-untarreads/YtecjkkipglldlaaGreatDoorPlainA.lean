/- A header laid piece by piece is the header, plainly. Nothing here names the program. -/
import Derived.Test.YtecjkkipglldlaaGreatDoorPlainE
namespace Go.Proofs.YtecjkkipglldlaaGreatDoor.Hog
open Go

theorem lay_step {A s : List UInt8} {k m : Nat} (hA : A.length = k) (hm : s.length ≤ m) (hk : k + m ≤ 512) : splice (pad 512 A) k s = pad 512 (A ++ s) ∧ splice (pad 512 A) k s = pad 512 (A ++ pad m s) := by
  have e : splice (pad 512 A) k s = pad 512 (A ++ s) := by rw [over_pad (by omega) (by omega), pad_all hA]
  refine ⟨e, ?_⟩
  rw [e]
  unfold pad
  rw [List.length_append, List.length_append, List.length_append, List.length_replicate, List.append_assoc, List.append_assoc, List.append_assoc, List.replicate_append_replicate]
  congr 3
  omega
theorem chain {nm md o dg ti lk : List UInt8} {sg : UInt8} (h1 : nm.length ≤ 100) (h2 : md.length ≤ 8) (h3 : o.length ≤ 8) (h4 : dg.length ≤ 12) (h5 : ti.length ≤ 12) (h6 : lk.length ≤ 100) :
    splice (splice (splice (splice (splice (splice (splice (splice (splice (splice (pad 512 []) 0 nm) 100 md) 108 o) 116 o) 124 dg) 136 ti) 148 blanks) 156 [sg]) 157 lk) 257 mark8 =
      pad 100 nm ++ (pad 8 md ++ (pad 8 o ++ (pad 8 o ++ (pad 12 dg ++ (pad 12 ti ++ (blanks ++ ([sg] ++ (pad 100 lk ++ pad 255 mark8)))))))) := by
  obtain ⟨a1, b1⟩ : ∃ a, pad 100 nm = a := ⟨_, rfl⟩
  obtain ⟨a2, b2⟩ : ∃ a, pad 8 md = a := ⟨_, rfl⟩
  obtain ⟨a3, b3⟩ : ∃ a, pad 8 o = a := ⟨_, rfl⟩
  obtain ⟨a4, b4⟩ : ∃ a, pad 12 dg = a := ⟨_, rfl⟩
  obtain ⟨a5, b5⟩ : ∃ a, pad 12 ti = a := ⟨_, rfl⟩
  obtain ⟨a6, b6⟩ : ∃ a, pad 100 lk = a := ⟨_, rfl⟩
  have c1 : a1.length = 100 := by rw [← b1]; exact pad_len h1
  have c2 : a2.length = 8 := by rw [← b2]; exact pad_len h2
  have c3 : a3.length = 8 := by rw [← b3]; exact pad_len h3
  have c4 : a4.length = 12 := by rw [← b4]; exact pad_len h4
  have c5 : a5.length = 12 := by rw [← b5]; exact pad_len h5
  have c6 : a6.length = 100 := by rw [← b6]; exact pad_len h6
  rw [(lay_step (A := []) (k := 0) (m := 100) rfl h1 (by omega)).2, b1, List.nil_append]
  rw [(lay_step (m := 8) c1 h2 (by omega)).2, b2]
  rw [(lay_step (A := a1 ++ a2) (k := 108) (m := 8) (by simp only [List.length_append]; omega) h3 (by omega)).2, b3]
  rw [(lay_step (A := a1 ++ a2 ++ a3) (k := 116) (m := 8) (by simp only [List.length_append]; omega) h3 (by omega)).2, b3]
  rw [(lay_step (A := a1 ++ a2 ++ a3 ++ a3) (k := 124) (m := 12) (by simp only [List.length_append]; omega) h4 (by omega)).2, b4]
  rw [(lay_step (A := a1 ++ a2 ++ a3 ++ a3 ++ a4) (k := 136) (m := 12) (by simp only [List.length_append]; omega) h5 (by omega)).2, b5]
  rw [(lay_step (A := a1 ++ a2 ++ a3 ++ a3 ++ a4 ++ a5) (k := 148) (m := 8) (by simp only [List.length_append]; omega) (show blanks.length ≤ 8 by decide) (by omega)).1]
  rw [(lay_step (A := a1 ++ a2 ++ a3 ++ a3 ++ a4 ++ a5 ++ blanks) (k := 156) (s := [sg]) (m := 1) (by simp only [List.length_append]; rw [show blanks.length = 8 by rfl]; omega) (Nat.le_refl _) (by omega)).1]
  rw [(lay_step (A := a1 ++ a2 ++ a3 ++ a3 ++ a4 ++ a5 ++ blanks ++ [sg]) (k := 157) (m := 100) (by simp only [List.length_append]; rw [show blanks.length = 8 by rfl, show [sg].length = 1 by rfl]; omega) h6 (by omega)).2, b6]
  have hl : (a1 ++ a2 ++ a3 ++ a3 ++ a4 ++ a5 ++ blanks ++ [sg] ++ a6).length = 257 := by simp only [List.length_append]; rw [show blanks.length = 8 by rfl, show [sg].length = 1 by rfl]; omega
  rw [(lay_step (m := 8) hl (show mark8.length ≤ 8 by decide) (by omega)).1, show (512 : Nat) = 257 + 255 by rfl, pad_app hl]
  simp only [List.append_assoc]
theorem own_pad : pad 8 (own7 ++ [0]) = pad 8 own7 := by decide
theorem time_pad : pad 12 (time11 ++ [0]) = pad 12 time11 := by decide
theorem pad_pad {n : Nat} {l : List UInt8} (h : l.length ≤ n) : pad n (pad n l) = pad n l := pad_all (pad_len h)
theorem pad_one {n : Nat} {l : List UInt8} (h : l.length + 1 ≤ n) : pad n (l ++ [0]) = pad n l := by
  unfold pad
  rw [List.length_append, List.append_assoc]
  congr 1
  rw [show [(0 : UInt8)] = List.replicate 1 0 by rfl, List.replicate_append_replicate]
  congr 1
  simp only [List.length_replicate]; omega
/-- The program's pieces. -/
theorem chain_head {nm lk : List UInt8} {k sz : Int} (h : May nm k sz lk) {l1 l2 l3 l4 l5 l6 l7 l8 l9 x md : List UInt8} {sg : UInt8} (hx : octL 11 sz.toNat = x) (hm : pad 8 (modeK k) = md) (hg : signK k = sg)
    (e1 : splice (pad 512 []) 0 nm = l1) (e2 : splice l1 100 md = l2) (e3 : splice l2 108 (own7 ++ [0]) = l3) (e4 : splice l3 116 (own7 ++ [0]) = l4) (e5 : splice l4 124 (x ++ [0]) = l5)
    (e6 : splice l5 136 (time11 ++ [0]) = l6) (e7 : splice l6 148 blanks = l7) (e8 : splice (splice l7 156 [sg]) 157 lk = l8) (e9 : splice l8 257 mark8 = l9) : l9 = rawK nm k sz lk := by
  subst hx hm hg
  rw [← e9, ← e8, ← e7, ← e6, ← e5, ← e4, ← e3, ← e2, ← e1]
  have hm : (modeK k).length ≤ 8 := by rw [modeK_len]; decide
  rw [chain (fillB_of h.name).1 (Nat.le_of_eq (pad_len hm)) (by decide) (by rw [List.length_append, octL_len]; decide) (by decide) (fillB_of h.link).1]
  rw [pad_pad hm, own_pad, time_pad, pad_one (by rw [octL_len]; decide)]
  rfl
/-- The document's. -/
theorem chain_ref {nm lk : List UInt8} {k sz : Int} (h : May nm k sz lk) {l1 l2 l3 l4 l5 l6 l7 l8 l9 x md : List UInt8} {sg : UInt8} (hx : octL 11 sz.toNat = x) (hm : modeK k = md) (hg : signK k = sg)
    (e1 : splice (pad 512 []) 0 nm = l1) (e2 : splice l1 100 md = l2) (e3 : splice l2 108 own7 = l3) (e4 : splice l3 116 own7 = l4) (e5 : splice l4 124 x = l5)
    (e6 : splice l5 136 time11 = l6) (e7 : splice l6 148 blanks = l7) (e8 : splice (splice l7 156 [sg]) 157 lk = l8) (e9 : splice l8 257 mark8 = l9) : l9 = rawK nm k sz lk := by
  subst hx hm hg
  rw [← e9, ← e8, ← e7, ← e6, ← e5, ← e4, ← e3, ← e2, ← e1]
  have hm : (modeK k).length ≤ 8 := by rw [modeK_len]; decide
  rw [chain (fillB_of h.name).1 hm (by decide) (by rw [octL_len]; decide) (by decide) (fillB_of h.link).1]
  rfl
theorem len_on {l s l' : List UInt8} {k : Nat} (h : splice l k s = l') (hl : l.length = 512) (hk : k + s.length ≤ 512) : l'.length = 512 := by rw [← h, splice_len l k s (by omega), hl]
end Go.Proofs.YtecjkkipglldlaaGreatDoor.Hog
