/- Texts that stand together, joined: R1, R2, R3, R4, R5, R6, R7. -/
import Derived.Test.YtmlkknbndglgaaaGreatDoorJ2
/- The walk of the document's own Part. -/
namespace Go.Proofs.YtmlkknbndglgaaaGreatDoor
open Go.RowKit

theorem take_byte (s : ByteArray) (k : Nat) (h : k < s.size) : s.data.toList.take (k + 1) = s.data.toList.take k ++ [s[k]] := by
  rw [List.take_succ_eq_append_getElem (by rw [← Hog.size_len]; exact h)]; rfl
theorem at_byte (s : ByteArray) (k : Nat) (h : k < s.size) : s.data.toList[k]? = some s[k] := Lib.data_getElem? s k h
theorem byte_is {u : UInt8} {n : Nat} (hn : n < 256) (h : ((u.toNat : Int) == (n : Int)) = true) : u = UInt8.ofNat n := by
  have h2 : u.toNat = n := by have := beq_iff_eq.1 h; omega
  apply UInt8.toNat_inj.1
  rw [h2, UInt8.toNat_ofNat', Nat.mod_eq_of_lt hn]
theorem byte_not {u : UInt8} {n : Nat} (hn : n < 256) (h : ((u.toNat : Int) == (n : Int)) = false) : u ≠ UInt8.ofNat n := by
  intro e
  have h2 : u.toNat = n := by rw [e, UInt8.toNat_ofNat', Nat.mod_eq_of_lt hn]
  rw [beq_eq_false_iff_ne] at h
  exact h (by rw [h2])

/-- A text without a stroke and a nought: what is left to ask. -/
theorem part_free {l : List UInt8} (h1 : 47 ∉ l) (h2 : 0 ∉ l) : Hog.partL l = (!(l.isEmpty || decide (60 < l.length)) && !(l == [46] || l == [46, 46] || Lib.hasPrefix l [46, 119, 104, 46])) := by
  unfold Hog.partL
  rw [decide_eq_true ((Hog.indexByte_neg l 47).2 h1), decide_eq_true ((Hog.indexByte_neg l 0).2 h2), Bool.and_self, Bool.and_true]
theorem part_bad {l : List UInt8} (h : 47 ∈ l ∨ 0 ∈ l) : Hog.partL l = false := by
  cases hp : Hog.partL l with
  | false => rfl
  | true =>
    obtain ⟨_, _, h1, h2⟩ := Hog.part_parts hp
    rcases h with h | h
    · exact absurd h h1
    · exact absurd h h2

theorem byte_mem (s : ByteArray) (k : Nat) (hk : k < s.size) {n : Nat} (hn : n < 256) (h : ((s[k].toNat : Nat) : Int) = (n : Int)) : UInt8.ofNat n ∈ s.data.toList := by
  have e := byte_is hn (beq_iff_eq.2 h)
  rw [← e]
  exact List.mem_of_getElem? (at_byte s k hk)
theorem free_step (s : ByteArray) (k : Nat) (hk : k < s.size) (h1 : (((s[k].toNat : Nat) : Int) == 47) = false) (h2 : (((s[k].toNat : Nat) : Int) == 0) = false) (h : 47 ∉ s.data.toList.take k ∧ 0 ∉ s.data.toList.take k) : 47 ∉ s.data.toList.take (k + 1) ∧ 0 ∉ s.data.toList.take (k + 1) := by
  rw [take_byte s k hk]
  have e1 : s[k] ≠ 47 := byte_not (n := 47) (by decide) h1
  have e2 : s[k] ≠ 0 := byte_not (n := 0) (by decide) h2
  exact ⟨by simp only [List.mem_append, List.mem_singleton, not_or]; exact ⟨h.1, fun e => e1 e.symm⟩, by simp only [List.mem_append, List.mem_singleton, not_or]; exact ⟨h.2, fun e => e2 e.symm⟩⟩

theorem part_val (s : ByteArray) (hf : 47 ∉ s.data.toList ∧ 0 ∉ s.data.toList) :
    Hog.partL s.data.toList = (decide ((1 : Int) ≤ (s.size : Int)) && decide ((s.size : Int) ≤ 60) && (!s.toList == [46]) && (!s.toList == [46, 46]) && !(decide ((4 : Int) ≤ (s.size : Int)) && (s.extract 0 4).toList == [46, 119, 104, 46])) := by
  rw [part_free hf.1 hf.2, ← Lib.hasPrefix_of_take, Lib.toList_data, Lib.extract_toList]
  have hz := Hog.size_len s
  have e1 : (!(s.data.toList.isEmpty || decide (60 < s.data.toList.length))) = (decide ((1 : Int) ≤ (s.size : Int)) && decide ((s.size : Int) ≤ 60)) := by
    rw [Bool.eq_iff_iff]
    simp only [Bool.not_eq_true', Bool.or_eq_false_iff, Bool.and_eq_true, decide_eq_true_eq, decide_eq_false_iff_not, List.isEmpty_eq_false_iff, ← List.length_pos_iff]
    omega
  have e2 : decide (([46, 119, 104, 46] : List UInt8).length ≤ s.data.toList.length) = decide ((4 : Int) ≤ (s.size : Int)) := by
    rw [Bool.eq_iff_iff]
    simp only [decide_eq_true_eq, List.length_cons, List.length_nil]
    omega
  rw [e1, e2]
  simp [Bool.and_assoc]

end Go.Proofs.YtmlkknbndglgaaaGreatDoor
/- The walk of the document's own Cut. -/
namespace Go.Proofs.YtmlkknbndglgaaaGreatDoor
open Go.RowKit

theorem Own.one (w : World) (x : ByteArray) : Own w.heap.size (w.alloc (.cells #[.string x] 9)) (.slice (some ⟨w.heap.size, 0, none⟩) 1 1) [x] := by
  simpa using Own.made w [x] (by unfold maxLen; simp)
theorem Own.alloc {base : Nat} {w : World} {v : Value} {xs : List ByteArray} (h : Own base w v xs) (o : Obj) : Own base (w.alloc o) v xs := h.below (below_alloc w o)
theorem piece_mk (s : ByteArray) (a k : Nat) : s.extract a k = Hog.mk ((s.data.toList.drop a).take (k - a)) := Lib.extract_eq s a k

/-- What Cut holds behind k rounds: the parts so far, and where the next one begins. -/
def CutRel (l : List UInt8) (k at' : Nat) (done : List (List UInt8)) : Prop :=
  (k ≤ l.length ∧ done ++ Hog.cutL (l.drop at') = Hog.cutL l ∧ 47 ∉ (l.drop at').take (k - at')) ∨ (k = l.length + 1 ∧ done = Hog.cutL l)

theorem cutrel_end {l : List UInt8} {at' : Nat} {done : List (List UInt8)} (h : CutRel l l.length at' done) : CutRel l (l.length + 1) (l.length + 1) (done ++ [(l.drop at').take (l.length - at')]) := by
  rcases h with ⟨_, h1, h2⟩ | ⟨h1, _⟩
  · refine .inr ⟨rfl, ?_⟩
    have e : (l.drop at').take (l.length - at') = l.drop at' := List.take_of_length_le (by simp)
    rw [e] at h2 ⊢
    rw [← h1, Hog.cut_no _ h2]
  · omega
theorem cutrel_stroke {l : List UInt8} {k at' : Nat} {done : List (List UInt8)} (h : CutRel l k at' done) (ha : at' ≤ k) (hk : k < l.length) (hc : l[k]? = some 47) : CutRel l (k + 1) (k + 1) (done ++ [(l.drop at').take (k - at')]) := by
  rcases h with ⟨_, h1, h2⟩ | ⟨h1, _⟩
  · refine .inl ⟨by omega, ?_, by simp⟩
    obtain ⟨hk', hv⟩ := List.getElem?_eq_some_iff.1 hc
    have e : l.drop at' = (l.drop at').take (k - at') ++ 47 :: l.drop (k + 1) := by
      conv => lhs; rw [← List.take_append_drop (k - at') (l.drop at')]
      rw [List.drop_drop, show at' + (k - at') = k by omega, List.drop_eq_getElem_cons hk', hv]
    have e2 : Hog.cutL (l.drop at') = (l.drop at').take (k - at') :: Hog.cutL (l.drop (k + 1)) := by
      conv => lhs; rw [e]
      exact Hog.cut_at _ _ h2
    rw [List.append_assoc, List.singleton_append, ← e2]
    exact h1
  · omega
theorem cutrel_other {l : List UInt8} {k at' : Nat} {done : List (List UInt8)} (h : CutRel l k at' done) (ha : at' ≤ k) (hk : k < l.length) {c : UInt8} (hc : l[k]? = some c) (hne : c ≠ 47) : CutRel l (k + 1) at' done := by
  rcases h with ⟨_, h1, h2⟩ | ⟨h1, _⟩
  · refine .inl ⟨by omega, h1, ?_⟩
    have hd : (l.drop at')[k - at']? = some c := by rw [List.getElem?_drop, show at' + (k - at') = k by omega]; exact hc
    obtain ⟨hk', hv⟩ := List.getElem?_eq_some_iff.1 hd
    rw [show k + 1 - at' = (k - at') + 1 by omega, List.take_succ_eq_append_getElem hk', hv]
    simp only [List.mem_append, List.mem_singleton, not_or]
    exact ⟨h2, fun e => hne e.symm⟩
  · omega

theorem own_step {base : Nat} {w : World} {b : Option Addr} {c : Nat} {done : List (List UInt8)} {s : ByteArray} {at' k : Nat} (h : Own base w (.slice b (done.length + 1) c) (done.map Hog.mk ++ [s.extract at' k])) :
    Own base w (.slice b (done ++ [(s.data.toList.drop at').take (k - at')]).length c) ((done ++ [(s.data.toList.drop at').take (k - at')]).map Hog.mk) := by
  rw [piece_mk] at h
  simpa using h

end Go.Proofs.YtmlkknbndglgaaaGreatDoor
/- The walks of the document's own May, Split, Under. -/
namespace Go.Proofs.YtmlkknbndglgaaaGreatDoor
open Go.RowKit

/-- Texts that are not none lie at an address. -/
theorem Txt.at {w : World} {v : Value} {l : List (List UInt8)} (h : Txt w v (l.map Hog.mk)) (hne : l ≠ []) :
    ∃ b o c, v = .slice (some ⟨b, o, none⟩) l.length c ∧ l.length ≤ c ∧ b < w.heap.size ∧ ∀ (j : Nat) y, l[j]? = some y → w.cell? ⟨b, o + j, none⟩ = some (.string (Hog.mk y)) := by
  rcases h with ⟨e, _⟩ | ⟨b, o, c, rfl, hc, hb, hcell⟩
  · exact absurd (List.map_eq_nil_iff.1 e) hne
  · refine ⟨b, o, c, by rw [List.length_map], by simpa using hc, hb, fun j y hy => hcell j (Hog.mk y) (by simp [hy])⟩

theorem allL_step {l : List (List UInt8)} {k : Nat} {y : List UInt8} (hy : l[k]? = some y) (h : (l.take k).all Hog.partL = true) (hp : Hog.partL y = true) : (l.take (k + 1)).all Hog.partL = true := by
  obtain ⟨hk, rfl⟩ := List.getElem?_eq_some_iff.1 hy
  rw [List.take_succ_eq_append_getElem hk, List.all_append, h]
  simpa using hp
theorem allL_fall {l : List (List UInt8)} {k : Nat} {y : List UInt8} (hy : l[k]? = some y) (hp : Hog.partL y = false) : l.all Hog.partL = false := by
  rw [List.all_eq_false]
  exact ⟨y, List.mem_of_getElem? hy, by simp [hp]⟩

theorem may_cut {p : List UInt8} (hne : p ≠ []) : Hog.mayL p = (decide (p.length ≤ 200) && (decide ((Hog.cutL p).length ≤ 10) && (Hog.cutL p).all Hog.partL)) := by
  unfold Hog.mayL Hog.allP Hog.cutC
  rw [if_neg hne]

end Go.Proofs.YtmlkknbndglgaaaGreatDoor
/- The walks of the document's own Split and Join. -/
namespace Go.Proofs.YtmlkknbndglgaaaGreatDoor
open Go.RowKit

theorem join_take_len (l : List (List UInt8)) (k : Nat) : (Hog.joinS (l.take k)).length ≤ (Hog.joinS l).length := by
  by_cases h1 : l.take k = []
  · rw [h1]; simp [Hog.join_nil]
  · by_cases h2 : l.drop k = []
    · have e : l.take k = l := by conv => rhs; rw [← List.take_append_drop k l, h2, List.append_nil]
      rw [e]; exact Nat.le_refl _
    · conv => rhs; rw [← List.take_append_drop k l]
      rw [Hog.join_app _ _ h1 h2]; simp
theorem join_first {l : List (List UInt8)} {y : List UInt8} (h : l[0]? = some y) : Hog.joinS (l.take 1) = y := by
  cases l with
  | nil => simp at h
  | cons x r => simp at h; subst h; rw [List.take_succ_cons, List.take_zero, Hog.join_one]
theorem join_later {l : List (List UInt8)} {k : Nat} {y : List UInt8} (h : l[k]? = some y) (hk : 0 < k) : Hog.joinS (l.take (k + 1)) = Hog.joinS (l.take k) ++ 47 :: y := by
  obtain ⟨hlt, rfl⟩ := List.getElem?_eq_some_iff.1 h
  rw [List.take_succ_eq_append_getElem hlt, Hog.join_app _ _ (by intro e; have := congrArg List.length e; rw [List.length_take, List.length_nil] at this; omega) (by simp), Hog.join_one]
theorem joinOk_part {l : List (List UInt8)} (h : l.all Hog.partL = false) : Hog.joinOk l = false := by
  unfold Hog.joinOk Hog.allP; rw [h, Bool.and_false, Bool.false_and]
theorem joinOk_long {l : List (List UInt8)} {k : Nat} (h : 200 < (Hog.joinS (l.take k)).length) : Hog.joinOk l = false := by
  unfold Hog.joinOk
  rw [decide_eq_false (by have := join_take_len l k; omega), Bool.and_false]
theorem joinV_no {l : List (List UInt8)} (h : Hog.joinOk l = false) : joinV l = [] := by unfold joinV; rw [if_neg (by rw [h]; decide)]
theorem mk_app (a b : List UInt8) : Hog.mk a ++ Hog.mk b = Hog.mk (a ++ b) := by
  rw [← Hog.data_mk (Hog.mk a ++ Hog.mk b)]
  rw [show (Hog.mk a ++ Hog.mk b).data.toList = a ++ b by rw [ByteArray.data_append, Array.toList_append, Hog.mk_data, Hog.mk_data]]
theorem mk_empty : (⟨#[]⟩ : ByteArray) = Hog.mk [] := rfl

end Go.Proofs.YtmlkknbndglgaaaGreatDoor
/- The walks of the document's own Parent, Base, Under. -/
namespace Go.Proofs.YtmlkknbndglgaaaGreatDoor
open Go.RowKit

/-- A text that is no path, or the root: it has no parts, no parent, no base. -/
theorem none_facts {p : List UInt8} (h : p = [] ∨ Hog.mayL p = false) : Hog.splitL p = [] ∧ Hog.parentL p = [] ∧ Hog.parentOk p = false ∧ Hog.baseL p = [] := by
  have ho : Hog.parentOk p = false := by
    unfold Hog.parentOk
    rcases h with h | h
    · rw [h]; rfl
    · rw [h, Bool.and_false]
  refine ⟨?_, by unfold Hog.parentL; rw [if_neg (by rw [ho]; decide)], ho, ?_⟩
  · rcases h with h | h
    · rw [h]; decide
    · unfold Hog.splitL; rw [if_neg (by rw [h]; decide)]
  · rcases h with h | h
    · rw [h]; decide
    · unfold Hog.baseL; rw [if_neg (by rw [h]; decide)]

theorem Own.snocAt {base : Nat} {w : World} {v : Value} {l : List (List UInt8)} {x : List UInt8} (h : Own base w v ((l ++ [x]).map Hog.mk)) :
    ∃ b c, v = .slice (some ⟨b, 0, none⟩) (l.length + 1) c ∧ l.length + 1 ≤ c ∧ b < w.heap.size ∧ w.cell? ⟨b, l.length, none⟩ = some (.string (Hog.mk x)) ∧ Txt w (.slice (some ⟨b, 0, none⟩) l.length c) (l.map Hog.mk) := by
  obtain ⟨_, h2⟩ := id h
  rcases h2 with ⟨_, h0⟩ | ⟨g, cap, cur, hv, hb, hg, hn, hm, hs, ht⟩
  · simp at h0
  · have hlt : g < w.heap.size := (Array.getElem?_eq_some_iff.1 hg).1
    have hcell : ∀ (j : Nat) y, (l ++ [x])[j]? = some y → w.cell? ⟨g, j, none⟩ = some (.string (Hog.mk y)) := by
      intro j y hy
      have hj : (((l ++ [x]).map Hog.mk).map Value.string)[j]? = some (.string (Hog.mk y)) := by rw [List.getElem?_map, List.getElem?_map, hy]; rfl
      rw [← ht, List.getElem?_take] at hj
      split at hj
      · rw [World.cell?, hg]; simpa using hj
      · cases hj
    refine ⟨g, cap, by simpa using hv, by simpa using hn, hlt, hcell _ x (by simp), .inr ⟨g, 0, cap, by simp, by simp at hn ⊢; omega, hlt, fun j z hz => ?_⟩⟩
    obtain ⟨y, hy, rfl⟩ : ∃ y, l[j]? = some y ∧ Hog.mk y = z := by simpa using hz
    rw [Nat.zero_add]
    exact hcell j y (by rw [List.getElem?_append_left (List.getElem?_eq_some_iff.1 hy).1]; exact hy)

theorem joinV_split {q : List UInt8} (h : Hog.mayL q = true) : joinV (Hog.splitL q) = q ∧ Hog.joinOk (Hog.splitL q) = true := by
  have sq : Hog.splitL q = Hog.cutC q := by unfold Hog.splitL; rw [if_pos h]
  have hj := Hog.joinOk_cut h
  rw [sq]
  exact ⟨by unfold joinV; rw [if_pos hj, Hog.join_cutC], hj⟩

end Go.Proofs.YtmlkknbndglgaaaGreatDoor
/- The walk of the document's own Under. -/
namespace Go.Proofs.YtmlkknbndglgaaaGreatDoor
open Go.RowKit

theorem under_val (p d : ByteArray) (h1 : Hog.mayL p.data.toList = true) (h2 : Hog.mayL d.data.toList = true) :
    Hog.underL p.data.toList d.data.toList = (p.toList == d.toList || d.toList.isEmpty || Lib.hasPrefix p.data.toList (d.data.toList ++ [47])) := by
  unfold Hog.underL
  rw [h1, h2, Lib.toList_data, Lib.toList_data]; rfl

theorem pre_val (p d : ByteArray) (h : d.size < p.size) :
    Lib.hasPrefix p.data.toList (d.data.toList ++ [47]) = ((p.extract 0 d.size).toList == d.toList && ((p[d.size].toNat : Int) == 47)) := by
  rw [Lib.toList_data, Lib.toList_data, Lib.extract_data, Nat.sub_zero, List.drop_zero, Bool.eq_iff_iff, Bool.and_eq_true, Hog.hasPrefix_iff, beq_iff_eq]
  have hd := Hog.size_len d
  have hb := at_byte p d.size h
  constructor
  · rintro ⟨t, ht⟩
    have e1 : p.data.toList.take d.size = d.data.toList := by rw [← ht, hd]; simp
    refine ⟨e1, ?_⟩
    have e2 : p.data.toList[d.size]? = some 47 := by rw [← ht, hd]; simp
    have e3 : p[d.size] = 47 := Option.some.inj (hb.symm.trans e2)
    rw [e3]; rfl
  · rintro ⟨e1, e2⟩
    have e3 : p[d.size] = 47 := byte_is (n := 47) (by decide) e2
    obtain ⟨hlt, hv⟩ := List.getElem?_eq_some_iff.1 hb
    refine ⟨p.data.toList.drop (d.size + 1), ?_⟩
    conv => rhs; rw [← List.take_append_drop d.size p.data.toList, e1, List.drop_eq_getElem_cons hlt, hv, e3]
    simp
theorem pre_short (p d : ByteArray) (h : p.size ≤ d.size) : Lib.hasPrefix p.data.toList (d.data.toList ++ [47]) = false := by
  cases hh : Lib.hasPrefix p.data.toList (d.data.toList ++ [47]) with
  | false => rfl
  | true =>
    have := ((Hog.hasPrefix_iff _ _).1 hh).length_le
    rw [List.length_append, ← Hog.size_len, ← Hog.size_len] at this
    simp at this; omega

end Go.Proofs.YtmlkknbndglgaaaGreatDoor
/- The walk of the statements' own OverTexts: what was answered is written over, and beyond. -/
namespace Go.Proofs.YtmlkknbndglgaaaGreatDoor
open Go.RowKit

theorem Own.stored {base : Nat} {w : World} {g cap : Nat} {xs : List ByteArray} (h : Own base w (.slice (some ⟨g, 0, none⟩) xs.length cap) xs) (j : Nat) (x : ByteArray) :
    Own base (w.setCell ⟨g, j, none⟩ (.string x)) (.slice (some ⟨g, 0, none⟩) (xs.set j x).length cap) (xs.set j x) := by
  have h2 := World.ownsRow.stored h j (.string x)
  unfold Own
  rw [List.map_set, List.length_set]
  exact h2.1

set_option maxRecDepth 100000 in
set_option maxHeartbeats 800000 in
theorem over_none (base : Nat) (w : World) (hb : base ≤ w.heap.size) :
    Calls Tryz.prog 19 #[.slice none 0 0] w fun e w' => e = .returned (.tuple #[]) ∧ Below base w w' := by
  go_enter Tryz.func19, Tryz.ntmps19
  go_wp2
  go_loop [2] (fun i => i = .int .i64 0) (fun _ => 0)
  case atStart => rfl
  case round =>
    subst hrel
    go_wp2_with (at_builtin; refine wpList_append_texts rfl _ _ rfl base w.heap.size _ _ [] [⟨#[111, 118, 101, 114]⟩] rfl (Own.nil _ _) rfl (Own.one w _) (by simp) (by simp; omega) ?_)
    intro b c w1 _ hb1
    go_wp2
    go_end0
    exact ⟨rfl, ((Below.refl _ _).alloc hb _).trans hb1⟩
set_option maxRecDepth 100000 in
set_option maxHeartbeats 800000 in
theorem over_some (base g cap : Nat) (xs : List ByteArray) (w : World) (hb : base ≤ w.heap.size) (h : Own base w (.slice (some ⟨g, 0, none⟩) xs.length cap) xs) (hl : xs.length < 900000) :
    Calls Tryz.prog 19 #[.slice (some ⟨g, 0, none⟩) xs.length cap] w fun e w' => e = .returned (.tuple #[]) ∧ Below base w w' := by
  have hg : base ≤ g := (h.lt g rfl).1
  obtain ⟨n, hn⟩ : ∃ n, n = xs.length := ⟨_, rfl⟩
  have HO := hide h
  have HN := hide hn
  rw [← hn] at hl ⊢
  clear h hn
  go_enter Tryz.func19, Tryz.ntmps19
  go_wp2
  go_loopw [2] (fun i wr => ∃ k : Nat, k ≤ n ∧ i = .int .i64 k ∧ Hid (∃ ys : List ByteArray, ys.length = n ∧ Own base wr (.slice (some ⟨g, 0, none⟩) ys.length cap) ys) ∧ Below base w wr) (fun i _ => n - (intOf i).toNat)
  case atStart => exact ⟨0, Nat.zero_le _, rfl, ⟨xs, HN.out.symm, HO.out⟩, Below.refl _ _⟩
  case round =>
    obtain ⟨k, hk, rfl, hys, hbl⟩ := hrel
    obtain ⟨ys, hyn, hown⟩ := hys.out
    have HO2 := hide hown
    have HY := hide hyn
    clear hys hown hyn
    have hbs := hbl.size
    by_cases hlt : k < n
    · have hf : wr.frozen? ⟨g, k, none⟩ = false := World.ownsRow.frozenAt HO2.out k
      obtain ⟨y, hy⟩ : ∃ y, ys[k]? = some y := ⟨ys[k]'(by have := HY.out; omega), List.getElem?_eq_some_iff.2 ⟨_, rfl⟩⟩
      have hc : wr.cell? ⟨g, k, none⟩ = some (.string y) := by
        have h1 := World.ownsRow.cellAt HO2.out k (by have := HY.out; omega)
        rw [h1]; simp [hy]
      clear hy
      go_wp2
      go_roundw
      case rel =>
        refine ⟨k + 1, by omega, by go_num, ⟨ys.set k ⟨#[111, 118, 101, 114]⟩, by rw [List.length_set]; exact HY.out, HO2.out.stored k _⟩, hbl.setCell hg _⟩
      case measure => simp [intOf]; omega
    · have HO3 := hide (HO2.out.alloc (.cells #[.string ⟨#[111, 118, 101, 114]⟩] 9))
      rw [HY.out] at HO3
      go_wp2_with (at_builtin; refine wpList_append_texts rfl _ _ rfl base wr.heap.size _ _ ys [⟨#[111, 118, 101, 114]⟩] rfl HO3.out rfl (Own.one wr _) (by simp; have := HY.out; omega) (by simp; omega) ?_)
      intro b c w1 _ hb1
      go_wp2
      go_end0
      exact ⟨rfl, hbl.trans (((Below.refl _ _).alloc (by omega) _).trans hb1)⟩
theorem over_ok (v : Value) (xs : List ByteArray) (base : Nat) (w0 w : World) (h : Ok w0 w) (ho : Own base w v xs) (hb : w0.heap.size ≤ base) (hl : xs.length < 900000) :
    Calls Tryz.prog 19 #[v] w fun e w' => e = .returned (.tuple #[]) ∧ Ok w0 w' := by
  have ho' := ho.base hb
  obtain ⟨_, h2⟩ := id ho'
  rcases h2 with ⟨rfl, _⟩ | ⟨g, cap, cur, rfl, _⟩
  · refine (over_none w0.heap.size w h.size).mono ?_
    rintro e w' ⟨rfl, hb1⟩
    exact ⟨rfl, h.step hb1⟩
  · refine (over_some w0.heap.size g cap xs w h.size ho' hl).mono ?_
    rintro e w' ⟨rfl, hb1⟩
    exact ⟨rfl, h.step hb1⟩
end Go.Proofs.YtmlkknbndglgaaaGreatDoor
