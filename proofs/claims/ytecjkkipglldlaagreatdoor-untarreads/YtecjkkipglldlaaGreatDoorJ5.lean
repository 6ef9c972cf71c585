/- Texts that stand together, joined: R1, R2, R3, R4, R5. -/
import Derived.Test.YtecjkkipglldlaaGreatDoorJ2
/- The walk of the document's own Part. -/
namespace Go.Proofs.YtecjkkipglldlaaGreatDoor
open Go.RowKit

theorem take_byte (s : ByteArray) (k : Nat) (h : k < s.size) : s.data.toList.take (k + 1) = s.data.toList.take k ++ [s[k]] := by
  rw [List.take_succ_eq_append_getElem (by rw [← Hog.size_len]; exact h)]; rfl
theorem at_byte (s : ByteArray) (k : Nat) (h : k < s.size) : s.data.toList[k]? = some s[k] := Lib.data_getElem? s k h
theorem byte_is {u : UInt8} {n : Nat} (hn : n < 256) (h : ((u.toNat : Int) == (n : Int)) = true) : u = UInt8.ofNat n := by
  have h2 : u.toNat = n := by have := beq_iff_eq.1 h; omega
  apply UInt8.toNat_inj.1
  rw [h2, UInt8.toNat_ofNat', Nat.mod_eq_of_lt hn]
theorem byte_not {u : UInt8} {n : Nat} (hn : n < 256) (h : ((u.toNat : Int) == (n : Int)) = false) : u ≠ UInt8.ofNat n := by
  intro e
  have h2 : u.toNat = n := by rw [e, UInt8.toNat_ofNat', Nat.mod_eq_of_lt hn]
  rw [beq_eq_false_iff_ne] at h
  exact h (by rw [h2])

/-- A text without a stroke and a nought: what is left to ask. -/
theorem part_free {l : List UInt8} (h1 : 47 ∉ l) (h2 : 0 ∉ l) : Hog.partL l = (!(l.isEmpty || decide (60 < l.length)) && !(l == [46] || l == [46, 46] || Lib.hasPrefix l [46, 119, 104, 46])) := by
  unfold Hog.partL
  rw [decide_eq_true ((Hog.indexByte_neg l 47).2 h1), decide_eq_true ((Hog.indexByte_neg l 0).2 h2), Bool.and_self, Bool.and_true]
theorem part_bad {l : List UInt8} (h : 47 ∈ l ∨ 0 ∈ l) : Hog.partL l = false := by
  cases hp : Hog.partL l with
  | false => rfl
  | true =>
    obtain ⟨_, _, h1, h2⟩ := Hog.part_parts hp
    rcases h with h | h
    · exact absurd h h1
    · exact absurd h h2

theorem byte_mem (s : ByteArray) (k : Nat) (hk : k < s.size) {n : Nat} (hn : n < 256) (h : ((s[k].toNat : Nat) : Int) = (n : Int)) : UInt8.ofNat n ∈ s.data.toList := by
  have e := byte_is hn (beq_iff_eq.2 h)
  rw [← e]
  exact List.mem_of_getElem? (at_byte s k hk)
theorem free_step (s : ByteArray) (k : Nat) (hk : k < s.size) (h1 : (((s[k].toNat : Nat) : Int) == 47) = false) (h2 : (((s[k].toNat : Nat) : Int) == 0) = false) (h : 47 ∉ s.data.toList.take k ∧ 0 ∉ s.data.toList.take k) : 47 ∉ s.data.toList.take (k + 1) ∧ 0 ∉ s.data.toList.take (k + 1) := by
  rw [take_byte s k hk]
  have e1 : s[k] ≠ 47 := byte_not (n := 47) (by decide) h1
  have e2 : s[k] ≠ 0 := byte_not (n := 0) (by decide) h2
  exact ⟨by simp only [List.mem_append, List.mem_singleton, not_or]; exact ⟨h.1, fun e => e1 e.symm⟩, by simp only [List.mem_append, List.mem_singleton, not_or]; exact ⟨h.2, fun e => e2 e.symm⟩⟩

theorem part_val (s : ByteArray) (hf : 47 ∉ s.data.toList ∧ 0 ∉ s.data.toList) :
    Hog.partL s.data.toList = (decide ((1 : Int) ≤ (s.size : Int)) && decide ((s.size : Int) ≤ 60) && (!s.toList == [46]) && (!s.toList == [46, 46]) && !(decide ((4 : Int) ≤ (s.size : Int)) && (s.extract 0 4).toList == [46, 119, 104, 46])) := by
  rw [part_free hf.1 hf.2, ← Lib.hasPrefix_of_take, Lib.toList_data, Lib.extract_toList]
  have hz := Hog.size_len s
  have e1 : (!(s.data.toList.isEmpty || decide (60 < s.data.toList.length))) = (decide ((1 : Int) ≤ (s.size : Int)) && decide ((s.size : Int) ≤ 60)) := by
    rw [Bool.eq_iff_iff]
    simp only [Bool.not_eq_true', Bool.or_eq_false_iff, Bool.and_eq_true, decide_eq_true_eq, decide_eq_false_iff_not, List.isEmpty_eq_false_iff, ← List.length_pos_iff]
    omega
  have e2 : decide (([46, 119, 104, 46] : List UInt8).length ≤ s.data.toList.length) = decide ((4 : Int) ≤ (s.size : Int)) := by
    rw [Bool.eq_iff_iff]
    simp only [decide_eq_true_eq, List.length_cons, List.length_nil]
    omega
  rw [e1, e2]
  simp [Bool.and_assoc]

set_option maxHeartbeats 800000 in
theorem rpart_any (s : ByteArray) (w : World) (hs : s.size < 1000000) :
    Calls Tryz.prog 101 #[.string s] w fun e w' => e = .returned (.bool (Hog.partL s.data.toList)) ∧ w' = w := by
  go_enter Tryz.func101, Tryz.ntmps101
  go_wp2
  go_loop [3] (fun i => ∃ k : Nat, k ≤ s.size ∧ i = .int .i64 k ∧ Hid (47 ∉ s.data.toList.take k ∧ 0 ∉ s.data.toList.take k)) (fun i => s.size - (intOf i).toNat)
  case atStart => exact ⟨0, Nat.zero_le _, rfl, by simp [Hid]⟩
  case round =>
    obtain ⟨k, hk, rfl, hfree⟩ := hrel
    by_cases hlt : k < s.size
    · go_wp2
      · have h : ((s[k].toNat : Nat) : Int) = 47 := by assumption
        go_ret
        exact ⟨ret_bool (part_bad (.inl (byte_mem s k hlt (n := 47) (by decide) h))).symm, rfl⟩
      · have h : (((s[k].toNat : Nat) : Int) == 47) = true ∨ (((s[k].toNat : Nat) : Int) == 0) = true := by assumption
        go_ret
        refine ⟨ret_bool (part_bad ?_).symm, rfl⟩
        rcases h with h | h
        · exact .inl (byte_mem s k hlt (n := 47) (by decide) (beq_iff_eq.1 h))
        · exact .inr (byte_mem s k hlt (n := 0) (by decide) (beq_iff_eq.1 h))
      · have h : (((s[k].toNat : Nat) : Int) == 47) = false ∧ (((s[k].toNat : Nat) : Int) == 0) = false := by assumption
        go_round
        case rel => exact ⟨k + 1, by omega, by go_num, free_step s k hlt h.1 h.2 hfree.out⟩
        case measure => simp [intOf]; omega
    · have hkk : k = s.size := by omega
      have hf : Hid (47 ∉ s.data.toList ∧ 0 ∉ s.data.toList) := by
        have h := hfree.out
        rw [hkk, Hog.size_len, List.take_length] at h
        exact h
      clear hkk hfree
      go_wp2
      all_goals
        go_ret
        refine ⟨ret_bool ?_, rfl⟩
        rw [part_val s hf.out]
        first
          | (rw [decide_eq_false (show ¬ (1 : Int) ≤ (s.size : Int) by omega)]; simp; done)
          | (rw [decide_eq_false (show ¬ (s.size : Int) ≤ 60 by omega)]; simp; done)
          | (have h : s.toList = [46] := by assumption
             simp [h]; done)
          | (have h : s.toList = [46, 46] := by assumption
             simp [h]; done)
          | (rw [decide_eq_true (show (1 : Int) ≤ (s.size : Int) by omega), decide_eq_true (show (s.size : Int) ≤ 60 by omega), decide_eq_true (show (4 : Int) ≤ (s.size : Int) by omega)]; simp; done)
          | (rw [decide_eq_true (show (1 : Int) ≤ (s.size : Int) by omega), decide_eq_true (show (s.size : Int) ≤ 60 by omega), decide_eq_false (show ¬ (4 : Int) ≤ (s.size : Int) by omega)]; simp; done)

end Go.Proofs.YtecjkkipglldlaaGreatDoor
/- The walk of the document's own Cut. -/
namespace Go.Proofs.YtecjkkipglldlaaGreatDoor
open Go.RowKit

theorem Own.one (w : World) (x : ByteArray) : Own w.heap.size (w.alloc (.cells #[.string x] 9)) (.slice (some ⟨w.heap.size, 0, none⟩) 1 1) [x] := by
  simpa using Own.made w [x] (by unfold maxLen; simp)
theorem Own.alloc {base : Nat} {w : World} {v : Value} {xs : List ByteArray} (h : Own base w v xs) (o : Obj) : Own base (w.alloc o) v xs := h.below (below_alloc w o)
theorem piece_mk (s : ByteArray) (a k : Nat) : s.extract a k = Hog.mk ((s.data.toList.drop a).take (k - a)) := Lib.extract_eq s a k

/-- What Cut holds behind k rounds: the parts so far, and where the next one begins. -/
def CutRel (l : List UInt8) (k at' : Nat) (done : List (List UInt8)) : Prop :=
  (k ≤ l.length ∧ done ++ Hog.cutL (l.drop at') = Hog.cutL l ∧ 47 ∉ (l.drop at').take (k - at')) ∨ (k = l.length + 1 ∧ done = Hog.cutL l)

theorem cutrel_end {l : List UInt8} {at' : Nat} {done : List (List UInt8)} (h : CutRel l l.length at' done) : CutRel l (l.length + 1) (l.length + 1) (done ++ [(l.drop at').take (l.length - at')]) := by
  rcases h with ⟨_, h1, h2⟩ | ⟨h1, _⟩
  · refine .inr ⟨rfl, ?_⟩
    have e : (l.drop at').take (l.length - at') = l.drop at' := List.take_of_length_le (by simp)
    rw [e] at h2 ⊢
    rw [← h1, Hog.cut_no _ h2]
  · omega
theorem cutrel_stroke {l : List UInt8} {k at' : Nat} {done : List (List UInt8)} (h : CutRel l k at' done) (ha : at' ≤ k) (hk : k < l.length) (hc : l[k]? = some 47) : CutRel l (k + 1) (k + 1) (done ++ [(l.drop at').take (k - at')]) := by
  rcases h with ⟨_, h1, h2⟩ | ⟨h1, _⟩
  · refine .inl ⟨by omega, ?_, by simp⟩
    obtain ⟨hk', hv⟩ := List.getElem?_eq_some_iff.1 hc
    have e : l.drop at' = (l.drop at').take (k - at') ++ 47 :: l.drop (k + 1) := by
      conv => lhs; rw [← List.take_append_drop (k - at') (l.drop at')]
      rw [List.drop_drop, show at' + (k - at') = k by omega, List.drop_eq_getElem_cons hk', hv]
    have e2 : Hog.cutL (l.drop at') = (l.drop at').take (k - at') :: Hog.cutL (l.drop (k + 1)) := by
      conv => lhs; rw [e]
      exact Hog.cut_at _ _ h2
    rw [List.append_assoc, List.singleton_append, ← e2]
    exact h1
  · omega
theorem cutrel_other {l : List UInt8} {k at' : Nat} {done : List (List UInt8)} (h : CutRel l k at' done) (ha : at' ≤ k) (hk : k < l.length) {c : UInt8} (hc : l[k]? = some c) (hne : c ≠ 47) : CutRel l (k + 1) at' done := by
  rcases h with ⟨_, h1, h2⟩ | ⟨h1, _⟩
  · refine .inl ⟨by omega, h1, ?_⟩
    have hd : (l.drop at')[k - at']? = some c := by rw [List.getElem?_drop, show at' + (k - at') = k by omega]; exact hc
    obtain ⟨hk', hv⟩ := List.getElem?_eq_some_iff.1 hd
    rw [show k + 1 - at' = (k - at') + 1 by omega, List.take_succ_eq_append_getElem hk', hv]
    simp only [List.mem_append, List.mem_singleton, not_or]
    exact ⟨h2, fun e => hne e.symm⟩
  · omega

theorem own_step {base : Nat} {w : World} {b : Option Addr} {c : Nat} {done : List (List UInt8)} {s : ByteArray} {at' k : Nat} (h : Own base w (.slice b (done.length + 1) c) (done.map Hog.mk ++ [s.extract at' k])) :
    Own base w (.slice b (done ++ [(s.data.toList.drop at').take (k - at')]).length c) ((done ++ [(s.data.toList.drop at').take (k - at')]).map Hog.mk) := by
  rw [piece_mk] at h
  simpa using h

set_option maxRecDepth 100000 in
set_option maxHeartbeats 1000000 in
theorem rcut_any (s : ByteArray) (w : World) (hs : s.size < 900000) :
    Calls Tryz.prog 100 #[.string s] w fun e w' => ∃ v, e = .returned v ∧ Own w.heap.size w' v ((Hog.cutL s.data.toList).map Hog.mk) ∧ Below w.heap.size w w' := by
  go_enter Tryz.func100, Tryz.ntmps100
  go_wp2
  go_loopw [3, 4, 5] (fun v a i wr => ∃ (k at' : Nat) (done : List (List UInt8)) (b : Option Addr) (c : Nat), k ≤ s.size + 1 ∧ at' ≤ k ∧ i = .int .i64 k ∧ a = .int .i64 at' ∧ v = .slice b done.length c ∧
      Hid (Own w.heap.size wr (.slice b done.length c) (done.map Hog.mk)) ∧ Hid (CutRel s.data.toList k at' done) ∧ Below w.heap.size w wr ∧ done.length ≤ k)
    (fun _ _ i _ => s.size + 1 - (intOf i).toNat)
  case atStart => exact ⟨0, 0, [], none, 0, by omega, by omega, rfl, rfl, rfl, Own.nil _ _, .inl ⟨by omega, by simp, by simp⟩, Below.refl _ _, by simp⟩
  case round =>
    obtain ⟨k, at', done, b, c, hk, hat, rfl, rfl, rfl, hown, hrel, hbl, hdl⟩ := hrel
    by_cases hle : k ≤ s.size
    · have hle' : (k : Int) ≤ (s.size : Int) := by omega
      by_cases heq : k = s.size
      · have HE := hide heq
        have hq : ((k : Int) == (s.size : Int)) = true := by rw [heq]; simp
        clear heq
        go_wp2_with (at_builtin; refine wpList_append_texts rfl _ _ rfl w.heap.size wr.heap.size _ _ (done.map Hog.mk) [s.extract at' k] rfl (hown.out.alloc _) rfl (Own.one wr _) (by simp; omega) (by have := hbl.size; simp; omega) ?_)
        intro b1 c1 w1 ho hb
        have HO := hide (own_step ho)
        have hb1 : Below w.heap.size w w1 := hbl.trans (((Below.refl _ _).alloc hbl.size _).trans hb)
        clear ho hb
        go_wp2
        go_roundw
        case rel =>
          refine ⟨k + 1, k + 1, done ++ [(s.data.toList.drop at').take (k - at')], b1, c1, by omega, by omega, by go_num, by go_num, by simp, HO.out, ?_, hb1, by simp; omega⟩
          have e : k = s.data.toList.length := by rw [← Hog.size_len]; exact HE.out
          have h := hrel.out
          rw [e] at h ⊢
          exact cutrel_end h
        case measure => simp [intOf]; omega
      · have hlt : k < s.size := by omega
        have hq : ((k : Int) == (s.size : Int)) = false := by rw [beq_eq_false_iff_ne]; omega
        have hat2 := hide (at_byte s k hlt)
        have hll := hide (show k < s.data.toList.length by rw [← Hog.size_len]; exact hlt)
        clear heq
        by_cases hc : s[k] = 47
        · have hc2 : (((s[k].toNat : Nat) : Int) == 47) = true := by rw [hc]; rfl
          have HC := hide hc
          clear hc
          go_wp2_with (at_builtin; refine wpList_append_texts rfl _ _ rfl w.heap.size wr.heap.size _ _ (done.map Hog.mk) [s.extract at' k] rfl (hown.out.alloc _) rfl (Own.one wr _) (by simp; omega) (by have := hbl.size; simp; omega) ?_)
          intro b1 c1 w1 ho hb
          have HO := hide (own_step ho)
          have hb1 : Below w.heap.size w w1 := hbl.trans (((Below.refl _ _).alloc hbl.size _).trans hb)
          clear ho hb
          go_wp2
          go_roundw
          case rel =>
            refine ⟨k + 1, k + 1, done ++ [(s.data.toList.drop at').take (k - at')], b1, c1, by omega, by omega, by go_num, by go_num, by simp, HO.out, ?_, hb1, by simp; omega⟩
            exact cutrel_stroke hrel.out hat hll.out (hat2.out.trans (congrArg some HC.out))
          case measure => simp [intOf]; omega
        · have hc2 : (((s[k].toNat : Nat) : Int) == 47) = false := by
            rw [beq_eq_false_iff_ne]
            intro e
            exact hc (byte_is (n := 47) (by decide) (beq_iff_eq.2 e))
          have HC := hide hc
          clear hc
          go_wp2
          go_roundw
          case rel => exact ⟨k + 1, at', done, b, c, by omega, by omega, by go_num, rfl, rfl, hown, cutrel_other hrel.out hat hll.out hat2.out HC.out, hbl, by omega⟩
          case measure => simp [intOf]; omega
    · have hle' : (s.size : Int) < (k : Int) := by omega
      go_wp2
      go_ret
      refine ⟨_, rfl, ?_, hbl⟩
      have e : k = s.data.toList.length + 1 := by rw [← Hog.size_len]; omega
      rcases hrel.out with ⟨h1, _⟩ | ⟨_, h2⟩
      · omega
      · rw [← h2]; exact hown.out

end Go.Proofs.YtecjkkipglldlaaGreatDoor
/- The walks of the document's own May, Split, Under. -/
namespace Go.Proofs.YtecjkkipglldlaaGreatDoor
open Go.RowKit

/-- Texts that are not none lie at an address. -/
theorem Txt.at {w : World} {v : Value} {l : List (List UInt8)} (h : Txt w v (l.map Hog.mk)) (hne : l ≠ []) :
    ∃ b o c, v = .slice (some ⟨b, o, none⟩) l.length c ∧ l.length ≤ c ∧ b < w.heap.size ∧ ∀ (j : Nat) y, l[j]? = some y → w.cell? ⟨b, o + j, none⟩ = some (.string (Hog.mk y)) := by
  rcases h with ⟨e, _⟩ | ⟨b, o, c, rfl, hc, hb, hcell⟩
  · exact absurd (List.map_eq_nil_iff.1 e) hne
  · refine ⟨b, o, c, by rw [List.length_map], by simpa using hc, hb, fun j y hy => hcell j (Hog.mk y) (by simp [hy])⟩

theorem rpart_ok (x : List UInt8) (b : Bool) (w : World) (hp : x.length < 999999) (hv : Hog.partL x = b) :
    Calls Tryz.prog 101 #[.string (Hog.mk x)] w fun e w' => e = .returned (.bool b) ∧ w' = w := by
  refine (rpart_any (Hog.mk x) w (by rw [Hog.mk_size]; omega)).mono ?_
  rintro e w' ⟨rfl, rfl⟩
  exact ⟨ret_bool (by rw [Hog.mk_data]; exact hv), rfl⟩

theorem allL_step {l : List (List UInt8)} {k : Nat} {y : List UInt8} (hy : l[k]? = some y) (h : (l.take k).all Hog.partL = true) (hp : Hog.partL y = true) : (l.take (k + 1)).all Hog.partL = true := by
  obtain ⟨hk, rfl⟩ := List.getElem?_eq_some_iff.1 hy
  rw [List.take_succ_eq_append_getElem hk, List.all_append, h]
  simpa using hp
theorem allL_fall {l : List (List UInt8)} {k : Nat} {y : List UInt8} (hy : l[k]? = some y) (hp : Hog.partL y = false) : l.all Hog.partL = false := by
  rw [List.all_eq_false]
  exact ⟨y, List.mem_of_getElem? hy, by simp [hp]⟩

theorem may_cut {p : List UInt8} (hne : p ≠ []) : Hog.mayL p = (decide (p.length ≤ 200) && (decide ((Hog.cutL p).length ≤ 10) && (Hog.cutL p).all Hog.partL)) := by
  unfold Hog.mayL Hog.allP Hog.cutC
  rw [if_neg hne]

set_option maxHeartbeats 1000000 in
theorem rmay_any (s : ByteArray) (w : World) (hs : s.size < 900000) :
    Calls Tryz.prog 83 #[.string s] w fun e w' => e = .returned (.bool (Hog.mayL s.data.toList)) ∧ Below w.heap.size w w' := by
  by_cases h0 : s.data.toList = []
  · have hb : s.toList.isEmpty = true := by rw [Lib.toList_data, h0]; rfl
    have HE := hide h0
    clear h0
    go_enter Tryz.func83, Tryz.ntmps83
    go_wp2_with fail
    go_ret
    exact ⟨ret_bool (by rw [HE.out]; decide), Below.refl _ _⟩
  · have hb : s.toList.isEmpty = false := by rw [Lib.toList_data]; simpa using h0
    have HE := hide h0
    clear h0
    by_cases h : s.size ≤ 200
    · have h' : (s.size : Int) ≤ 200 := by omega
      have HC := hide (Hog.cut_len s.data.toList)
      obtain ⟨l, hl⟩ : ∃ l, l = Hog.cutL s.data.toList := ⟨_, rfl⟩
      have HL := hide hl
      have hln : l.length ≤ 201 := by have := HC.out; rw [hl]; rw [← Hog.size_len] at this; omega
      have hne := hide (show l ≠ [] by rw [hl]; exact Hog.cut_ne _)
      have HZ := hide (show ∀ y ∈ l, y.length ≤ 200 by intro y hy; rw [hl] at hy; have := Hog.cut_part_len _ y hy; rw [← Hog.size_len] at this; omega)
      have HM := hide (show Hog.mayL s.data.toList = (decide (l.length ≤ 10) && l.all Hog.partL) by
        rw [may_cut HE.out, ← hl, ← Hog.size_len, decide_eq_true h, Bool.true_and])
      clear hl HC h
      go_enter Tryz.func83, Tryz.ntmps83
      go_wp2_with fail
      refine (rcut_any s w hs).mono ?_
      rintro e w1 ⟨v, rfl, ho, hb1⟩
      rw [← HL.out] at ho
      obtain ⟨b, o, c, hv, _, _, hcell⟩ := ho.txt.at hne.out
      rw [hv]
      have HB := hide hb1
      have HCELL := hide hcell
      clear ho hv hb1 hcell
      go_wp2
      go_loop [4] (fun i => ∃ k : Nat, k ≤ l.length ∧ i = .int .i64 k ∧ Hid ((l.take k).all Hog.partL = true)) (fun i => l.length - (intOf i).toNat)
      case atStart => exact ⟨0, Nat.zero_le _, rfl, rfl⟩
      case round =>
        obtain ⟨k, hk, rfl, hall⟩ := hrel
        by_cases hlt : k < l.length
        · obtain ⟨y, hy⟩ : ∃ y, l[k]? = some y := ⟨l[k], List.getElem?_eq_some_iff.2 ⟨hlt, rfl⟩⟩
          have hc := HCELL.out k y hy
          have hyz := HZ.out y (List.mem_of_getElem? hy)
          have HY := hide hy
          clear hy
          cases hp : Hog.partL y with
          | true =>
            have HP := hide hp
            clear hp
            go_wp2_with (go_at_call 101; refine (rpart_ok y true _ (by omega) HP.out).mono ?_; rintro e w' ⟨rfl, rfl⟩)
            go_round
            case rel => exact ⟨k + 1, by omega, by go_num, allL_step HY.out hall.out HP.out⟩
            case measure => simp [intOf]; omega
          | false =>
            have HP := hide hp
            clear hp
            go_wp2_with (go_at_call 101; refine (rpart_ok y false _ (by omega) HP.out).mono ?_; rintro e w' ⟨rfl, rfl⟩)
            go_ret
            exact ⟨ret_bool (by rw [HM.out, allL_fall HY.out HP.out, Bool.and_false]), HB.out⟩
        · go_wp2
          go_ret
          refine ⟨ret_bool ?_, HB.out⟩
          have e : k = l.length := by omega
          have h1 := hall.out
          rw [e, List.take_length] at h1
          rw [HM.out, h1, Bool.and_true]
          rw [Bool.eq_iff_iff]
          simp only [decide_eq_true_eq]
          omega
    · have h' : (200 : Int) < (s.size : Int) := by omega
      go_enter Tryz.func83, Tryz.ntmps83
      go_wp2_with fail
      go_ret
      exact ⟨ret_bool (by rw [may_cut HE.out, ← Hog.size_len, decide_eq_false h, Bool.false_and]), Below.refl _ _⟩

end Go.Proofs.YtecjkkipglldlaaGreatDoor
/- The walks of the document's own Split and Join. -/
namespace Go.Proofs.YtecjkkipglldlaaGreatDoor
open Go.RowKit

theorem rmay_ok (p : ByteArray) (b : Bool) (w0 w : World) (h : Ok w0 w) (hp : p.size < 900000) (hv : Hog.mayL p.data.toList = b) :
    Calls Tryz.prog 83 #[.string p] w fun e w' => e = .returned (.bool b) ∧ Ok w0 w' ∧ Below w.heap.size w w' := by
  refine (rmay_any p w hp).mono ?_
  rintro e w' ⟨rfl, hb⟩
  exact ⟨ret_bool hv, h.next hb, hb⟩
theorem rcut_ok (p : ByteArray) (l : List (List UInt8)) (w0 w : World) (h : Ok w0 w) (hp : p.size < 900000) (hv : Hog.cutL p.data.toList = l) :
    Calls Tryz.prog 100 #[.string p] w fun e w' => ∃ a c, e = .returned (.slice a l.length c) ∧ Own w.heap.size w' (.slice a l.length c) (l.map Hog.mk) ∧ Ok w0 w' ∧ Below w.heap.size w w' := by
  refine (rcut_any p w hp).mono ?_
  rintro e w' ⟨v, rfl, ho, hb⟩
  rw [hv] at ho
  obtain ⟨a, c, e⟩ := ho.form
  rw [List.length_map] at e
  subst e
  exact ⟨a, c, rfl, ho, h.next hb, hb⟩

set_option maxHeartbeats 800000 in
theorem rsplit_ok (p : ByteArray) (l : List (List UInt8)) (w0 w : World) (h : Ok w0 w) (hp : p.size < 900000) (hv : Hog.splitL p.data.toList = l) :
    Calls Tryz.prog 84 #[.string p] w fun e w' => ∃ a c, e = .returned (.slice a l.length c) ∧ Own w.heap.size w' (.slice a l.length c) (l.map Hog.mk) ∧ Ok w0 w' ∧ Below w.heap.size w w' := by
  have HV := hide hv
  clear hv
  by_cases h0 : p.data.toList = []
  · have hb : p.toList.isEmpty = true := by rw [Lib.toList_data, h0]; rfl
    have hl : l = [] := by rw [← HV.out, h0]; decide
    subst hl
    clear h0
    go_enter Tryz.func84, Tryz.ntmps84
    go_wp2_with fail
    go_ret
    exact ⟨none, 0, rfl, Own.nil _ _, h, Below.refl _ _⟩
  · have hb : p.toList.isEmpty = false := by rw [Lib.toList_data]; simpa using h0
    have HE := hide h0
    clear h0
    cases hm : Hog.mayL p.data.toList with
    | false =>
      have HM := hide hm
      clear hm
      have hl : l = [] := by rw [← HV.out]; unfold Hog.splitL; rw [if_neg (by rw [HM.out]; decide)]
      subst hl
      go_enter Tryz.func84, Tryz.ntmps84
      go_wp2_with fail
      refine (rmay_ok p false w0 w h hp HM.out).mono ?_
      rintro e w1 ⟨rfl, ok1, hb1⟩
      go_wp2_with fail
      go_ret
      exact ⟨none, 0, rfl, Own.nil _ _, ok1, hb1⟩
    | true =>
      have HM := hide hm
      clear hm
      have HL := hide (show Hog.cutL p.data.toList = l by rw [← HV.out]; unfold Hog.splitL Hog.cutC; rw [if_pos HM.out, if_neg HE.out])
      go_enter Tryz.func84, Tryz.ntmps84
      go_wp2_with fail
      refine (rmay_ok p true w0 w h hp HM.out).mono ?_
      rintro e w1 ⟨rfl, ok1, hb1⟩
      go_wp2_with fail
      refine (rcut_ok p l w0 w1 ok1 hp HL.out).mono ?_
      rintro e w2 ⟨a, c, rfl, ho, ok2, hb2⟩
      go_wp2_with fail
      go_ret
      exact ⟨a, c, rfl, ho.base hb1.size, ok2, below_two hb1 hb2⟩

theorem join_take_len (l : List (List UInt8)) (k : Nat) : (Hog.joinS (l.take k)).length ≤ (Hog.joinS l).length := by
  by_cases h1 : l.take k = []
  · rw [h1]; simp [Hog.join_nil]
  · by_cases h2 : l.drop k = []
    · have e : l.take k = l := by conv => rhs; rw [← List.take_append_drop k l, h2, List.append_nil]
      rw [e]; exact Nat.le_refl _
    · conv => rhs; rw [← List.take_append_drop k l]
      rw [Hog.join_app _ _ h1 h2]; simp
theorem join_first {l : List (List UInt8)} {y : List UInt8} (h : l[0]? = some y) : Hog.joinS (l.take 1) = y := by
  cases l with
  | nil => simp at h
  | cons x r => simp at h; subst h; rw [List.take_succ_cons, List.take_zero, Hog.join_one]
theorem join_later {l : List (List UInt8)} {k : Nat} {y : List UInt8} (h : l[k]? = some y) (hk : 0 < k) : Hog.joinS (l.take (k + 1)) = Hog.joinS (l.take k) ++ 47 :: y := by
  obtain ⟨hlt, rfl⟩ := List.getElem?_eq_some_iff.1 h
  rw [List.take_succ_eq_append_getElem hlt, Hog.join_app _ _ (by intro e; have := congrArg List.length e; rw [List.length_take, List.length_nil] at this; omega) (by simp), Hog.join_one]
theorem joinOk_part {l : List (List UInt8)} (h : l.all Hog.partL = false) : Hog.joinOk l = false := by
  unfold Hog.joinOk Hog.allP; rw [h, Bool.and_false, Bool.false_and]
theorem joinOk_long {l : List (List UInt8)} {k : Nat} (h : 200 < (Hog.joinS (l.take k)).length) : Hog.joinOk l = false := by
  unfold Hog.joinOk
  rw [decide_eq_false (by have := join_take_len l k; omega), Bool.and_false]
theorem joinV_no {l : List (List UInt8)} (h : Hog.joinOk l = false) : joinV l = [] := by unfold joinV; rw [if_neg (by rw [h]; decide)]
theorem mk_app (a b : List UInt8) : Hog.mk a ++ Hog.mk b = Hog.mk (a ++ b) := by
  rw [← Hog.data_mk (Hog.mk a ++ Hog.mk b)]
  rw [show (Hog.mk a ++ Hog.mk b).data.toList = a ++ b by rw [ByteArray.data_append, Array.toList_append, Hog.mk_data, Hog.mk_data]]
theorem mk_empty : (⟨#[]⟩ : ByteArray) = Hog.mk [] := rfl

set_option maxHeartbeats 1000000 in
theorem rjoin_none (a : Option Addr) (c : Nat) (w0 w : World) (h : Ok w0 w) :
    Calls Tryz.prog 85 #[.slice a 0 c] w fun e w' => e = .returned (.tuple #[.string ⟨#[]⟩, .bool true]) ∧ Ok w0 w' ∧ Below w.heap.size w w' := by
  go_enter Tryz.func85, Tryz.ntmps85
  go_wp2
  go_loop [4, 5] (fun s i => s = .string ⟨#[]⟩ ∧ i = .int .i64 0) (fun _ _ => 0)
  case atStart => exact ⟨rfl, rfl⟩
  case round =>
    obtain ⟨rfl, rfl⟩ := hrel
    go_wp2_with fail
    refine (rmay_ok ⟨#[]⟩ true w0 w h (by decide) (by decide)).mono ?_
    rintro e w1 ⟨rfl, ok1, hb1⟩
    go_wp2_with fail
    go_ret2
    exact ⟨rfl, ok1, hb1⟩

set_option maxRecDepth 100000 in
set_option maxHeartbeats 2000000 in
theorem rjoin_some (b o c : Nat) (l : List (List UInt8)) (w0 w : World) (h : Ok w0 w) (hl : l.length < 1000) (hz : ∀ y ∈ l, y.length < 1000)
    (hcell : ∀ (j : Nat) y, l[j]? = some y → w.cell? ⟨b, o + j, none⟩ = some (.string (Hog.mk y))) :
    Calls Tryz.prog 85 #[.slice (some ⟨b, o, none⟩) l.length c] w fun e w' => e = .returned (.tuple #[.string (Hog.mk (joinV l)), .bool (Hog.joinOk l)]) ∧ Ok w0 w' ∧ Below w.heap.size w w' := by
  have HC := hide hcell
  have HZ := hide hz
  have hms := Hog.mk_size
  clear hcell hz
  go_enter Tryz.func85, Tryz.ntmps85
  go_wp2
  go_loop [4, 5] (fun s i => ∃ (k : Nat) (J : List UInt8), k ≤ l.length ∧ i = .int .i64 k ∧ s = .string (Hog.mk J) ∧ Hid (J = Hog.joinS (l.take k)) ∧ Hid ((l.take k).all Hog.partL = true) ∧ J.length ≤ 2000) (fun _ i => l.length - (intOf i).toNat)
  case atStart => exact ⟨0, [], Nat.zero_le _, rfl, rfl, rfl, rfl, by simp⟩
  case round =>
    obtain ⟨k, J, hk, rfl, rfl, hJ, hall, hJl⟩ := hrel
    by_cases hlt : k < l.length
    · obtain ⟨y, hy⟩ : ∃ y, l[k]? = some y := ⟨l[k], List.getElem?_eq_some_iff.2 ⟨hlt, rfl⟩⟩
      have hc := HC.out k y hy
      have hyz := HZ.out y (List.mem_of_getElem? hy)
      have HY := hide hy
      clear hy
      cases hp : Hog.partL y with
      | false =>
        have HP := hide hp
        clear hp
        go_wp2_with (go_at_call 101; refine (rpart_ok y false _ (by omega) HP.out).mono ?_; rintro e w' ⟨rfl, rfl⟩)
        go_ret2
        have ho := joinOk_part (allL_fall HY.out HP.out)
        exact ⟨ret_two (by rw [joinV_no ho]; rfl) ho.symm, h, Below.refl _ _⟩
      | true =>
        have HP := hide hp
        clear hp
        by_cases hJ2 : J.length ≤ 200
        · have hJ2' : (J.length : Int) ≤ 200 := by omega
          by_cases hk0 : 0 < k
          · have hk0' : (0 : Int) < (k : Int) := by omega
            go_wp2_with (go_at_call 101; refine (rpart_ok y true _ (by omega) HP.out).mono ?_; rintro e w' ⟨rfl, rfl⟩)
            go_round
            case rel =>
              refine ⟨k + 1, J ++ 47 :: y, by omega, by go_num, ?_, ?_, allL_step HY.out hall.out HP.out, by simp; omega⟩
              · rw [show (⟨#[47]⟩ : ByteArray) = Hog.mk [47] from rfl, mk_app, mk_app]; simp
              · show J ++ 47 :: y = _
                rw [join_later HY.out hk0, ← hJ.out]
            case measure => simp [intOf]; omega
          · have hk1 : k = 0 := by omega
            subst hk1
            have hJ0 : J = [] := hJ.out
            subst hJ0
            have hc0 : w.cell? ⟨b, o, none⟩ = some (.string (Hog.mk y)) := by simpa using hc
            go_wp2_with (go_at_call 101; refine (rpart_ok y true _ (by omega) HP.out).mono ?_; rintro e w' ⟨rfl, rfl⟩)
            go_round
            case rel =>
              refine ⟨1, y, by omega, by go_num, ?_, (join_first HY.out).symm, allL_step HY.out hall.out HP.out, by omega⟩
              rw [mk_app]; rfl
            case measure => simp [intOf]; omega
        · have hJ2' : (200 : Int) < (J.length : Int) := by omega
          go_wp2_with (go_at_call 101; refine (rpart_ok y true _ (by omega) HP.out).mono ?_; rintro e w' ⟨rfl, rfl⟩)
          go_ret2
          have ho : Hog.joinOk l = false := joinOk_long (k := k) (by rw [← hJ.out]; omega)
          exact ⟨ret_two (by rw [joinV_no ho]; rfl) ho.symm, h, Below.refl _ _⟩
    · have e : k = l.length := by omega
      have h1 := hall.out
      have h2 := hJ.out
      rw [e, List.take_length] at h1 h2
      have hv := hide (Hog.may_join h1)
      have h2' := hide h2
      clear h1 h2 e
      cases hb : Hog.joinOk l with
      | true =>
        have HB := hide hb
        clear hb
        go_wp2_with fail
        refine (rmay_ok (Hog.mk J) true w0 w h (by rw [Hog.mk_size]; omega) (by rw [Hog.mk_data, h2'.out, hv.out]; exact HB.out)).mono ?_
        rintro e w1 ⟨rfl, ok1, hb1⟩
        go_wp2_with fail
        go_ret2
        exact ⟨ret_two (by unfold joinV; rw [if_pos HB.out, h2'.out]) HB.out.symm, ok1, hb1⟩
      | false =>
        have HB := hide hb
        clear hb
        go_wp2_with fail
        refine (rmay_ok (Hog.mk J) false w0 w h (by rw [Hog.mk_size]; omega) (by rw [Hog.mk_data, h2'.out, hv.out]; exact HB.out)).mono ?_
        rintro e w1 ⟨rfl, ok1, hb1⟩
        go_wp2_with fail
        go_ret2
        exact ⟨ret_two (by rw [joinV_no HB.out]; rfl) HB.out.symm, ok1, hb1⟩

theorem rjoin_ok (v : Value) (l : List (List UInt8)) (s : List UInt8) (b : Bool) (w0 w : World) (h : Ok w0 w) (ht : Txt w v (l.map Hog.mk)) (hl : l.length < 1000) (hz : ∀ y ∈ l, y.length < 1000) (hs : joinV l = s) (hb : Hog.joinOk l = b) :
    Calls Tryz.prog 85 #[v] w fun e w' => e = .returned (.tuple #[.string (Hog.mk s), .bool b]) ∧ Ok w0 w' ∧ Below w.heap.size w w' := by
  subst hs
  subst hb
  rcases ht with ⟨e, a, c, rfl⟩ | ⟨b, o, c, rfl, hc, hbk, hcell⟩
  · have hn : l = [] := List.map_eq_nil_iff.1 e
    subst hn
    refine (rjoin_none a c w0 w h).mono ?_
    rintro e w' ⟨rfl, ok1, hb1⟩
    exact ⟨rfl, ok1, hb1⟩
  · rw [List.length_map]
    exact rjoin_some b o c l w0 w h hl hz (fun j y hy => hcell j (Hog.mk y) (by simp [hy]))

end Go.Proofs.YtecjkkipglldlaaGreatDoor
/- The walks of the document's own Parent, Base, Under. -/
namespace Go.Proofs.YtecjkkipglldlaaGreatDoor
open Go.RowKit

/-- A text that is no path, or the root: it has no parts, no parent, no base. -/
theorem none_facts {p : List UInt8} (h : p = [] ∨ Hog.mayL p = false) : Hog.splitL p = [] ∧ Hog.parentL p = [] ∧ Hog.parentOk p = false ∧ Hog.baseL p = [] := by
  have ho : Hog.parentOk p = false := by
    unfold Hog.parentOk
    rcases h with h | h
    · rw [h]; rfl
    · rw [h, Bool.and_false]
  refine ⟨?_, by unfold Hog.parentL; rw [if_neg (by rw [ho]; decide)], ho, ?_⟩
  · rcases h with h | h
    · rw [h]; decide
    · unfold Hog.splitL; rw [if_neg (by rw [h]; decide)]
  · rcases h with h | h
    · rw [h]; decide
    · unfold Hog.baseL; rw [if_neg (by rw [h]; decide)]

theorem Own.snocAt {base : Nat} {w : World} {v : Value} {l : List (List UInt8)} {x : List UInt8} (h : Own base w v ((l ++ [x]).map Hog.mk)) :
    ∃ b c, v = .slice (some ⟨b, 0, none⟩) (l.length + 1) c ∧ l.length + 1 ≤ c ∧ b < w.heap.size ∧ w.cell? ⟨b, l.length, none⟩ = some (.string (Hog.mk x)) ∧ Txt w (.slice (some ⟨b, 0, none⟩) l.length c) (l.map Hog.mk) := by
  obtain ⟨_, h2⟩ := id h
  rcases h2 with ⟨_, h0⟩ | ⟨g, cap, cur, hv, hb, hg, hn, hm, hs, ht⟩
  · simp at h0
  · have hlt : g < w.heap.size := (Array.getElem?_eq_some_iff.1 hg).1
    have hcell : ∀ (j : Nat) y, (l ++ [x])[j]? = some y → w.cell? ⟨g, j, none⟩ = some (.string (Hog.mk y)) := by
      intro j y hy
      have hj : (((l ++ [x]).map Hog.mk).map Value.string)[j]? = some (.string (Hog.mk y)) := by rw [List.getElem?_map, List.getElem?_map, hy]; rfl
      rw [← ht, List.getElem?_take] at hj
      split at hj
      · rw [World.cell?, hg]; simpa using hj
      · cases hj
    refine ⟨g, cap, by simpa using hv, by simpa using hn, hlt, hcell _ x (by simp), .inr ⟨g, 0, cap, by simp, by simp at hn ⊢; omega, hlt, fun j z hz => ?_⟩⟩
    obtain ⟨y, hy, rfl⟩ : ∃ y, l[j]? = some y ∧ Hog.mk y = z := by simpa using hz
    rw [Nat.zero_add]
    exact hcell j y (by rw [List.getElem?_append_left (List.getElem?_eq_some_iff.1 hy).1]; exact hy)

theorem joinV_split {q : List UInt8} (h : Hog.mayL q = true) : joinV (Hog.splitL q) = q ∧ Hog.joinOk (Hog.splitL q) = true := by
  have sq : Hog.splitL q = Hog.cutC q := by unfold Hog.splitL; rw [if_pos h]
  have hj := Hog.joinOk_cut h
  rw [sq]
  exact ⟨by unfold joinV; rw [if_pos hj, Hog.join_cutC], hj⟩

set_option maxHeartbeats 800000 in
theorem rparent_ok (p : ByteArray) (q : List UInt8) (b : Bool) (w0 w : World) (h : Ok w0 w) (hp : p.size < 900000) (hv : Hog.parentL p.data.toList = q) (hb : Hog.parentOk p.data.toList = b) :
    Calls Tryz.prog 66 #[.string p] w fun e w' => e = .returned (.tuple #[.string (Hog.mk q), .bool b]) ∧ Ok w0 w' ∧ Below w.heap.size w w' := by
  by_cases hn : p.data.toList = [] ∨ Hog.mayL p.data.toList = false
  · obtain ⟨f1, f2, f3, _⟩ := none_facts hn
    have F1 := hide f1
    have hq : q = [] := by rw [← hv, f2]
    have hb' : b = false := by rw [← hb, f3]
    subst hq
    subst hb'
    clear f1 f2 f3 hv hb hn
    go_enter Tryz.func66, Tryz.ntmps66
    go_wp2_with fail
    refine (rsplit_ok p [] w0 w h hp F1.out).mono ?_
    rintro e w1 ⟨a, c, rfl, _, ok1, hb1⟩
    go_wp2_with fail
    go_ret2
    exact ⟨rfl, ok1, hb1⟩
  · have hne : p.data.toList ≠ [] := fun e => hn (.inl e)
    have hm : Hog.mayL p.data.toList = true := by
      cases hm : Hog.mayL p.data.toList with
      | true => rfl
      | false => exact absurd (.inr hm) hn
    obtain ⟨q', x, e1, e2, _, e4, _, e6, _, _, _, _, _, _, _, _, hlq, hys⟩ := back_facts hne hm
    have hq : q = q' := by rw [← hv, e1]
    subst hq
    have hb' : b = true := by rw [← hb, e2]
    subst hb'
    obtain ⟨j1, j2⟩ := joinV_split e4
    obtain ⟨lq, hlq'⟩ : ∃ lq, lq = Hog.splitL q := ⟨_, rfl⟩
    rw [← hlq'] at e6 hlq j1 j2
    have HZ := hide (show ∀ y ∈ lq, y.length ≤ 60 by intro y hy; exact hys y (by rw [e6]; simp [hy]))
    have E6 := hide e6
    have J1 := hide j1
    have J2 := hide j2
    rename_i g1 g2 g3 g4 g5 g6 g7 g8 g9
    clear e1 e2 e4 e6 hm hne hn hv hb hlq' j1 j2 hys g1 g2 g3 g4 g5 g6 g7 g8 g9
    go_enter Tryz.func66, Tryz.ntmps66
    go_wp2_with fail
    refine (rsplit_ok p (lq ++ [x]) w0 w h hp E6.out).mono ?_
    rintro e w1 ⟨a, c, rfl, ho, ok1, hb1⟩
    obtain ⟨b, c', hv, hc, hbk, _, htxt⟩ := ho.snocAt
    rw [hv]
    have hlen : ((lq.length : Int) + 1 == 0) = false := by rw [beq_eq_false_iff_ne]; omega
    have HT := hide htxt
    have HB1 := hide hb1
    clear ho hv htxt hb1
    go_wp2_with fail
    refine (rjoin_ok _ lq q true w0 w1 ok1 HT.out (by omega) (fun y hy => by have := HZ.out y hy; omega) J1.out J2.out).mono ?_
    rintro e w2 ⟨rfl, ok2, hb2⟩
    go_wp2_with fail
    go_ret2
    exact ⟨rfl, ok2, below_two HB1.out hb2⟩

end Go.Proofs.YtecjkkipglldlaaGreatDoor
