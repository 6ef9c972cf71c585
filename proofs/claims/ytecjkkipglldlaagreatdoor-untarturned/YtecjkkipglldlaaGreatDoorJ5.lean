/- Texts that stand together, joined: R1, R2. -/
import Derived.Test.YtecjkkipglldlaaGreatDoorJ2
/- The walk of the document's own Part. -/
namespace Go.Proofs.YtecjkkipglldlaaGreatDoor
open Go.RowKit

theorem take_byte (s : ByteArray) (k : Nat) (h : k < s.size) : s.data.toList.take (k + 1) = s.data.toList.take k ++ [s[k]] := by
  rw [List.take_succ_eq_append_getElem (by rw [← Hog.size_len]; exact h)]; rfl
theorem at_byte (s : ByteArray) (k : Nat) (h : k < s.size) : s.data.toList[k]? = some s[k] := Lib.data_getElem? s k h
theorem byte_is {u : UInt8} {n : Nat} (hn : n < 256) (h : ((u.toNat : Int) == (n : Int)) = true) : u = UInt8.ofNat n := by
  have h2 : u.toNat = n := by have := beq_iff_eq.1 h; omega
  apply UInt8.toNat_inj.1
  rw [h2, UInt8.toNat_ofNat', Nat.mod_eq_of_lt hn]
theorem byte_not {u : UInt8} {n : Nat} (hn : n < 256) (h : ((u.toNat : Int) == (n : Int)) = false) : u ≠ UInt8.ofNat n := by
  intro e
  have h2 : u.toNat = n := by rw [e, UInt8.toNat_ofNat', Nat.mod_eq_of_lt hn]
  rw [beq_eq_false_iff_ne] at h
  exact h (by rw [h2])

/-- A text without a stroke and a nought: what is left to ask. -/
theorem part_free {l : List UInt8} (h1 : 47 ∉ l) (h2 : 0 ∉ l) : Hog.partL l = (!(l.isEmpty || decide (60 < l.length)) && !(l == [46] || l == [46, 46] || Lib.hasPrefix l [46, 119, 104, 46])) := by
  unfold Hog.partL
  rw [decide_eq_true ((Hog.indexByte_neg l 47).2 h1), decide_eq_true ((Hog.indexByte_neg l 0).2 h2), Bool.and_self, Bool.and_true]
theorem part_bad {l : List UInt8} (h : 47 ∈ l ∨ 0 ∈ l) : Hog.partL l = false := by
  cases hp : Hog.partL l with
  | false => rfl
  | true =>
    obtain ⟨_, _, h1, h2⟩ := Hog.part_parts hp
    rcases h with h | h
    · exact absurd h h1
    · exact absurd h h2

theorem byte_mem (s : ByteArray) (k : Nat) (hk : k < s.size) {n : Nat} (hn : n < 256) (h : ((s[k].toNat : Nat) : Int) = (n : Int)) : UInt8.ofNat n ∈ s.data.toList := by
  have e := byte_is hn (beq_iff_eq.2 h)
  rw [← e]
  exact List.mem_of_getElem? (at_byte s k hk)
theorem free_step (s : ByteArray) (k : Nat) (hk : k < s.size) (h1 : (((s[k].toNat : Nat) : Int) == 47) = false) (h2 : (((s[k].toNat : Nat) : Int) == 0) = false) (h : 47 ∉ s.data.toList.take k ∧ 0 ∉ s.data.toList.take k) : 47 ∉ s.data.toList.take (k + 1) ∧ 0 ∉ s.data.toList.take (k + 1) := by
  rw [take_byte s k hk]
  have e1 : s[k] ≠ 47 := byte_not (n := 47) (by decide) h1
  have e2 : s[k] ≠ 0 := byte_not (n := 0) (by decide) h2
  exact ⟨by simp only [List.mem_append, List.mem_singleton, not_or]; exact ⟨h.1, fun e => e1 e.symm⟩, by simp only [List.mem_append, List.mem_singleton, not_or]; exact ⟨h.2, fun e => e2 e.symm⟩⟩

theorem part_val (s : ByteArray) (hf : 47 ∉ s.data.toList ∧ 0 ∉ s.data.toList) :
    Hog.partL s.data.toList = (decide ((1 : Int) ≤ (s.size : Int)) && decide ((s.size : Int) ≤ 60) && (!s.toList == [46]) && (!s.toList == [46, 46]) && !(decide ((4 : Int) ≤ (s.size : Int)) && (s.extract 0 4).toList == [46, 119, 104, 46])) := by
  rw [part_free hf.1 hf.2, ← Lib.hasPrefix_of_take, Lib.toList_data, Lib.extract_toList]
  have hz := Hog.size_len s
  have e1 : (!(s.data.toList.isEmpty || decide (60 < s.data.toList.length))) = (decide ((1 : Int) ≤ (s.size : Int)) && decide ((s.size : Int) ≤ 60)) := by
    rw [Bool.eq_iff_iff]
    simp only [Bool.not_eq_true', Bool.or_eq_false_iff, Bool.and_eq_true, decide_eq_true_eq, decide_eq_false_iff_not, List.isEmpty_eq_false_iff, ← List.length_pos_iff]
    omega
  have e2 : decide (([46, 119, 104, 46] : List UInt8).length ≤ s.data.toList.length) = decide ((4 : Int) ≤ (s.size : Int)) := by
    rw [Bool.eq_iff_iff]
    simp only [decide_eq_true_eq, List.length_cons, List.length_nil]
    omega
  rw [e1, e2]
  simp [Bool.and_assoc]

set_option maxHeartbeats 800000 in
theorem rpart_any (s : ByteArray) (w : World) (hs : s.size < 1000000) :
    Calls Tryz.prog 101 #[.string s] w fun e w' => e = .returned (.bool (Hog.partL s.data.toList)) ∧ w' = w := by
  go_enter Tryz.func101, Tryz.ntmps101
  go_wp2
  go_loop [3] (fun i => ∃ k : Nat, k ≤ s.size ∧ i = .int .i64 k ∧ Hid (47 ∉ s.data.toList.take k ∧ 0 ∉ s.data.toList.take k)) (fun i => s.size - (intOf i).toNat)
  case atStart => exact ⟨0, Nat.zero_le _, rfl, by simp [Hid]⟩
  case round =>
    obtain ⟨k, hk, rfl, hfree⟩ := hrel
    by_cases hlt : k < s.size
    · go_wp2
      · have h : ((s[k].toNat : Nat) : Int) = 47 := by assumption
        go_ret
        exact ⟨ret_bool (part_bad (.inl (byte_mem s k hlt (n := 47) (by decide) h))).symm, rfl⟩
      · have h : (((s[k].toNat : Nat) : Int) == 47) = true ∨ (((s[k].toNat : Nat) : Int) == 0) = true := by assumption
        go_ret
        refine ⟨ret_bool (part_bad ?_).symm, rfl⟩
        rcases h with h | h
        · exact .inl (byte_mem s k hlt (n := 47) (by decide) (beq_iff_eq.1 h))
        · exact .inr (byte_mem s k hlt (n := 0) (by decide) (beq_iff_eq.1 h))
      · have h : (((s[k].toNat : Nat) : Int) == 47) = false ∧ (((s[k].toNat : Nat) : Int) == 0) = false := by assumption
        go_round
        case rel => exact ⟨k + 1, by omega, by go_num, free_step s k hlt h.1 h.2 hfree.out⟩
        case measure => simp [intOf]; omega
    · have hkk : k = s.size := by omega
      have hf : Hid (47 ∉ s.data.toList ∧ 0 ∉ s.data.toList) := by
        have h := hfree.out
        rw [hkk, Hog.size_len, List.take_length] at h
        exact h
      clear hkk hfree
      go_wp2
      all_goals
        go_ret
        refine ⟨ret_bool ?_, rfl⟩
        rw [part_val s hf.out]
        first
          | (rw [decide_eq_false (show ¬ (1 : Int) ≤ (s.size : Int) by omega)]; simp; done)
          | (rw [decide_eq_false (show ¬ (s.size : Int) ≤ 60 by omega)]; simp; done)
          | (have h : s.toList = [46] := by assumption
             simp [h]; done)
          | (have h : s.toList = [46, 46] := by assumption
             simp [h]; done)
          | (rw [decide_eq_true (show (1 : Int) ≤ (s.size : Int) by omega), decide_eq_true (show (s.size : Int) ≤ 60 by omega), decide_eq_true (show (4 : Int) ≤ (s.size : Int) by omega)]; simp; done)
          | (rw [decide_eq_true (show (1 : Int) ≤ (s.size : Int) by omega), decide_eq_true (show (s.size : Int) ≤ 60 by omega), decide_eq_false (show ¬ (4 : Int) ≤ (s.size : Int) by omega)]; simp; done)

end Go.Proofs.YtecjkkipglldlaaGreatDoor
/- The walk of the document's own Cut. -/
namespace Go.Proofs.YtecjkkipglldlaaGreatDoor
open Go.RowKit

theorem Own.one (w : World) (x : ByteArray) : Own w.heap.size (w.alloc (.cells #[.string x] 9)) (.slice (some ⟨w.heap.size, 0, none⟩) 1 1) [x] := by
  simpa using Own.made w [x] (by unfold maxLen; simp)
theorem Own.alloc {base : Nat} {w : World} {v : Value} {xs : List ByteArray} (h : Own base w v xs) (o : Obj) : Own base (w.alloc o) v xs := h.below (below_alloc w o)
theorem piece_mk (s : ByteArray) (a k : Nat) : s.extract a k = Hog.mk ((s.data.toList.drop a).take (k - a)) := Lib.extract_eq s a k

/-- What Cut holds behind k rounds: the parts so far, and where the next one begins. -/
def CutRel (l : List UInt8) (k at' : Nat) (done : List (List UInt8)) : Prop :=
  (k ≤ l.length ∧ done ++ Hog.cutL (l.drop at') = Hog.cutL l ∧ 47 ∉ (l.drop at').take (k - at')) ∨ (k = l.length + 1 ∧ done = Hog.cutL l)

theorem cutrel_end {l : List UInt8} {at' : Nat} {done : List (List UInt8)} (h : CutRel l l.length at' done) : CutRel l (l.length + 1) (l.length + 1) (done ++ [(l.drop at').take (l.length - at')]) := by
  rcases h with ⟨_, h1, h2⟩ | ⟨h1, _⟩
  · refine .inr ⟨rfl, ?_⟩
    have e : (l.drop at').take (l.length - at') = l.drop at' := List.take_of_length_le (by simp)
    rw [e] at h2 ⊢
    rw [← h1, Hog.cut_no _ h2]
  · omega
theorem cutrel_stroke {l : List UInt8} {k at' : Nat} {done : List (List UInt8)} (h : CutRel l k at' done) (ha : at' ≤ k) (hk : k < l.length) (hc : l[k]? = some 47) : CutRel l (k + 1) (k + 1) (done ++ [(l.drop at').take (k - at')]) := by
  rcases h with ⟨_, h1, h2⟩ | ⟨h1, _⟩
  · refine .inl ⟨by omega, ?_, by simp⟩
    obtain ⟨hk', hv⟩ := List.getElem?_eq_some_iff.1 hc
    have e : l.drop at' = (l.drop at').take (k - at') ++ 47 :: l.drop (k + 1) := by
      conv => lhs; rw [← List.take_append_drop (k - at') (l.drop at')]
      rw [List.drop_drop, show at' + (k - at') = k by omega, List.drop_eq_getElem_cons hk', hv]
    have e2 : Hog.cutL (l.drop at') = (l.drop at').take (k - at') :: Hog.cutL (l.drop (k + 1)) := by
      conv => lhs; rw [e]
      exact Hog.cut_at _ _ h2
    rw [List.append_assoc, List.singleton_append, ← e2]
    exact h1
  · omega
theorem cutrel_other {l : List UInt8} {k at' : Nat} {done : List (List UInt8)} (h : CutRel l k at' done) (ha : at' ≤ k) (hk : k < l.length) {c : UInt8} (hc : l[k]? = some c) (hne : c ≠ 47) : CutRel l (k + 1) at' done := by
  rcases h with ⟨_, h1, h2⟩ | ⟨h1, _⟩
  · refine .inl ⟨by omega, h1, ?_⟩
    have hd : (l.drop at')[k - at']? = some c := by rw [List.getElem?_drop, show at' + (k - at') = k by omega]; exact hc
    obtain ⟨hk', hv⟩ := List.getElem?_eq_some_iff.1 hd
    rw [show k + 1 - at' = (k - at') + 1 by omega, List.take_succ_eq_append_getElem hk', hv]
    simp only [List.mem_append, List.mem_singleton, not_or]
    exact ⟨h2, fun e => hne e.symm⟩
  · omega

theorem own_step {base : Nat} {w : World} {b : Option Addr} {c : Nat} {done : List (List UInt8)} {s : ByteArray} {at' k : Nat} (h : Own base w (.slice b (done.length + 1) c) (done.map Hog.mk ++ [s.extract at' k])) :
    Own base w (.slice b (done ++ [(s.data.toList.drop at').take (k - at')]).length c) ((done ++ [(s.data.toList.drop at').take (k - at')]).map Hog.mk) := by
  rw [piece_mk] at h
  simpa using h

set_option maxRecDepth 100000 in
set_option maxHeartbeats 1000000 in
theorem rcut_any (s : ByteArray) (w : World) (hs : s.size < 900000) :
    Calls Tryz.prog 100 #[.string s] w fun e w' => ∃ v, e = .returned v ∧ Own w.heap.size w' v ((Hog.cutL s.data.toList).map Hog.mk) ∧ Below w.heap.size w w' := by
  go_enter Tryz.func100, Tryz.ntmps100
  go_wp2
  go_loopw [3, 4, 5] (fun v a i wr => ∃ (k at' : Nat) (done : List (List UInt8)) (b : Option Addr) (c : Nat), k ≤ s.size + 1 ∧ at' ≤ k ∧ i = .int .i64 k ∧ a = .int .i64 at' ∧ v = .slice b done.length c ∧
      Hid (Own w.heap.size wr (.slice b done.length c) (done.map Hog.mk)) ∧ Hid (CutRel s.data.toList k at' done) ∧ Below w.heap.size w wr ∧ done.length ≤ k)
    (fun _ _ i _ => s.size + 1 - (intOf i).toNat)
  case atStart => exact ⟨0, 0, [], none, 0, by omega, by omega, rfl, rfl, rfl, Own.nil _ _, .inl ⟨by omega, by simp, by simp⟩, Below.refl _ _, by simp⟩
  case round =>
    obtain ⟨k, at', done, b, c, hk, hat, rfl, rfl, rfl, hown, hrel, hbl, hdl⟩ := hrel
    by_cases hle : k ≤ s.size
    · have hle' : (k : Int) ≤ (s.size : Int) := by omega
      by_cases heq : k = s.size
      · have HE := hide heq
        have hq : ((k : Int) == (s.size : Int)) = true := by rw [heq]; simp
        clear heq
        go_wp2_with (at_builtin; refine wpList_append_texts rfl _ _ rfl w.heap.size wr.heap.size _ _ (done.map Hog.mk) [s.extract at' k] rfl (hown.out.alloc _) rfl (Own.one wr _) (by simp; omega) (by have := hbl.size; simp; omega) ?_)
        intro b1 c1 w1 ho hb
        have HO := hide (own_step ho)
        have hb1 : Below w.heap.size w w1 := hbl.trans (((Below.refl _ _).alloc hbl.size _).trans hb)
        clear ho hb
        go_wp2
        go_roundw
        case rel =>
          refine ⟨k + 1, k + 1, done ++ [(s.data.toList.drop at').take (k - at')], b1, c1, by omega, by omega, by go_num, by go_num, by simp, HO.out, ?_, hb1, by simp; omega⟩
          have e : k = s.data.toList.length := by rw [← Hog.size_len]; exact HE.out
          have h := hrel.out
          rw [e] at h ⊢
          exact cutrel_end h
        case measure => simp [intOf]; omega
      · have hlt : k < s.size := by omega
        have hq : ((k : Int) == (s.size : Int)) = false := by rw [beq_eq_false_iff_ne]; omega
        have hat2 := hide (at_byte s k hlt)
        have hll := hide (show k < s.data.toList.length by rw [← Hog.size_len]; exact hlt)
        clear heq
        by_cases hc : s[k] = 47
        · have hc2 : (((s[k].toNat : Nat) : Int) == 47) = true := by rw [hc]; rfl
          have HC := hide hc
          clear hc
          go_wp2_with (at_builtin; refine wpList_append_texts rfl _ _ rfl w.heap.size wr.heap.size _ _ (done.map Hog.mk) [s.extract at' k] rfl (hown.out.alloc _) rfl (Own.one wr _) (by simp; omega) (by have := hbl.size; simp; omega) ?_)
          intro b1 c1 w1 ho hb
          have HO := hide (own_step ho)
          have hb1 : Below w.heap.size w w1 := hbl.trans (((Below.refl _ _).alloc hbl.size _).trans hb)
          clear ho hb
          go_wp2
          go_roundw
          case rel =>
            refine ⟨k + 1, k + 1, done ++ [(s.data.toList.drop at').take (k - at')], b1, c1, by omega, by omega, by go_num, by go_num, by simp, HO.out, ?_, hb1, by simp; omega⟩
            exact cutrel_stroke hrel.out hat hll.out (hat2.out.trans (congrArg some HC.out))
          case measure => simp [intOf]; omega
        · have hc2 : (((s[k].toNat : Nat) : Int) == 47) = false := by
            rw [beq_eq_false_iff_ne]
            intro e
            exact hc (byte_is (n := 47) (by decide) (beq_iff_eq.2 e))
          have HC := hide hc
          clear hc
          go_wp2
          go_roundw
          case rel => exact ⟨k + 1, at', done, b, c, by omega, by omega, by go_num, rfl, rfl, hown, cutrel_other hrel.out hat hll.out hat2.out HC.out, hbl, by omega⟩
          case measure => simp [intOf]; omega
    · have hle' : (s.size : Int) < (k : Int) := by omega
      go_wp2
      go_ret
      refine ⟨_, rfl, ?_, hbl⟩
      have e : k = s.data.toList.length + 1 := by rw [← Hog.size_len]; omega
      rcases hrel.out with ⟨h1, _⟩ | ⟨_, h2⟩
      · omega
      · rw [← h2]; exact hown.out

end Go.Proofs.YtecjkkipglldlaaGreatDoor
