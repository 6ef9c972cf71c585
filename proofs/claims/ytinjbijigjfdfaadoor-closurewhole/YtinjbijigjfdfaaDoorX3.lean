/- The walk of item's own mayRefer. -/
import Derived.Test.YtinjbijigjfdfaaDoorX2
import Derived.Test.YtinjbijigjfdfaaDoorJ1
namespace Go.Proofs.YtinjbijigjfdfaaDoor
open Go.RowKit

/-- May the k-th of these texts stand there, behind the one ahead of it? -/
def refAt (xs : List ByteArray) (k : Nat) : Bool :=
  match xs[k]? with
  | none => true
  | some x => Hog.nameL x.data.toList && match k with
    | 0 => true
    | j + 1 => match xs[j]? with
      | none => true
      | some y => Op.bytesLess y.data.toList x.data.toList
/-- Are these texts an item's references? -/
def refsB (xs : List ByteArray) : Bool := decide (xs.length ≤ 8) && (List.range xs.length).all (refAt xs)

theorem refs_step {xs : List ByteArray} {k : Nat} (h : (List.range k).all (refAt xs) = true) (hk : refAt xs k = true) : (List.range (k + 1)).all (refAt xs) = true := by
  rw [List.range_succ, List.all_append, h]
  simpa using hk
theorem refs_fall {xs : List ByteArray} {k : Nat} (hl : k < xs.length) (hk : refAt xs k = false) : refsB xs = false := by
  unfold refsB
  rw [Bool.and_eq_false_iff]
  refine .inr (List.all_eq_false.2 ⟨k, List.mem_range.2 hl, by simp [hk]⟩)
theorem refs_many {xs : List ByteArray} (h : 8 < xs.length) : refsB xs = false := by
  unfold refsB; rw [decide_eq_false (by omega)]; rfl
theorem refs_full {xs : List ByteArray} (h : xs.length ≤ 8) (ha : (List.range xs.length).all (refAt xs) = true) : refsB xs = true := by
  unfold refsB; rw [decide_eq_true h, ha]; rfl
theorem refAt_not {xs : List ByteArray} {k : Nat} {x : ByteArray} (hx : xs[k]? = some x) (hn : Hog.nameL x.data.toList = false) : refAt xs k = false := by
  unfold refAt; rw [hx]; simp [hn]
theorem refAt_zero {xs : List ByteArray} {x : ByteArray} (hx : xs[0]? = some x) (hn : Hog.nameL x.data.toList = true) : refAt xs 0 = true := by
  unfold refAt; rw [hx]; simp [hn]
theorem refAt_next {xs : List ByteArray} {j : Nat} {x y : ByteArray} (hx : xs[j + 1]? = some x) (hy : xs[j]? = some y) (hn : Hog.nameL x.data.toList = true) : refAt xs (j + 1) = Op.bytesLess y.data.toList x.data.toList := by
  unfold refAt; rw [hx]; simp [hn, hy]
theorem less_not {y x : ByteArray} (h : Op.bytesLess y.data.toList x.data.toList = false) : x.toList = y.toList ∨ Op.bytesLess x.toList y.toList = true := by
  rw [Lib.toList_data, Lib.toList_data]
  rcases Hog.not_less_iff.1 h with e | e
  · exact .inl e.symm
  · exact .inr e
theorem less_yes {y x : ByteArray} (h : Op.bytesLess y.data.toList x.data.toList = true) : (x.toList == y.toList) = false ∧ Op.bytesLess x.toList y.toList = false := by
  rw [Lib.toList_data, Lib.toList_data, beq_eq_false_iff_ne]
  exact ⟨fun e => Hog.less_ne h e.symm, Hog.less_asymm h⟩

set_option maxHeartbeats 400000 in
theorem refer_many (a : Option Addr) (n c : Nat) (w : World) (h : 8 < n) (hm : n ≤ maxLen) :
    Calls Tryd.prog 27 #[.slice a n c] w fun e w' => e = .returned (.bool false) ∧ Below w.heap.size w w' := by
  unfold maxLen at hm
  have h' : (8 : Int) < (n : Int) := by omega
  go_enter Tryd.func27, Tryd.ntmps27
  go_wp2
  go_ret
  exact ⟨rfl, Below.refl _ _⟩
set_option maxHeartbeats 400000 in
theorem refer_none (a : Option Addr) (c : Nat) (w : World) :
    Calls Tryd.prog 27 #[.slice a 0 c] w fun e w' => e = .returned (.bool true) ∧ Below w.heap.size w w' := by
  go_enter Tryd.func27, Tryd.ntmps27
  go_wp2
  go_loop [3, 4, 10] (fun _ _ i => i = .int .i64 0) (fun _ _ _ => 0)
  case atStart => rfl
  case round =>
    subst hrel
    go_wp2
    go_ret
    exact ⟨rfl, Below.refl _ _⟩
set_option maxRecDepth 100000 in
set_option maxHeartbeats 1000000 in
theorem refer_some (b o c n : Nat) (xs : List ByteArray) (w : World) (hn : n = xs.length) (h8 : n ≤ 8) (hb : b < w.heap.size) (hx : ∀ (j : Nat) x, xs[j]? = some x → w.cell? ⟨b, o + j, none⟩ = some (.string x)) (hz : ∀ x ∈ xs, x.size ≤ 9223372036854775807) :
    Calls Tryd.prog 27 #[.slice (some ⟨b, o, none⟩) n c] w fun e w' => e = .returned (.bool (refsB xs)) ∧ Below w.heap.size w w' := by
  have HN := hide hn
  have HC := hide hx
  have HZ := hide hz
  have h8' : (n : Int) ≤ 8 := by omega
  clear hn hx hz
  go_enter Tryd.func27, Tryd.ntmps27
  go_wp2
  go_loopw [3, 4, 10] (fun _ _ i wr => ∃ k : Nat, k ≤ n ∧ i = .int .i64 k ∧ Hid ((List.range k).all (refAt xs) = true) ∧ Below w.heap.size w wr) (fun _ _ i _ => n - (intOf i).toNat)
  case atStart => exact ⟨0, Nat.zero_le _, rfl, rfl, Below.refl _ _⟩
  case round =>
    obtain ⟨k, hk, rfl, hall, hbl⟩ := hrel
    by_cases hlt : k < n
    · obtain ⟨x, hx⟩ : ∃ x, xs[k]? = some x := ⟨xs[k]'(by have := HN.out; omega), List.getElem?_eq_some_iff.2 ⟨_, rfl⟩⟩
      have hc : wr.cell? ⟨b, o + k, none⟩ = some (.string x) := (hbl.cell (p := ⟨b, o + k, none⟩) hb).trans (HC.out k x hx)
      have hxz := HZ.out x (List.mem_of_getElem? hx)
      have hki : (k : Int) < (n : Int) := by omega
      have HX := hide hx
      clear hx
      cases hnm : Hog.nameL x.data.toList with
      | false =>
        have HNM := hide hnm
        clear hnm
        go_wp2_with fail
        refine (name_ok x false wr hxz HNM.out).mono ?_
        rintro e w1 ⟨rfl, hb1⟩
        go_wp2
        go_ret
        exact ⟨ret_bool (refs_fall (by rw [← HN.out]; exact hlt) (refAt_not HX.out HNM.out)).symm, below_two hbl hb1⟩
      | true =>
        have HNM := hide hnm
        clear hnm
        cases k with
        | zero =>
          rw [Nat.add_zero] at hc
          go_wp2_with fail
          refine (name_ok x true wr hxz HNM.out).mono ?_
          rintro e w1 ⟨rfl, hb1⟩
          have HB1 := hide (below_two hbl hb1)
          clear hb1
          go_wp2
          go_roundw
          case rel => exact ⟨1, by omega, by go_num, refs_step hall.out (refAt_zero HX.out HNM.out), HB1.out⟩
          case measure => simp [intOf]; omega
        | succ j =>
          obtain ⟨y, hy⟩ : ∃ y, xs[j]? = some y := ⟨xs[j]'(by have := HN.out; omega), List.getElem?_eq_some_iff.2 ⟨_, rfl⟩⟩
          have HY := hide hy
          clear hy
          have hj0 : (0 : Int) < (j : Int) + 1 := by omega
          cases hls : Op.bytesLess y.data.toList x.data.toList with
          | true =>
            obtain ⟨l1, l2⟩ := less_yes hls
            have HLS := hide hls
            clear hls
            go_wp2_with fail
            refine (name_ok x true wr hxz HNM.out).mono ?_
            rintro e w1 ⟨rfl, hb1⟩
            have HB1 := hide (below_two hbl hb1)
            have hcy : w1.cell? ⟨b, o + j, none⟩ = some (.string y) := ((HB1.out).cell (p := ⟨b, o + j, none⟩) hb).trans (HC.out j y HY.out)
            clear hb1
            go_wp2
            go_roundw
            case rel => exact ⟨j + 2, by omega, by go_num, refs_step hall.out ((refAt_next HX.out HY.out HNM.out).trans HLS.out), HB1.out⟩
            case measure => simp [intOf]; omega
          | false =>
            have hle := less_not hls
            have HLS := hide hls
            clear hls
            rcases hle with hle | hle
            all_goals
              go_wp2_with fail
              refine (name_ok x true wr hxz HNM.out).mono ?_
              rintro e w1 ⟨rfl, hb1⟩
              have HB1 := hide (below_two hbl hb1)
              have hcy : w1.cell? ⟨b, o + j, none⟩ = some (.string y) := ((HB1.out).cell (p := ⟨b, o + j, none⟩) hb).trans (HC.out j y HY.out)
              clear hb1
              go_wp2
              go_ret
              exact ⟨ret_bool (refs_fall (by rw [← HN.out]; exact hlt) ((refAt_next HX.out HY.out HNM.out).trans HLS.out)).symm, HB1.out⟩
    · go_wp2
      go_ret
      refine ⟨ret_bool ?_, hbl⟩
      have e : k = xs.length := by have := HN.out; omega
      have h1 := hall.out
      rw [e] at h1
      exact (refs_full (by rw [← HN.out]; exact h8) h1).symm

theorem Txt.form {w : World} {v : Value} {xs : List ByteArray} (h : Txt w v xs) : ∃ a c, v = .slice a xs.length c := by
  rcases h with ⟨rfl, a, c, rfl⟩ | ⟨b, o, c, rfl, _⟩
  · exact ⟨a, c, rfl⟩
  · exact ⟨_, c, rfl⟩
theorem refer_ok (v : Value) (xs : List ByteArray) (r : Bool) (w : World) (h : Txt w v xs) (hm : xs.length ≤ maxLen) (hz : ∀ x ∈ xs, x.size ≤ 9223372036854775807) (hv : refsB xs = r) :
    Calls Tryd.prog 27 #[v] w fun e w' => e = .returned (.bool r) ∧ Below w.heap.size w w' := by
  subst hv
  by_cases h8 : 8 < xs.length
  · obtain ⟨a, c, rfl⟩ := h.form
    rw [refs_many h8]
    exact refer_many a xs.length c w h8 hm
  · rcases h with ⟨rfl, a, c, rfl⟩ | ⟨b, o, c, rfl, _, hb, hcell⟩
    · exact refer_none a c w
    · exact refer_some b o c xs.length xs w rfl (by omega) hb hcell hz
end Go.Proofs.YtinjbijigjfdfaaDoor
