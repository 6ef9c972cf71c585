/- The walks of closure's firsts and take. -/
import Derived.Test.YtinjbijigjfdfaaGreatDoorKB
import Derived.Test.YtinjbijigjfdfaaGreatDoorJ14
import Derived.Test.YtinjbijigjfdfaaGreatDoorJ11
namespace Go.Proofs.YtinjbijigjfdfaaGreatDoor
open Go.RowKit

theorem grown_new {w wr w2 : World} {row r2 : Option Nat} (h : w.grownBy wr row) (k : wr.grownBy w2 r2) (hn : ∀ g, r2 = some g → w.heap.size ≤ g) : w.grownBy w2 row :=
  ⟨k.os.trans h.os, k.tape.trans h.tape, k.output.trans h.output, Nat.le_trans h.size k.size, fun i hi hr => (k.block i (Nat.lt_of_lt_of_le hi h.size) (fun e => by have := hn i e.symm; omega)).trans (h.block i hi hr)⟩
theorem map_not_cell {w : World} {m : Nat} {f : ByteArray → Option Int} (h : MapF w m f) {b o : Nat} {v : Value} (hc : w.cell? ⟨b, o, none⟩ = some v) : some b ≠ some m := by
  intro e
  obtain rfl : b = m := Option.some.inj e
  obtain ⟨es, c, h1, _⟩ := h.ex
  unfold World.cell? at hc
  rw [h1] at hc
  cases hc
/-- The map's numbers are places. -/
def intM (g : ByteArray → Option Nat) : ByteArray → Option Int := fun x => Option.map (fun k : Nat => (k : Int)) (g x)
theorem intM_some {g : ByteArray → Option Nat} {x : ByteArray} {k : Nat} (h : g x = some k) : intM g x = some (k : Int) := by unfold intM; rw [h]; rfl
theorem intM_none {g : ByteArray → Option Nat} {x : ByteArray} (h : g x = none) : intM g x = none := by unfold intM; rw [h]; rfl
theorem intM_del (g : ByteArray → Option Nat) (x : ByteArray) : Hog.delK (intM g) x = intM (Hog.delK g x) := by
  funext q
  unfold Hog.delK intM
  show (if q = x then none else Option.map (fun k : Nat => (k : Int)) (g q)) = Option.map (fun k : Nat => (k : Int)) (if q = x then none else g q)
  by_cases e : q = x
  · rw [if_pos e, if_pos e]; rfl
  · rw [if_neg e, if_neg e]
theorem first_snoc (l : List It) (i : It) (x : ByteArray) : Hog.firstK (l ++ [i]) x = match Hog.firstK l x with
    | some z => some z
    | none => if i.1 = x then some l.length else none := by
  unfold Hog.firstK
  rw [List.findIdx?_append]
  cases h : l.findIdx? fun i => decide (i.1 = x) with
  | some z => rfl
  | none =>
    by_cases e : i.1 = x
    · rw [if_pos e]; simp [e]
    · rw [if_neg e]; simp [e]
theorem first_take {is : List It} {k : Nat} {i : It} (hi : is[k]? = some i) : is.take (k + 1) = is.take k ++ [i] := by
  rw [List.take_add_one, hi]; rfl
theorem first_seen {is : List It} {k z : Nat} {i : It} (hi : is[k]? = some i) (h : Hog.firstK (is.take k) i.1 = some z) : Hog.firstK (is.take (k + 1)) = Hog.firstK (is.take k) := by
  funext x
  rw [first_take hi, first_snoc]
  cases hx : Hog.firstK (is.take k) x with
  | some y => rfl
  | none =>
    have : ¬ i.1 = x := fun e => by rw [e, hx] at h; cases h
    simp only [if_neg this]
theorem first_new {is : List It} {k : Nat} {i : It} (hi : is[k]? = some i) (h : Hog.firstK (is.take k) i.1 = none) : intM (Hog.firstK (is.take (k + 1))) = putF (intM (Hog.firstK (is.take k))) i.1 k := by
  have hk := (List.getElem?_eq_some_iff.1 hi).1
  funext x
  unfold putF
  rw [first_take hi]
  unfold intM
  rw [first_snoc]
  by_cases e : x = i.1
  · subst e
    rw [h, if_pos rfl]
    simp only [if_true, List.length_take]
    rw [Nat.min_eq_left (by omega)]; rfl
  · rw [if_neg e]
    cases hx : Hog.firstK (is.take k) x with
    | some y => rfl
    | none => simp only [if_neg (fun e2 : i.1 = x => e e2.symm)]

set_option maxRecDepth 100000 in
set_option maxHeartbeats 2000000 in
theorem firsts_some (b o c n : Nat) (is : List It) (w : World) (hn : n = is.length) (h9 : n < 900000) (hr : RunI w b o is) :
    Calls Tryz.prog 23 #[.slice (some ⟨b, o, none⟩) n c] w fun e w' => ∃ m, e = .returned (.map (some m)) ∧ w.heap.size ≤ m ∧ MapF w' m (intM (Hog.firstK is)) ∧ Below w.heap.size w w' := by
  have HR := hide hr
  have HN := hide hn
  clear hr hn
  have hmm := @run_makeMap Tryz.prog
  go_enter Tryz.func23, Tryz.ntmps23
  go_wp2
  clear hmm
  go_loopw [11] (fun i wr => ∃ k : Nat, k ≤ n ∧ i = .int .i64 k ∧ Hid (MapF wr w.heap.size (intM (Hog.firstK (is.take k)))) ∧ Hid (Below w.heap.size w wr)) (fun i _ => n - (intOf i).toNat)
  case atStart => exact ⟨0, Nat.zero_le _, rfl, MapF.made w, below_box _ _⟩
  case round =>
    obtain ⟨k, hk, rfl, hmf, hbl⟩ := hrel
    by_cases hlt : k < n
    · obtain ⟨i, hi⟩ : ∃ i, is[k]? = some i := ⟨is[k]'(by have := HN.out; omega), List.getElem?_eq_some_iff.2 ⟨_, rfl⟩⟩
      obtain ⟨ra, rn, rc, ta, tn, tc, q0, q1, q2, _, _⟩ := (HR.out.2 k i hi).below hbl.out
      have HI := hide hi
      have hki : (k : Int) < (n : Int) := by omega
      have HMB := hide (hmf.out.below (below_box wr (.cells #[.string i.1, .slice ra rn rc, .slice ta tn tc] 29)))
      have HBB := hide (below_two hbl.out (below_box wr (.cells #[.string i.1, .slice ra rn rc, .slice ta tn tc] 29)))
      clear hi
      cases hz : Hog.firstK (is.take k) i.1 with
      | some z =>
        have HS := hide (first_seen HI.out hz)
        have z1 : Hid (atF (intM (Hog.firstK (is.take k))) i.1 = (z : Int)) := by unfold atF; rw [intM_some hz]; exact hide rfl
        have z2 : Hid ((intM (Hog.firstK (is.take k)) i.1).isSome = true) := by rw [intM_some hz]; exact hide rfl
        clear hz
        go_wp2_with (at_lookup; refine wpList_lookG rfl _ _ rfl w.heap.size _ rfl HMB.out i.1 rfl (z : Int) true z1.out z2.out ?_)
        go_roundw
        case rel => exact ⟨k + 1, by omega, by go_num, by rw [HS.out]; exact HMB, HBB⟩
        case measure => simp [intOf]; omega
      | none =>
        have HS := hide (first_new HI.out hz)
        have z1 : Hid (atF (intM (Hog.firstK (is.take k))) i.1 = 0) := by unfold atF; rw [intM_none hz]; exact hide rfl
        have z2 : Hid ((intM (Hog.firstK (is.take k)) i.1).isSome = false) := by rw [intM_none hz]; exact hide rfl
        clear hz
        go_wp2_with (first
          | (at_lookup; refine wpList_lookG rfl _ _ rfl w.heap.size _ rfl HMB.out i.1 rfl 0 false z1.out z2.out ?_)
          | (at_mapUpdate; refine wpList_putG rfl _ _ _ rfl w.heap.size _ rfl HMB.out i.1 rfl (k : Int) rfl ?_; intro w1 hm1 hg1; have HM1 := hide hm1; have HB1 := hide (HBB.out.grown hg1 HBB.out.size (fun j e => by cases e; exact Nat.le_refl _)); clear hm1 hg1))
        go_roundw
        case rel => exact ⟨k + 1, by omega, by go_num, by rw [HS.out]; exact HM1, HB1⟩
        case measure => simp [intOf]; omega
    · have hki : (n : Int) ≤ (k : Int) := by omega
      have HE : Hid (is.take k = is) := List.take_of_length_le (by have := HN.out; omega)
      go_wp2
      go_ret
      refine ⟨_, rfl, Nat.le_refl _, ?_, hbl.out⟩
      have := hmf.out
      rw [HE.out] at this
      exact this
set_option maxRecDepth 100000 in
set_option maxHeartbeats 1000000 in
theorem firsts_none (a : Option Addr) (c : Nat) (w : World) :
    Calls Tryz.prog 23 #[.slice a 0 c] w fun e w' => ∃ m, e = .returned (.map (some m)) ∧ w.heap.size ≤ m ∧ MapF w' m (intM (Hog.firstK ([] : List It))) ∧ Below w.heap.size w w' := by
  have hmm := @run_makeMap Tryz.prog
  go_enter Tryz.func23, Tryz.ntmps23
  go_wp2
  clear hmm
  go_loop [11] (fun i => i = .int .i64 0) (fun _ => 0)
  case atStart => rfl
  case round =>
    subst hrel
    go_wp2
    go_ret
    exact ⟨_, rfl, Nat.le_refl _, MapF.made w, below_box _ _⟩
theorem firsts_ok (v : Value) (is : List It) (w : World) (h : Its w v is) (h9 : is.length < 900000) :
    Calls Tryz.prog 23 #[v] w fun e w' => ∃ m, e = .returned (.map (some m)) ∧ w.heap.size ≤ m ∧ MapF w' m (intM (Hog.firstK is)) ∧ Below w.heap.size w w' := by
  rcases h with ⟨rfl, a, c, rfl⟩ | ⟨b, o, c, rfl, _, hr⟩
  · exact firsts_none a c w
  · exact firsts_some b o c is.length is w rfl h9 hr
end Go.Proofs.YtinjbijigjfdfaaGreatDoor
