/- Texts that stand together, joined: XA, XB, XC. -/
import Derived.Test.YtmlkknbndglgaaaGreatDoorJ14
import Derived.BigQuiet
import Derived.Test.YtmlkknbndglgaaaGreatDoorT3
/- The walk of the statements' own awake, chapter 7. -/
namespace Go.Proofs.YtmlkknbndglgaaaGreatDoor
open Go.RowKit

def oneName : ByteArray := ⟨#[48, 49, 50, 51, 52, 53, 54, 97, 45, 120]⟩
/-- The statements' own item that may be. -/
def oneI : It := (oneName, [], [(⟨#[]⟩, 2, ⟨#[120]⟩)])
theorem one_may : mayI oneI = true := by decide +kernel
theorem one_fair : Fair oneI := by
  refine ⟨by decide, by decide, fun x hx => by simp [oneI] at hx, by decide, fun n hn => ?_⟩
  simp [oneI] at hn
  subst hn
  decide

theorem aw_name : Hog.nameL oneName.data.toList = true := by decide +kernel
theorem aw_not : Hog.nameL (ByteArray.mk #[48, 49, 50, 51, 52, 53, 54, 101, 45, 120]).data.toList = false := by decide +kernel
theorem aw_hash : Hog.mk (Hog.hashL oneName.data.toList) = ⟨#[48, 49, 50, 51, 52, 53, 54, 97]⟩ := by
  have : Hog.hashL oneName.data.toList = [48, 49, 50, 51, 52, 53, 54, 97] := by decide +kernel
  rw [this]; rfl
theorem Txt.none (w : World) (a : Option Addr) (c : Nat) : Txt w (.slice a 0 c) [] := .inl ⟨rfl, a, c, rfl⟩

end Go.Proofs.YtmlkknbndglgaaaGreatDoor
/- The walks of the statements' own GreatTexts (of so many, so long), GreatItems, SameItems. -/
namespace Go.Proofs.YtmlkknbndglgaaaGreatDoor
open Go.RowKit

/-- Are texts too many, or too long? -/
def greatT (m l : Int) (xs : List ByteArray) : Bool := decide (m < (xs.length : Int)) || xs.any fun x => decide (l < (x.size : Int))
theorem greatT_fall {m l : Int} {xs : List ByteArray} {k : Nat} {x : ByteArray} (hx : xs[k]? = some x) (h : l < (x.size : Int)) : greatT m l xs = true := by
  unfold greatT
  rw [Bool.or_eq_true]
  exact .inr (List.any_eq_true.2 ⟨x, List.mem_of_getElem? hx, by simpa using h⟩)
theorem anyT_step {l : Int} {xs : List ByteArray} {k : Nat} {x : ByteArray} (hx : xs[k]? = some x) (h : ¬ l < (x.size : Int)) (ha : (xs.take k).any (fun x => decide (l < (x.size : Int))) = false) : (xs.take (k + 1)).any (fun x => decide (l < (x.size : Int))) = false := by
  obtain ⟨hk, rfl⟩ := List.getElem?_eq_some_iff.1 hx
  rw [List.take_succ_eq_append_getElem hk, List.any_append, ha]
  simpa using h
theorem greatT_not {m l : Int} {xs : List ByteArray} (h : greatT m l xs = false) : (xs.length : Int) ≤ m ∧ ∀ x ∈ xs, (x.size : Int) ≤ l := by
  unfold greatT at h
  rw [Bool.or_eq_false_iff] at h
  refine ⟨by have := h.1; simp at this; omega, fun x hx => ?_⟩
  have h2 := List.any_eq_false.1 h.2 x hx
  simp at h2
  omega

set_option maxHeartbeats 400000 in
theorem greatT_many (ao : Option Addr) (n c : Nat) (m l : Int) (w : World) (h : m < (n : Int)) (h0 : 0 ≤ m) (h1 : m ≤ 1000) (hm : n ≤ maxLen) :
    Calls Tryz.prog 22 #[.slice ao n c, .int .i64 m, .int .i64 l] w fun e w' => e = .returned (.bool true) ∧ w' = w := by
  unfold maxLen at hm
  go_enter Tryz.func22, Tryz.ntmps22
  go_wp2
  go_loop [7] (fun i => i = .int .i64 0) (fun _ => 0)
  case atStart => rfl
  case round =>
    subst hrel
    have h2 : (0 : Int) < (n : Int) := by omega
    go_wp2
    go_ret
    exact ⟨rfl, rfl⟩
set_option maxHeartbeats 400000 in
theorem greatT_none (ao : Option Addr) (c : Nat) (m l : Int) (w : World) (h0 : 0 ≤ m) (h1 : m ≤ 1000) :
    Calls Tryz.prog 22 #[.slice ao 0 c, .int .i64 m, .int .i64 l] w fun e w' => e = .returned (.bool false) ∧ w' = w := by
  go_enter Tryz.func22, Tryz.ntmps22
  go_wp2
  go_loop [7] (fun i => i = .int .i64 0) (fun _ => 0)
  case atStart => rfl
  case round =>
    subst hrel
    go_wp2
    go_ret
    exact ⟨ret_bool (decide_eq_false (by omega)), rfl⟩
set_option maxHeartbeats 400000 in
theorem greatT_few (b o c n : Nat) (m l : Int) (xs : List ByteArray) (w : World) (hn : n = xs.length) (hl : (n : Int) ≤ m) (h1 : m ≤ 1000) (hcell : ∀ (j : Nat) x, xs[j]? = some x → w.cell? ⟨b, o + j, none⟩ = some (.string x)) :
    Calls Tryz.prog 22 #[.slice (some ⟨b, o, none⟩) n c, .int .i64 m, .int .i64 l] w fun e w' => e = .returned (.bool (greatT m l xs)) ∧ w' = w := by
  have HC := hide hcell
  have HN := hide hn
  clear hcell hn
  go_enter Tryz.func22, Tryz.ntmps22
  go_wp2
  go_loop [7] (fun i => ∃ k : Nat, k ≤ n ∧ i = .int .i64 k ∧ Hid ((xs.take k).any (fun x => decide (l < (x.size : Int))) = false)) (fun i => n - (intOf i).toNat)
  case atStart => exact ⟨0, Nat.zero_le _, rfl, rfl⟩
  case round =>
    obtain ⟨k, hk, rfl, ha⟩ := hrel
    by_cases hlt : k < n
    · obtain ⟨x, hx⟩ : ∃ x, xs[k]? = some x := ⟨xs[k]'(by have := HN.out; omega), List.getElem?_eq_some_iff.2 ⟨_, rfl⟩⟩
      have hc := HC.out k x hx
      have HX := hide hx
      clear hx
      by_cases hz : l < (x.size : Int)
      · go_wp2
        go_ret
        exact ⟨ret_bool (greatT_fall HX.out hz).symm, rfl⟩
      · have hz' : (x.size : Int) ≤ l := by omega
        go_wp2
        go_round
        case rel => exact ⟨k + 1, by omega, by go_num, anyT_step HX.out hz ha.out⟩
        case measure => simp [intOf]; omega
    · go_wp2
      go_ret
      refine ⟨ret_bool ?_, rfl⟩
      have e : k = xs.length := by have := HN.out; omega
      have h1 := ha.out
      rw [e, List.take_length] at h1
      unfold greatT
      rw [h1, Bool.or_false, ← HN.out]
theorem greatT_ok (v : Value) (m l : Int) (xs : List ByteArray) (r : Bool) (w : World) (h : Txt w v xs) (hm : xs.length ≤ maxLen) (h0 : 0 ≤ m) (h1 : m ≤ 1000) (hv : greatT m l xs = r) :
    Calls Tryz.prog 22 #[v, .int .i64 m, .int .i64 l] w fun e w' => e = .returned (.bool r) ∧ w' = w := by
  subst hv
  by_cases hn : m < (xs.length : Int)
  · have e : greatT m l xs = true := by unfold greatT; rw [decide_eq_true hn, Bool.true_or]
    rw [e]
    obtain ⟨a, c, rfl⟩ := h.form
    exact greatT_many a xs.length c m l w hn h0 h1 hm
  · rcases h with ⟨rfl, a, c, rfl⟩ | ⟨b, o, c, rfl, _, _, hcell⟩
    · have e : greatT m l [] = false := by unfold greatT; rw [decide_eq_false (by simpa using h0)]; rfl
      rw [e]
      exact greatT_none a c m l w h0 h1
    · exact greatT_few b o c xs.length m l xs w rfl (by omega) h1 hcell
end Go.Proofs.YtmlkknbndglgaaaGreatDoor
/- The walks of the statements' own GreatItems and SameItems. -/
namespace Go.Proofs.YtmlkknbndglgaaaGreatDoor
open Go.RowKit

def bigI (i : It) : Bool := decide (100 < i.1.size) || greatT 12 100 i.2.1 || greatN 30 i.2.2
/-- Are items too many, or too great? -/
def greatI (is : List It) : Bool := decide (10 < is.length) || is.any bigI
/-- Such lists as there may be. -/
def Lens (is : List It) : Prop := ∀ i ∈ is, i.2.1.length ≤ maxLen ∧ i.2.2.length ≤ maxLen
theorem greatI_fall {is : List It} {k : Nat} {i : It} (hi : is[k]? = some i) (h : bigI i = true) : greatI is = true := by
  unfold greatI
  rw [Bool.or_eq_true]
  exact .inr (List.any_eq_true.2 ⟨i, List.mem_of_getElem? hi, h⟩)
theorem anyI_step {is : List It} {k : Nat} {i : It} (hi : is[k]? = some i) (h : bigI i = false) (ha : (is.take k).any bigI = false) : (is.take (k + 1)).any bigI = false := by
  obtain ⟨hk, rfl⟩ := List.getElem?_eq_some_iff.1 hi
  rw [List.take_succ_eq_append_getElem hk, List.any_append, ha]
  simpa using h
theorem bigI_not {i : It} (h : bigI i = false) : i.1.size ≤ 100 ∧ i.2.1.length ≤ 12 ∧ (∀ x ∈ i.2.1, x.size ≤ 100) ∧ i.2.2.length ≤ 30 ∧ ∀ n ∈ i.2.2, n.1.size ≤ 300 ∧ n.2.2.size ≤ 500 := by
  unfold bigI at h
  rw [Bool.or_eq_false_iff, Bool.or_eq_false_iff] at h
  obtain ⟨⟨h1, h2⟩, h3⟩ := h
  obtain ⟨a1, a2⟩ := greatT_not h2
  obtain ⟨b1, b2⟩ := greatN_not h3
  refine ⟨by simpa using h1, by omega, fun x hx => by have := a2 x hx; omega, by omega, b2⟩
theorem bigI_fair {i : It} (h : bigI i = false) : Fair i := by
  obtain ⟨h1, h2, h3, h4, h5⟩ := bigI_not h
  exact ⟨by omega, by omega, fun x hx => by have := h3 x hx; omega, by omega, fun n hn => by have := h5 n hn; omega⟩
theorem greatI_not {is : List It} (h : greatI is = false) : is.length ≤ 10 ∧ ∀ i ∈ is, bigI i = false := by
  unfold greatI at h
  rw [Bool.or_eq_false_iff] at h
  refine ⟨by simpa using h.1, fun i hi => ?_⟩
  simpa using List.any_eq_false.1 h.2 i hi

set_option maxHeartbeats 400000 in
theorem greatI_many (ao : Option Addr) (n c : Nat) (w : World) (h : 10 < n) (hm : n ≤ maxLen) :
    Calls Tryz.prog 21 #[.slice ao n c] w fun e w' => e = .returned (.bool true) ∧ w' = w := by
  unfold maxLen at hm
  have h' : (10 : Int) < (n : Int) := by omega
  go_enter Tryz.func21, Tryz.ntmps21
  go_wp2
  go_loop [3] (fun i => i = .int .i64 0) (fun _ => 0)
  case atStart => rfl
  case round =>
    subst hrel
    have h2 : (0 : Int) < (n : Int) := by omega
    go_wp2
    go_ret
    exact ⟨rfl, rfl⟩
set_option maxHeartbeats 400000 in
theorem greatI_none (ao : Option Addr) (c : Nat) (w : World) :
    Calls Tryz.prog 21 #[.slice ao 0 c] w fun e w' => e = .returned (.bool false) ∧ w' = w := by
  go_enter Tryz.func21, Tryz.ntmps21
  go_wp2
  go_loop [3] (fun i => i = .int .i64 0) (fun _ => 0)
  case atStart => rfl
  case round =>
    subst hrel
    go_wp2
    go_ret
    exact ⟨rfl, rfl⟩
set_option maxRecDepth 100000 in
set_option maxHeartbeats 1000000 in
theorem greatI_few (b o c n : Nat) (is : List It) (w : World) (hn : n = is.length) (h10 : n ≤ 10) (hr : RunI w b o is) (hz : Lens is) :
    Calls Tryz.prog 21 #[.slice (some ⟨b, o, none⟩) n c] w fun e w' => e = .returned (.bool (greatI is)) ∧ w' = w := by
  have HR := hide hr
  have HN := hide hn
  have HZ := hide hz
  have h10' : (n : Int) ≤ 10 := by omega
  clear hr hn hz
  go_enter Tryz.func21, Tryz.ntmps21
  go_wp2
  go_loop [3] (fun i => ∃ k : Nat, k ≤ n ∧ i = .int .i64 k ∧ Hid ((is.take k).any bigI = false)) (fun i => n - (intOf i).toNat)
  case atStart => exact ⟨0, Nat.zero_le _, rfl, rfl⟩
  case round =>
    obtain ⟨k, hk, rfl, ha⟩ := hrel
    by_cases hlt : k < n
    · obtain ⟨i, hi⟩ : ∃ i, is[k]? = some i := ⟨is[k]'(by have := HN.out; omega), List.getElem?_eq_some_iff.2 ⟨_, rfl⟩⟩
      obtain ⟨ra, rn, rc, ta, tn, tc, q0, q1, q2, q3, q4⟩ := HR.out.2 k i hi
      obtain ⟨z1, z2⟩ := HZ.out i (List.mem_of_getElem? hi)
      have HI := hide hi
      have hki : (k : Int) < (n : Int) := by omega
      have Q3 := hide q3
      have Q4 := hide q4
      clear hi q3 q4
      by_cases hnm : 100 < i.1.size
      · have hnm' : (100 : Int) < (i.1.size : Int) := by omega
        go_wp2
        go_ret
        exact ⟨ret_bool (greatI_fall HI.out (by unfold bigI; rw [decide_eq_true hnm]; rfl)).symm, rfl⟩
      · have hnm' : (i.1.size : Int) ≤ 100 := by omega
        cases hg : greatT 12 100 i.2.1 with
        | true =>
          have HG := hide hg
          clear hg
          go_wp2_with fail
          refine (greatT_ok _ 12 100 i.2.1 true w Q3.out z1 (by decide) (by decide) HG.out).mono ?_
          rintro e w1 ⟨rfl, rfl⟩
          go_wp2
          go_ret
          exact ⟨ret_bool (greatI_fall HI.out (by unfold bigI; rw [HG.out]; simp)).symm, rfl⟩
        | false =>
          have HG := hide hg
          clear hg
          cases hg2 : greatN 30 i.2.2 with
          | true =>
            have HG2 := hide hg2
            clear hg2
            go_wp2_with fail
            refine (greatT_ok _ 12 100 i.2.1 false w Q3.out z1 (by decide) (by decide) HG.out).mono ?_
            rintro e w1 ⟨rfl, rfl⟩
            go_wp2_with fail
            refine (greatN_ok _ 30 i.2.2 true _ Q4.out z2 (by decide) (by decide) HG2.out).mono ?_
            rintro e w1 ⟨rfl, rfl⟩
            go_wp2
            go_ret
            exact ⟨ret_bool (greatI_fall HI.out (by unfold bigI; rw [HG2.out]; simp)).symm, rfl⟩
          | false =>
            have HG2 := hide hg2
            clear hg2
            go_wp2_with fail
            refine (greatT_ok _ 12 100 i.2.1 false w Q3.out z1 (by decide) (by decide) HG.out).mono ?_
            rintro e w1 ⟨rfl, rfl⟩
            go_wp2_with fail
            refine (greatN_ok _ 30 i.2.2 false _ Q4.out z2 (by decide) (by decide) HG2.out).mono ?_
            rintro e w1 ⟨rfl, rfl⟩
            go_wp2
            go_round
            case rel => exact ⟨k + 1, by omega, by go_num, anyI_step HI.out (by unfold bigI; rw [HG.out, HG2.out, decide_eq_false hnm]; rfl) ha.out⟩
            case measure => simp [intOf]; omega
    · go_wp2
      go_ret
      refine ⟨ret_bool ?_, rfl⟩
      have e : k = is.length := by have := HN.out; omega
      have h2 := ha.out
      rw [e, List.take_length] at h2
      unfold greatI
      rw [h2, Bool.or_false, ← HN.out, Bool.eq_iff_iff]
      simp only [decide_eq_true_eq]
      omega
theorem greatI_ok (v : Value) (is : List It) (r : Bool) (w : World) (h : Its w v is) (hm : is.length ≤ maxLen) (hz : Lens is) (hv : greatI is = r) :
    Calls Tryz.prog 21 #[v] w fun e w' => e = .returned (.bool r) ∧ w' = w := by
  subst hv
  by_cases hn : 10 < is.length
  · have e : greatI is = true := by unfold greatI; rw [decide_eq_true hn, Bool.true_or]
    rw [e]
    obtain ⟨a, c, rfl⟩ := h.form
    exact greatI_many a is.length c w hn hm
  · rcases h with ⟨rfl, a, c, rfl⟩ | ⟨b, o, c, rfl, _, hr⟩
    · exact greatI_none a c w
    · exact greatI_few b o c is.length is w rfl (by omega) hr hz

theorem take_sameI {a b : List It} {k : Nat} {x y : It} (h : a.take k = b.take k) (hx : a[k]? = some x) (hy : b[k]? = some y) (e : x = y) : a.take (k + 1) = b.take (k + 1) := by
  subst e
  obtain ⟨h1, rfl⟩ := List.getElem?_eq_some_iff.1 hx
  obtain ⟨h2, e2⟩ := List.getElem?_eq_some_iff.1 hy
  rw [List.take_succ_eq_append_getElem h1, List.take_succ_eq_append_getElem h2, h, e2]
theorem it_eq {x y : It} : x = y ↔ x.1 = y.1 ∧ x.2.1 = y.2.1 ∧ x.2.2 = y.2.2 := by
  obtain ⟨a, b, c⟩ := x
  obtain ⟨a', b', c'⟩ := y
  simp
set_option maxHeartbeats 400000 in
theorem sameIs_less (a b : Option Addr) (n m c d : Nat) (w : World) (h : n ≠ m) :
    Calls Tryz.prog 44 #[.slice a n c, .slice b m d] w fun e w' => e = .returned (.bool false) ∧ w' = w := by
  have h1 : ((n : Int) != (m : Int)) = true := by rw [bne_iff_ne]; omega
  go_enter Tryz.func44, Tryz.ntmps44
  go_wp2
  go_ret
  exact ⟨rfl, rfl⟩
set_option maxHeartbeats 400000 in
theorem sameIs_none (a b : Option Addr) (c d : Nat) (w : World) :
    Calls Tryz.prog 44 #[.slice a 0 c, .slice b 0 d] w fun e w' => e = .returned (.bool true) ∧ w' = w := by
  go_enter Tryz.func44, Tryz.ntmps44
  go_wp2
  go_loop [5] (fun i => i = .int .i64 0) (fun _ => 0)
  case atStart => rfl
  case round =>
    subst hrel
    go_wp2
    go_ret
    exact ⟨rfl, rfl⟩

set_option maxRecDepth 100000 in
set_option maxHeartbeats 2000000 in
theorem sameIs_some (b o c b' o' c' n : Nat) (xs ys : List It) (w : World) (hn : n < 1000000) (hnx : n = xs.length) (hny : n = ys.length) (hx : RunI w b o xs) (hy : RunI w b' o' ys) (hf : ∀ i ∈ xs, Fair i) :
    Calls Tryz.prog 44 #[.slice (some ⟨b, o, none⟩) n c, .slice (some ⟨b', o', none⟩) n c'] w fun e w' => e = .returned (.bool (decide (xs = ys))) ∧ Below w.heap.size w w' := by
  have HX := hide hx
  have HY := hide hy
  have HNX := hide hnx
  have HNY := hide hny
  have HF := hide hf
  have hbx := hx.1
  have hby := hy.1
  clear hx hy hnx hny hf
  have hne0 : ((n : Int) != (n : Int)) = false := by simp
  go_enter Tryz.func44, Tryz.ntmps44
  go_wp2
  go_loopw [5] (fun i wr => ∃ k : Nat, k ≤ n ∧ i = .int .i64 k ∧ Hid (xs.take k = ys.take k) ∧ Below w.heap.size w wr) (fun i _ => n - (intOf i).toNat)
  case atStart => exact ⟨0, Nat.zero_le _, rfl, rfl, Below.refl _ _⟩
  case round =>
    obtain ⟨k, hk, rfl, hsame, hbl⟩ := hrel
    by_cases hlt : k < n
    · obtain ⟨x, hx⟩ : ∃ x, xs[k]? = some x := ⟨xs[k]'(by have := HNX.out; omega), List.getElem?_eq_some_iff.2 ⟨_, rfl⟩⟩
      obtain ⟨y, hy⟩ : ∃ y, ys[k]? = some y := ⟨ys[k]'(by have := HNY.out; omega), List.getElem?_eq_some_iff.2 ⟨_, rfl⟩⟩
      obtain ⟨ra, rn, rc, ta, tn, tc, p0, p1, p2, p3, p4⟩ := (HX.out.2 k x hx).below hbl
      obtain ⟨ra', rn', rc', ta', tn', tc', q0, q1, q2, q3, q4⟩ := (HY.out.2 k y hy).below hbl
      have hfx := HF.out x (List.mem_of_getElem? hx)
      have hki : (k : Int) < (n : Int) := by omega
      have HXK := hide hx
      have HYK := hide hy
      have hbr : b < wr.heap.size := Nat.lt_of_lt_of_le hbx hbl.size
      have hbr' : b' < wr.heap.size := Nat.lt_of_lt_of_le hby hbl.size
      have f0 : ∀ p : Later wr, p.w1.cell? ⟨b, o + k * 3, none⟩ = some (.string x.1) := fun p => p.cell hbr p0
      have f1 : ∀ p : Later wr, p.w1.cell? ⟨b, o + k * 3 + 1, none⟩ = some (.slice ra rn rc) := fun p => p.cell hbr p1
      have f2 : ∀ p : Later wr, p.w1.cell? ⟨b, o + k * 3 + 2, none⟩ = some (.slice ta tn tc) := fun p => p.cell hbr p2
      have g0 : ∀ p : Later wr, p.w1.cell? ⟨b', o' + k * 3, none⟩ = some (.string y.1) := fun p => p.cell hbr' q0
      have g1 : ∀ p : Later wr, p.w1.cell? ⟨b', o' + k * 3 + 1, none⟩ = some (.slice ra' rn' rc') := fun p => p.cell hbr' q1
      have g2 : ∀ p : Later wr, p.w1.cell? ⟨b', o' + k * 3 + 2, none⟩ = some (.slice ta' tn' tc') := fun p => p.cell hbr' q2
      have hne := later_one wr
      obtain ⟨z1, hz1⟩ : ∃ z, decide (x.2.1 = y.2.1) = z := ⟨_, rfl⟩
      obtain ⟨z2, hz2⟩ : ∃ z, decide (x.2.2 = y.2.2) = z := ⟨_, rfl⟩
      have HC1 : Hid (∀ p : Later wr, Calls Tryz.prog 43 #[.slice ra rn rc, .slice ra' rn' rc'] p.w1 fun e w' => e = .returned (.bool z1) ∧ Below p.w1.heap.size p.w1 w') := fun p => by
        rw [← hz1]; exact same_any _ _ x.2.1 y.2.1 p.w1 (p3.below p.below) (q3.below p.below) (by have := hfx.refs; omega)
      have HC2 : Hid (∀ p : Later wr, Calls Tryz.prog 61 #[.slice ta tn tc, .slice ta' tn' tc'] p.w1 fun e w' => e = .returned (.bool z2) ∧ Below p.w1.heap.size p.w1 w') := fun p => by
        rw [← hz2]; exact sameN_any _ _ x.2.2 y.2.2 p.w1 (p4.below p.below) (q4.below p.below) (by have := hfx.tree; omega)
      have HZ1 := hide hz1
      have HZ2 := hide hz2
      have HW : Hid (x ≠ y → decide (xs = ys) = false) := fun h3 => by
        rw [decide_eq_false_iff_not]
        intro e
        exact h3 (Option.some.inj (HXK.out.symm.trans ((congrArg (fun l => l[k]?) e).trans HYK.out)))
      clear hx hy p0 p1 p2 p3 p4 q0 q1 q2 q3 q4 hfx hz1 hz2
      cases hq : (x.1.toList == y.1.toList) with
      | false =>
        have HQ : Hid (x.1 ≠ y.1) := fun e => by rw [e] at hq; simp at hq
        go_wp2
        refine wp_region_later (by kernel_rfl) (by kernel_rfl) ?_
        repeat (first | go_big_quiet_step (fail) | quiet_step (fail))
        refine wpQuiet_nil ?_
        intro W5 hw'
        have hbq := later_below hw'
        clear hw' f0 f1 f2 g0 g1 g2 HC1 HC2
        go_wp2
        go_ret
        exact ⟨ret_bool (HW.out fun e => HQ.out (by rw [e])).symm, below_two hbl hbq⟩
      | true =>
        have HQ : Hid (x.1 = y.1) := bytes_eq.2 (by simpa using hq)
        cases z1 with
        | false =>
          go_wp2
          refine wp_region_later (by kernel_rfl) (by kernel_rfl) ?_
          repeat (first
            | go_big_quiet_step ((go_at_call 43; exact Calls.later_of (HC1.out _)))
            | quiet_step ((go_at_call 43; exact Calls.later_of (HC1.out _))))
          refine wpQuiet_nil ?_
          intro W5 hw'
          have hbq := later_below hw'
          clear hw' f0 f1 f2 g0 g1 g2 HC1 HC2
          go_wp2
          go_ret
          refine ⟨ret_bool (HW.out fun e => ?_).symm, below_two hbl hbq⟩
          have h4 := HZ1.out
          rw [e] at h4
          simp at h4
        | true =>
          cases z2 with
          | _ =>
            go_wp2
            refine wp_region_later (by kernel_rfl) (by kernel_rfl) ?_
            repeat (first
              | go_big_quiet_step ((first
                | (go_at_call 43; exact Calls.later_of (HC1.out _))
                | (go_at_call 61; exact Calls.later_of (HC2.out _))))
              | quiet_step ((first
                | (go_at_call 43; exact Calls.later_of (HC1.out _))
                | (go_at_call 61; exact Calls.later_of (HC2.out _)))))
            refine wpQuiet_nil ?_
            intro W5 hw'
            have hbq := later_below hw'
            clear hw' f0 f1 f2 g0 g1 g2 HC1 HC2
            go_wp2
            first
            | (go_roundw
               case rel => exact ⟨k + 1, by omega, by go_num, take_sameI hsame.out HXK.out HYK.out (it_eq.2 ⟨HQ.out, of_decide_eq_true HZ1.out, of_decide_eq_true HZ2.out⟩), below_two hbl hbq⟩
               case measure => simp [intOf]; omega)
            | (go_ret
               refine ⟨ret_bool (HW.out fun e => ?_).symm, below_two hbl hbq⟩
               have h4 := HZ2.out
               rw [e] at h4
               simp at h4)
    · go_wp2
      go_ret
      refine ⟨ret_bool ?_, hbl⟩
      have e : k = n := by omega
      have h1 := hsame.out
      rw [e] at h1
      have h2 : xs = ys := by
        rw [HNX.out] at h1
        have h3 := HNX.out.symm.trans HNY.out
        rw [List.take_length] at h1
        rw [h1, h3, List.take_length]
      rw [h2]; simp
theorem sameIs_ok (v u : Value) (xs ys : List It) (r : Bool) (w : World) (hv : Its w v xs) (hu : Its w u ys) (hx : xs.length < 1000000) (hf : ∀ i ∈ xs, Fair i) (hr : decide (xs = ys) = r) :
    Calls Tryz.prog 44 #[v, u] w fun e w' => e = .returned (.bool r) ∧ Below w.heap.size w w' := by
  subst hr
  by_cases hl : xs.length = ys.length
  · rcases hv with ⟨rfl, a, c, rfl⟩ | ⟨b, o, c, rfl, hc, hr⟩
    · have hy : ys = [] := List.eq_nil_of_length_eq_zero hl.symm
      subst hy
      obtain ⟨a', c', rfl⟩ := hu.form
      refine (sameIs_none a a' c c' w).mono ?_
      rintro e w' ⟨rfl, rfl⟩
      exact ⟨rfl, Below.refl _ _⟩
    · rcases hu with ⟨rfl, a', c', rfl⟩ | ⟨b', o', c', rfl, _, hr'⟩
      · have hx0 : xs = [] := List.eq_nil_of_length_eq_zero hl
        subst hx0
        refine (sameIs_none (some ⟨b, o, none⟩) a' c c' w).mono ?_
        rintro e w' ⟨rfl, rfl⟩
        exact ⟨rfl, Below.refl _ _⟩
      · rw [← hl]
        exact sameIs_some b o c b' o' c' xs.length xs ys w hx rfl hl hr hr' hf
  · have he : decide (xs = ys) = false := by rw [decide_eq_false_iff_not]; intro e; exact hl (congrArg List.length e)
    rw [he]
    obtain ⟨a, c, rfl⟩ := hv.form
    obtain ⟨a', c', rfl⟩ := hu.form
    refine (sameIs_less a a' xs.length ys.length c c' w hl).mono ?_
    rintro e w' ⟨rfl, rfl⟩
    exact ⟨rfl, Below.refl _ _⟩
end Go.Proofs.YtmlkknbndglgaaaGreatDoor
