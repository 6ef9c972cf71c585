/- Texts that stand together, joined: XB, XC. -/
import Derived.Test.YticpljjbnfimkaaK8
import Derived.Test.YticpljjbnfimkaaJ14
import Derived.BigQuiet
import Derived.Test.YticpljjbnfimkaaJ3
/- The walks of the statements' own GreatTexts (of so many, so long), GreatItems, SameItems. -/
namespace Go.Proofs.Yticpljjbnfimkaa
open Go.RowKit

/-- Are texts too many, or too long? -/
def greatT (m l : Int) (xs : List ByteArray) : Bool := decide (m < (xs.length : Int)) || xs.any fun x => decide (l < (x.size : Int))
theorem greatT_fall {m l : Int} {xs : List ByteArray} {k : Nat} {x : ByteArray} (hx : xs[k]? = some x) (h : l < (x.size : Int)) : greatT m l xs = true := by
  unfold greatT
  rw [Bool.or_eq_true]
  exact .inr (List.any_eq_true.2 ⟨x, List.mem_of_getElem? hx, by simpa using h⟩)
theorem anyT_step {l : Int} {xs : List ByteArray} {k : Nat} {x : ByteArray} (hx : xs[k]? = some x) (h : ¬ l < (x.size : Int)) (ha : (xs.take k).any (fun x => decide (l < (x.size : Int))) = false) : (xs.take (k + 1)).any (fun x => decide (l < (x.size : Int))) = false := by
  obtain ⟨hk, rfl⟩ := List.getElem?_eq_some_iff.1 hx
  rw [List.take_succ_eq_append_getElem hk, List.any_append, ha]
  simpa using h
theorem greatT_not {m l : Int} {xs : List ByteArray} (h : greatT m l xs = false) : (xs.length : Int) ≤ m ∧ ∀ x ∈ xs, (x.size : Int) ≤ l := by
  unfold greatT at h
  rw [Bool.or_eq_false_iff] at h
  refine ⟨by have := h.1; simp at this; omega, fun x hx => ?_⟩
  have h2 := List.any_eq_false.1 h.2 x hx
  simp at h2
  omega

set_option maxHeartbeats 400000 in
theorem greatT_many (ao : Option Addr) (n c : Nat) (m l : Int) (w : World) (h : m < (n : Int)) (h0 : 0 ≤ m) (h1 : m ≤ 1000) (hm : n ≤ maxLen) :
    Calls Try.prog 19 #[.slice ao n c, .int .i64 m, .int .i64 l] w fun e w' => e = .returned (.bool true) ∧ w' = w := by
  unfold maxLen at hm
  go_enter Try.func19, Try.ntmps19
  go_wp2
  go_loop [7] (fun i => i = .int .i64 0) (fun _ => 0)
  case atStart => rfl
  case round =>
    subst hrel
    have h2 : (0 : Int) < (n : Int) := by omega
    go_wp2
    go_ret
    exact ⟨rfl, rfl⟩
set_option maxHeartbeats 400000 in
theorem greatT_none (ao : Option Addr) (c : Nat) (m l : Int) (w : World) (h0 : 0 ≤ m) (h1 : m ≤ 1000) :
    Calls Try.prog 19 #[.slice ao 0 c, .int .i64 m, .int .i64 l] w fun e w' => e = .returned (.bool false) ∧ w' = w := by
  go_enter Try.func19, Try.ntmps19
  go_wp2
  go_loop [7] (fun i => i = .int .i64 0) (fun _ => 0)
  case atStart => rfl
  case round =>
    subst hrel
    go_wp2
    go_ret
    exact ⟨ret_bool (decide_eq_false (by omega)), rfl⟩
set_option maxHeartbeats 400000 in
theorem greatT_few (b o c n : Nat) (m l : Int) (xs : List ByteArray) (w : World) (hn : n = xs.length) (hl : (n : Int) ≤ m) (h1 : m ≤ 1000) (hcell : ∀ (j : Nat) x, xs[j]? = some x → w.cell? ⟨b, o + j, none⟩ = some (.string x)) :
    Calls Try.prog 19 #[.slice (some ⟨b, o, none⟩) n c, .int .i64 m, .int .i64 l] w fun e w' => e = .returned (.bool (greatT m l xs)) ∧ w' = w := by
  have HC := hide hcell
  have HN := hide hn
  clear hcell hn
  go_enter Try.func19, Try.ntmps19
  go_wp2
  go_loop [7] (fun i => ∃ k : Nat, k ≤ n ∧ i = .int .i64 k ∧ Hid ((xs.take k).any (fun x => decide (l < (x.size : Int))) = false)) (fun i => n - (intOf i).toNat)
  case atStart => exact ⟨0, Nat.zero_le _, rfl, rfl⟩
  case round =>
    obtain ⟨k, hk, rfl, ha⟩ := hrel
    by_cases hlt : k < n
    · obtain ⟨x, hx⟩ : ∃ x, xs[k]? = some x := ⟨xs[k]'(by have := HN.out; omega), List.getElem?_eq_some_iff.2 ⟨_, rfl⟩⟩
      have hc := HC.out k x hx
      have HX := hide hx
      clear hx
      by_cases hz : l < (x.size : Int)
      · go_wp2
        go_ret
        exact ⟨ret_bool (greatT_fall HX.out hz).symm, rfl⟩
      · have hz' : (x.size : Int) ≤ l := by omega
        go_wp2
        go_round
        case rel => exact ⟨k + 1, by omega, by go_num, anyT_step HX.out hz ha.out⟩
        case measure => simp [intOf]; omega
    · go_wp2
      go_ret
      refine ⟨ret_bool ?_, rfl⟩
      have e : k = xs.length := by have := HN.out; omega
      have h1 := ha.out
      rw [e, List.take_length] at h1
      unfold greatT
      rw [h1, Bool.or_false, ← HN.out]
theorem greatT_ok (v : Value) (m l : Int) (xs : List ByteArray) (r : Bool) (w : World) (h : Txt w v xs) (hm : xs.length ≤ maxLen) (h0 : 0 ≤ m) (h1 : m ≤ 1000) (hv : greatT m l xs = r) :
    Calls Try.prog 19 #[v, .int .i64 m, .int .i64 l] w fun e w' => e = .returned (.bool r) ∧ w' = w := by
  subst hv
  by_cases hn : m < (xs.length : Int)
  · have e : greatT m l xs = true := by unfold greatT; rw [decide_eq_true hn, Bool.true_or]
    rw [e]
    obtain ⟨a, c, rfl⟩ := h.form
    exact greatT_many a xs.length c m l w hn h0 h1 hm
  · rcases h with ⟨rfl, a, c, rfl⟩ | ⟨b, o, c, rfl, _, _, hcell⟩
    · have e : greatT m l [] = false := by unfold greatT; rw [decide_eq_false (by simpa using h0)]; rfl
      rw [e]
      exact greatT_none a c m l w h0 h1
    · exact greatT_few b o c xs.length m l xs w rfl (by omega) h1 hcell
end Go.Proofs.Yticpljjbnfimkaa
/- The walks of the statements' own GreatItems and SameItems. -/
namespace Go.Proofs.Yticpljjbnfimkaa
open Go.RowKit

def bigI (i : It) : Bool := decide (100 < i.1.size) || greatT 12 100 i.2.1 || greatN 30 i.2.2
/-- Are items too many, or too great? -/
def greatI (is : List It) : Bool := decide (10 < is.length) || is.any bigI
/-- Such lists as there may be. -/
def Lens (is : List It) : Prop := ∀ i ∈ is, i.2.1.length ≤ maxLen ∧ i.2.2.length ≤ maxLen
theorem greatI_fall {is : List It} {k : Nat} {i : It} (hi : is[k]? = some i) (h : bigI i = true) : greatI is = true := by
  unfold greatI
  rw [Bool.or_eq_true]
  exact .inr (List.any_eq_true.2 ⟨i, List.mem_of_getElem? hi, h⟩)
theorem anyI_step {is : List It} {k : Nat} {i : It} (hi : is[k]? = some i) (h : bigI i = false) (ha : (is.take k).any bigI = false) : (is.take (k + 1)).any bigI = false := by
  obtain ⟨hk, rfl⟩ := List.getElem?_eq_some_iff.1 hi
  rw [List.take_succ_eq_append_getElem hk, List.any_append, ha]
  simpa using h
theorem bigI_not {i : It} (h : bigI i = false) : i.1.size ≤ 100 ∧ i.2.1.length ≤ 12 ∧ (∀ x ∈ i.2.1, x.size ≤ 100) ∧ i.2.2.length ≤ 30 ∧ ∀ n ∈ i.2.2, n.1.size ≤ 300 ∧ n.2.2.size ≤ 500 := by
  unfold bigI at h
  rw [Bool.or_eq_false_iff, Bool.or_eq_false_iff] at h
  obtain ⟨⟨h1, h2⟩, h3⟩ := h
  obtain ⟨a1, a2⟩ := greatT_not h2
  obtain ⟨b1, b2⟩ := greatN_not h3
  refine ⟨by simpa using h1, by omega, fun x hx => by have := a2 x hx; omega, by omega, b2⟩
theorem bigI_fair {i : It} (h : bigI i = false) : Fair i := by
  obtain ⟨h1, h2, h3, h4, h5⟩ := bigI_not h
  exact ⟨by omega, by omega, fun x hx => by have := h3 x hx; omega, by omega, fun n hn => by have := h5 n hn; omega⟩
theorem greatI_not {is : List It} (h : greatI is = false) : is.length ≤ 10 ∧ ∀ i ∈ is, bigI i = false := by
  unfold greatI at h
  rw [Bool.or_eq_false_iff] at h
  refine ⟨by simpa using h.1, fun i hi => ?_⟩
  simpa using List.any_eq_false.1 h.2 i hi

set_option maxHeartbeats 400000 in
theorem greatI_many (ao : Option Addr) (n c : Nat) (w : World) (h : 10 < n) (hm : n ≤ maxLen) :
    Calls Try.prog 7 #[.slice ao n c] w fun e w' => e = .returned (.bool true) ∧ w' = w := by
  unfold maxLen at hm
  have h' : (10 : Int) < (n : Int) := by omega
  go_enter Try.func7, Try.ntmps7
  go_wp2
  go_loop [3] (fun i => i = .int .i64 0) (fun _ => 0)
  case atStart => rfl
  case round =>
    subst hrel
    have h2 : (0 : Int) < (n : Int) := by omega
    go_wp2
    go_ret
    exact ⟨rfl, rfl⟩
set_option maxHeartbeats 400000 in
theorem greatI_none (ao : Option Addr) (c : Nat) (w : World) :
    Calls Try.prog 7 #[.slice ao 0 c] w fun e w' => e = .returned (.bool false) ∧ w' = w := by
  go_enter Try.func7, Try.ntmps7
  go_wp2
  go_loop [3] (fun i => i = .int .i64 0) (fun _ => 0)
  case atStart => rfl
  case round =>
    subst hrel
    go_wp2
    go_ret
    exact ⟨rfl, rfl⟩
set_option maxRecDepth 100000 in
set_option maxHeartbeats 1000000 in
theorem greatI_few (b o c n : Nat) (is : List It) (w : World) (hn : n = is.length) (h10 : n ≤ 10) (hr : RunI w b o is) (hz : Lens is) :
    Calls Try.prog 7 #[.slice (some ⟨b, o, none⟩) n c] w fun e w' => e = .returned (.bool (greatI is)) ∧ w' = w := by
  have HR := hide hr
  have HN := hide hn
  have HZ := hide hz
  have h10' : (n : Int) ≤ 10 := by omega
  clear hr hn hz
  go_enter Try.func7, Try.ntmps7
  go_wp2
  go_loop [3] (fun i => ∃ k : Nat, k ≤ n ∧ i = .int .i64 k ∧ Hid ((is.take k).any bigI = false)) (fun i => n - (intOf i).toNat)
  case atStart => exact ⟨0, Nat.zero_le _, rfl, rfl⟩
  case round =>
    obtain ⟨k, hk, rfl, ha⟩ := hrel
    by_cases hlt : k < n
    · obtain ⟨i, hi⟩ : ∃ i, is[k]? = some i := ⟨is[k]'(by have := HN.out; omega), List.getElem?_eq_some_iff.2 ⟨_, rfl⟩⟩
      obtain ⟨ra, rn, rc, ta, tn, tc, q0, q1, q2, q3, q4⟩ := HR.out.2 k i hi
      obtain ⟨z1, z2⟩ := HZ.out i (List.mem_of_getElem? hi)
      have HI := hide hi
      have hki : (k : Int) < (n : Int) := by omega
      have Q3 := hide q3
      have Q4 := hide q4
      clear hi q3 q4
      by_cases hnm : 100 < i.1.size
      · have hnm' : (100 : Int) < (i.1.size : Int) := by omega
        go_wp2
        go_ret
        exact ⟨ret_bool (greatI_fall HI.out (by unfold bigI; rw [decide_eq_true hnm]; rfl)).symm, rfl⟩
      · have hnm' : (i.1.size : Int) ≤ 100 := by omega
        cases hg : greatT 12 100 i.2.1 with
        | true =>
          have HG := hide hg
          clear hg
          go_wp2_with fail
          refine (greatT_ok _ 12 100 i.2.1 true w Q3.out z1 (by decide) (by decide) HG.out).mono ?_
          rintro e w1 ⟨rfl, rfl⟩
          go_wp2
          go_ret
          exact ⟨ret_bool (greatI_fall HI.out (by unfold bigI; rw [HG.out]; simp)).symm, rfl⟩
        | false =>
          have HG := hide hg
          clear hg
          cases hg2 : greatN 30 i.2.2 with
          | true =>
            have HG2 := hide hg2
            clear hg2
            go_wp2_with fail
            refine (greatT_ok _ 12 100 i.2.1 false w Q3.out z1 (by decide) (by decide) HG.out).mono ?_
            rintro e w1 ⟨rfl, rfl⟩
            go_wp2_with fail
            refine (greatN_ok _ 30 i.2.2 true _ Q4.out z2 (by decide) (by decide) HG2.out).mono ?_
            rintro e w1 ⟨rfl, rfl⟩
            go_wp2
            go_ret
            exact ⟨ret_bool (greatI_fall HI.out (by unfold bigI; rw [HG2.out]; simp)).symm, rfl⟩
          | false =>
            have HG2 := hide hg2
            clear hg2
            go_wp2_with fail
            refine (greatT_ok _ 12 100 i.2.1 false w Q3.out z1 (by decide) (by decide) HG.out).mono ?_
            rintro e w1 ⟨rfl, rfl⟩
            go_wp2_with fail
            refine (greatN_ok _ 30 i.2.2 false _ Q4.out z2 (by decide) (by decide) HG2.out).mono ?_
            rintro e w1 ⟨rfl, rfl⟩
            go_wp2
            go_round
            case rel => exact ⟨k + 1, by omega, by go_num, anyI_step HI.out (by unfold bigI; rw [HG.out, HG2.out, decide_eq_false hnm]; rfl) ha.out⟩
            case measure => simp [intOf]; omega
    · go_wp2
      go_ret
      refine ⟨ret_bool ?_, rfl⟩
      have e : k = is.length := by have := HN.out; omega
      have h2 := ha.out
      rw [e, List.take_length] at h2
      unfold greatI
      rw [h2, Bool.or_false, ← HN.out, Bool.eq_iff_iff]
      simp only [decide_eq_true_eq]
      omega
theorem greatI_ok (v : Value) (is : List It) (r : Bool) (w : World) (h : Its w v is) (hm : is.length ≤ maxLen) (hz : Lens is) (hv : greatI is = r) :
    Calls Try.prog 7 #[v] w fun e w' => e = .returned (.bool r) ∧ w' = w := by
  subst hv
  by_cases hn : 10 < is.length
  · have e : greatI is = true := by unfold greatI; rw [decide_eq_true hn, Bool.true_or]
    rw [e]
    obtain ⟨a, c, rfl⟩ := h.form
    exact greatI_many a is.length c w hn hm
  · rcases h with ⟨rfl, a, c, rfl⟩ | ⟨b, o, c, rfl, _, hr⟩
    · exact greatI_none a c w
    · exact greatI_few b o c is.length is w rfl (by omega) hr hz

theorem take_sameI {a b : List It} {k : Nat} {x y : It} (h : a.take k = b.take k) (hx : a[k]? = some x) (hy : b[k]? = some y) (e : x = y) : a.take (k + 1) = b.take (k + 1) := by
  subst e
  obtain ⟨h1, rfl⟩ := List.getElem?_eq_some_iff.1 hx
  obtain ⟨h2, e2⟩ := List.getElem?_eq_some_iff.1 hy
  rw [List.take_succ_eq_append_getElem h1, List.take_succ_eq_append_getElem h2, h, e2]
theorem it_eq {x y : It} : x = y ↔ x.1 = y.1 ∧ x.2.1 = y.2.1 ∧ x.2.2 = y.2.2 := by
  obtain ⟨a, b, c⟩ := x
  obtain ⟨a', b', c'⟩ := y
  simp
end Go.Proofs.Yticpljjbnfimkaa
