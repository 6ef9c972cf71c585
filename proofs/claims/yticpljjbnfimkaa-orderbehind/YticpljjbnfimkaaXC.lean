/- The walks of the statements' own GreatItems and SameItems. -/
import Derived.Test.YticpljjbnfimkaaXB
import Derived.Test.YticpljjbnfimkaaN2
namespace Go.Proofs.Yticpljjbnfimkaa
open Go.RowKit

def bigI (i : It) : Bool := decide (100 < i.1.size) || greatT 12 100 i.2.1 || greatN 30 i.2.2
/-- Are items too many, or too great? -/
def greatI (is : List It) : Bool := decide (10 < is.length) || is.any bigI
/-- Such lists as there may be. -/
def Lens (is : List It) : Prop := ∀ i ∈ is, i.2.1.length ≤ maxLen ∧ i.2.2.length ≤ maxLen
theorem greatI_fall {is : List It} {k : Nat} {i : It} (hi : is[k]? = some i) (h : bigI i = true) : greatI is = true := by
  unfold greatI
  rw [Bool.or_eq_true]
  exact .inr (List.any_eq_true.2 ⟨i, List.mem_of_getElem? hi, h⟩)
theorem anyI_step {is : List It} {k : Nat} {i : It} (hi : is[k]? = some i) (h : bigI i = false) (ha : (is.take k).any bigI = false) : (is.take (k + 1)).any bigI = false := by
  obtain ⟨hk, rfl⟩ := List.getElem?_eq_some_iff.1 hi
  rw [List.take_succ_eq_append_getElem hk, List.any_append, ha]
  simpa using h
theorem bigI_not {i : It} (h : bigI i = false) : i.1.size ≤ 100 ∧ i.2.1.length ≤ 12 ∧ (∀ x ∈ i.2.1, x.size ≤ 100) ∧ i.2.2.length ≤ 30 ∧ ∀ n ∈ i.2.2, n.1.size ≤ 300 ∧ n.2.2.size ≤ 500 := by
  unfold bigI at h
  rw [Bool.or_eq_false_iff, Bool.or_eq_false_iff] at h
  obtain ⟨⟨h1, h2⟩, h3⟩ := h
  obtain ⟨a1, a2⟩ := greatT_not h2
  obtain ⟨b1, b2⟩ := greatN_not h3
  refine ⟨by simpa using h1, by omega, fun x hx => by have := a2 x hx; omega, by omega, b2⟩
theorem bigI_fair {i : It} (h : bigI i = false) : Fair i := by
  obtain ⟨h1, h2, h3, h4, h5⟩ := bigI_not h
  exact ⟨by omega, by omega, fun x hx => by have := h3 x hx; omega, by omega, fun n hn => by have := h5 n hn; omega⟩
theorem greatI_not {is : List It} (h : greatI is = false) : is.length ≤ 10 ∧ ∀ i ∈ is, bigI i = false := by
  unfold greatI at h
  rw [Bool.or_eq_false_iff] at h
  refine ⟨by simpa using h.1, fun i hi => ?_⟩
  simpa using List.any_eq_false.1 h.2 i hi

set_option maxHeartbeats 400000 in
theorem greatI_many (ao : Option Addr) (n c : Nat) (w : World) (h : 10 < n) (hm : n ≤ maxLen) :
    Calls Try.prog 7 #[.slice ao n c] w fun e w' => e = .returned (.bool true) ∧ w' = w := by
  unfold maxLen at hm
  have h' : (10 : Int) < (n : Int) := by omega
  go_enter Try.func7, Try.ntmps7
  go_wp2
  go_loop [3] (fun i => i = .int .i64 0) (fun _ => 0)
  case atStart => rfl
  case round =>
    subst hrel
    have h2 : (0 : Int) < (n : Int) := by omega
    go_wp2
    go_ret
    exact ⟨rfl, rfl⟩
set_option maxHeartbeats 400000 in
theorem greatI_none (ao : Option Addr) (c : Nat) (w : World) :
    Calls Try.prog 7 #[.slice ao 0 c] w fun e w' => e = .returned (.bool false) ∧ w' = w := by
  go_enter Try.func7, Try.ntmps7
  go_wp2
  go_loop [3] (fun i => i = .int .i64 0) (fun _ => 0)
  case atStart => rfl
  case round =>
    subst hrel
    go_wp2
    go_ret
    exact ⟨rfl, rfl⟩
set_option maxRecDepth 100000 in
set_option maxHeartbeats 1000000 in
theorem greatI_few (b o c n : Nat) (is : List It) (w : World) (hn : n = is.length) (h10 : n ≤ 10) (hr : RunI w b o is) (hz : Lens is) :
    Calls Try.prog 7 #[.slice (some ⟨b, o, none⟩) n c] w fun e w' => e = .returned (.bool (greatI is)) ∧ w' = w := by
  have HR := hide hr
  have HN := hide hn
  have HZ := hide hz
  have h10' : (n : Int) ≤ 10 := by omega
  clear hr hn hz
  go_enter Try.func7, Try.ntmps7
  go_wp2
  go_loop [3] (fun i => ∃ k : Nat, k ≤ n ∧ i = .int .i64 k ∧ Hid ((is.take k).any bigI = false)) (fun i => n - (intOf i).toNat)
  case atStart => exact ⟨0, Nat.zero_le _, rfl, rfl⟩
  case round =>
    obtain ⟨k, hk, rfl, ha⟩ := hrel
    by_cases hlt : k < n
    · obtain ⟨i, hi⟩ : ∃ i, is[k]? = some i := ⟨is[k]'(by have := HN.out; omega), List.getElem?_eq_some_iff.2 ⟨_, rfl⟩⟩
      obtain ⟨ra, rn, rc, ta, tn, tc, q0, q1, q2, q3, q4⟩ := HR.out.2 k i hi
      obtain ⟨z1, z2⟩ := HZ.out i (List.mem_of_getElem? hi)
      have HI := hide hi
      have hki : (k : Int) < (n : Int) := by omega
      have Q3 := hide q3
      have Q4 := hide q4
      clear hi q3 q4
      by_cases hnm : 100 < i.1.size
      · have hnm' : (100 : Int) < (i.1.size : Int) := by omega
        go_wp2
        go_ret
        exact ⟨ret_bool (greatI_fall HI.out (by unfold bigI; rw [decide_eq_true hnm]; rfl)).symm, rfl⟩
      · have hnm' : (i.1.size : Int) ≤ 100 := by omega
        cases hg : greatT 12 100 i.2.1 with
        | true =>
          have HG := hide hg
          clear hg
          go_wp2_with fail
          refine (greatT_ok _ 12 100 i.2.1 true w Q3.out z1 (by decide) (by decide) HG.out).mono ?_
          rintro e w1 ⟨rfl, rfl⟩
          go_wp2
          go_ret
          exact ⟨ret_bool (greatI_fall HI.out (by unfold bigI; rw [HG.out]; simp)).symm, rfl⟩
        | false =>
          have HG := hide hg
          clear hg
          cases hg2 : greatN 30 i.2.2 with
          | true =>
            have HG2 := hide hg2
            clear hg2
            go_wp2_with fail
            refine (greatT_ok _ 12 100 i.2.1 false w Q3.out z1 (by decide) (by decide) HG.out).mono ?_
            rintro e w1 ⟨rfl, rfl⟩
            go_wp2_with fail
            refine (greatN_ok _ 30 i.2.2 true _ Q4.out z2 (by decide) (by decide) HG2.out).mono ?_
            rintro e w1 ⟨rfl, rfl⟩
            go_wp2
            go_ret
            exact ⟨ret_bool (greatI_fall HI.out (by unfold bigI; rw [HG2.out]; simp)).symm, rfl⟩
          | false =>
            have HG2 := hide hg2
            clear hg2
            go_wp2_with fail
            refine (greatT_ok _ 12 100 i.2.1 false w Q3.out z1 (by decide) (by decide) HG.out).mono ?_
            rintro e w1 ⟨rfl, rfl⟩
            go_wp2_with fail
            refine (greatN_ok _ 30 i.2.2 false _ Q4.out z2 (by decide) (by decide) HG2.out).mono ?_
            rintro e w1 ⟨rfl, rfl⟩
            go_wp2
            go_round
            case rel => exact ⟨k + 1, by omega, by go_num, anyI_step HI.out (by unfold bigI; rw [HG.out, HG2.out, decide_eq_false hnm]; rfl) ha.out⟩
            case measure => simp [intOf]; omega
    · go_wp2
      go_ret
      refine ⟨ret_bool ?_, rfl⟩
      have e : k = is.length := by have := HN.out; omega
      have h2 := ha.out
      rw [e, List.take_length] at h2
      unfold greatI
      rw [h2, Bool.or_false, ← HN.out, Bool.eq_iff_iff]
      simp only [decide_eq_true_eq]
      omega
theorem greatI_ok (v : Value) (is : List It) (r : Bool) (w : World) (h : Its w v is) (hm : is.length ≤ maxLen) (hz : Lens is) (hv : greatI is = r) :
    Calls Try.prog 7 #[v] w fun e w' => e = .returned (.bool r) ∧ w' = w := by
  subst hv
  by_cases hn : 10 < is.length
  · have e : greatI is = true := by unfold greatI; rw [decide_eq_true hn, Bool.true_or]
    rw [e]
    obtain ⟨a, c, rfl⟩ := h.form
    exact greatI_many a is.length c w hn hm
  · rcases h with ⟨rfl, a, c, rfl⟩ | ⟨b, o, c, rfl, _, hr⟩
    · exact greatI_none a c w
    · exact greatI_few b o c is.length is w rfl (by omega) hr hz

theorem take_sameI {a b : List It} {k : Nat} {x y : It} (h : a.take k = b.take k) (hx : a[k]? = some x) (hy : b[k]? = some y) (e : x = y) : a.take (k + 1) = b.take (k + 1) := by
  subst e
  obtain ⟨h1, rfl⟩ := List.getElem?_eq_some_iff.1 hx
  obtain ⟨h2, e2⟩ := List.getElem?_eq_some_iff.1 hy
  rw [List.take_succ_eq_append_getElem h1, List.take_succ_eq_append_getElem h2, h, e2]
theorem it_eq {x y : It} : x = y ↔ x.1 = y.1 ∧ x.2.1 = y.2.1 ∧ x.2.2 = y.2.2 := by
  obtain ⟨a, b, c⟩ := x
  obtain ⟨a', b', c'⟩ := y
  simp
end Go.Proofs.Yticpljjbnfimkaa
