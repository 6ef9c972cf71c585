/- The walks of the statements' own GreatNodes and SameNodes. -/
import Derived.Test.YticpljjbnfimkaaN1
namespace Go.Proofs.Yticpljjbnfimkaa
open Go.RowKit

def bigN (n : Nd) : Bool := decide (300 < n.1.size) || decide (500 < n.2.2.size)
/-- Are nodes too many, or too long? -/
def greatN (m : Int) (ns : List Nd) : Bool := decide (m < (ns.length : Int)) || ns.any bigN
theorem greatN_fall {m : Int} {ns : List Nd} {k : Nat} {n : Nd} (hn : ns[k]? = some n) (h : bigN n = true) : greatN m ns = true := by
  unfold greatN
  rw [Bool.or_eq_true]
  exact .inr (List.any_eq_true.2 ⟨n, List.mem_of_getElem? hn, h⟩)
theorem anyN_step {p : Nd → Bool} {ns : List Nd} {k : Nat} {n : Nd} (hn : ns[k]? = some n) (h : p n = false) (ha : (ns.take k).any p = false) : (ns.take (k + 1)).any p = false := by
  obtain ⟨hk, rfl⟩ := List.getElem?_eq_some_iff.1 hn
  rw [List.take_succ_eq_append_getElem hk, List.any_append, ha]
  simpa using h
theorem greatN_not {m : Int} {ns : List Nd} (h : greatN m ns = false) : (ns.length : Int) ≤ m ∧ ∀ n ∈ ns, n.1.size ≤ 300 ∧ n.2.2.size ≤ 500 := by
  unfold greatN at h
  rw [Bool.or_eq_false_iff] at h
  refine ⟨by have := h.1; simp at this; omega, fun n hn => ?_⟩
  have h2 := List.any_eq_false.1 h.2 n hn
  unfold bigN at h2
  simp at h2
  omega

set_option maxHeartbeats 400000 in
theorem greatN_many (ao : Option Addr) (n c : Nat) (m : Int) (w : World) (h : m < (n : Int)) (h0 : 0 ≤ m) (h1 : m ≤ 1000) (hm : n ≤ maxLen) :
    Calls Try.prog 20 #[.slice ao n c, .int .i64 m] w fun e w' => e = .returned (.bool true) ∧ w' = w := by
  unfold maxLen at hm
  go_enter Try.func20, Try.ntmps20
  go_wp2
  go_loop [5] (fun i => i = .int .i64 0) (fun _ => 0)
  case atStart => rfl
  case round =>
    subst hrel
    have h2 : (0 : Int) < (n : Int) := by omega
    go_wp2
    go_ret
    exact ⟨rfl, rfl⟩
set_option maxHeartbeats 400000 in
theorem greatN_none (ao : Option Addr) (c : Nat) (m : Int) (w : World) (h0 : 0 ≤ m) (h1 : m ≤ 1000) :
    Calls Try.prog 20 #[.slice ao 0 c, .int .i64 m] w fun e w' => e = .returned (.bool false) ∧ w' = w := by
  go_enter Try.func20, Try.ntmps20
  go_wp2
  go_loop [5] (fun i => i = .int .i64 0) (fun _ => 0)
  case atStart => rfl
  case round =>
    subst hrel
    go_wp2
    go_ret
    exact ⟨ret_bool (decide_eq_false (by omega)), rfl⟩
set_option maxHeartbeats 400000 in
theorem greatN_few (b o c : Nat) (m : Int) (ns : List Nd) (w : World) (hl : (ns.length : Int) ≤ m) (h1 : m ≤ 1000) (hr : Run w b o ns) :
    Calls Try.prog 20 #[.slice (some ⟨b, o, none⟩) ns.length c, .int .i64 m] w fun e w' => e = .returned (.bool (greatN m ns)) ∧ w' = w := by
  obtain ⟨l, hm⟩ : ∃ l, l = ns.length := ⟨_, rfl⟩
  have HM := hide hm
  have HR := hide hr
  rw [← hm] at hl ⊢
  clear hm hr
  go_enter Try.func20, Try.ntmps20
  go_wp2
  go_loop [5] (fun i => ∃ k : Nat, k ≤ l ∧ i = .int .i64 k ∧ Hid ((ns.take k).any bigN = false)) (fun i => l - (intOf i).toNat)
  case atStart => exact ⟨0, Nat.zero_le _, rfl, rfl⟩
  case round =>
    obtain ⟨k, hk, rfl, ha⟩ := hrel
    by_cases hlt : k < l
    · obtain ⟨n, hn⟩ : ∃ n, ns[k]? = some n := ⟨ns[k]'(by have := HM.out; omega), List.getElem?_eq_some_iff.2 ⟨_, rfl⟩⟩
      obtain ⟨g1, g2, g3⟩ := HR.out.2 k n hn
      have HN := hide hn
      clear hn
      by_cases hp : 300 < n.1.size
      · have hp' : (300 : Int) < (n.1.size : Int) := by omega
        go_wp2
        go_ret
        exact ⟨ret_bool (greatN_fall HN.out (by unfold bigN; rw [decide_eq_true hp, Bool.true_or])).symm, rfl⟩
      · have hp' : (n.1.size : Int) ≤ 300 := by omega
        by_cases hd : 500 < n.2.2.size
        · have hd' : (500 : Int) < (n.2.2.size : Int) := by omega
          go_wp2
          go_ret
          exact ⟨ret_bool (greatN_fall HN.out (by unfold bigN; rw [decide_eq_true hd, Bool.or_true])).symm, rfl⟩
        · have hd' : (n.2.2.size : Int) ≤ 500 := by omega
          go_wp2
          go_round
          case rel => exact ⟨k + 1, by omega, by go_num, anyN_step HN.out (by unfold bigN; rw [decide_eq_false hp, decide_eq_false hd]; rfl) ha.out⟩
          case measure => simp [intOf]; omega
    · go_wp2
      go_ret
      refine ⟨ret_bool ?_, rfl⟩
      have e : k = ns.length := by have := HM.out; omega
      have h2 := ha.out
      rw [e, List.take_length] at h2
      unfold greatN
      rw [h2, Bool.or_false, ← HM.out]

theorem greatN_ok (v : Value) (m : Int) (ns : List Nd) (b : Bool) (w : World) (h : Nods w v ns) (hm : ns.length ≤ maxLen) (h0 : 0 ≤ m) (h1 : m ≤ 1000) (hb : greatN m ns = b) :
    Calls Try.prog 20 #[v, .int .i64 m] w fun e w' => e = .returned (.bool b) ∧ w' = w := by
  subst hb
  by_cases hn : m < (ns.length : Int)
  · have e : greatN m ns = true := by unfold greatN; rw [decide_eq_true hn, Bool.true_or]
    rw [e]
    obtain ⟨a, c, rfl⟩ := h.form
    exact greatN_many a ns.length c m w hn h0 h1 hm
  · rcases h with ⟨rfl, a, c, rfl⟩ | ⟨b, o, c, rfl, _, hr⟩
    · have e : greatN m [] = false := by unfold greatN; rw [decide_eq_false (by simpa using h0)]; rfl
      rw [e]
      exact greatN_none a c m w h0 h1
    · exact greatN_few b o c m ns w (by omega) h1 hr

end Go.Proofs.Yticpljjbnfimkaa
