/- The walks of small functions over nodes: Size, GreatNodes. -/
import Derived.Test.YtdgchinfanialaaDoorNod
import Derived.Deep.QuietTactic
import Derived.BigQuiet
namespace Go.Proofs.YtdgchinfanialaaDoor
open Go.RowKit

def sizeN (ns : List Nd) : Nat := (ns.map fun n => n.2.2.size).sum
theorem sizeN_app (a b : List Nd) : sizeN (a ++ b) = sizeN a + sizeN b := by simp [sizeN]
theorem sizeN_step {ns : List Nd} {k : Nat} {n : Nd} (h : ns[k]? = some n) : sizeN (ns.take (k + 1)) = sizeN (ns.take k) + n.2.2.size := by
  obtain ⟨hk, rfl⟩ := List.getElem?_eq_some_iff.1 h
  rw [List.take_succ_eq_append_getElem hk, sizeN_app]; simp [sizeN]
theorem sizeN_le (ns : List Nd) (m : Nat) (h : ∀ n ∈ ns, n.2.2.size ≤ m) : sizeN ns ≤ ns.length * m := by
  induction ns with
  | nil => simp [sizeN]
  | cons n r ih =>
    have h1 := ih (fun x hx => h x (by simp [hx]))
    have h2 := h n (by simp)
    simp [sizeN] at h1 ⊢
    rw [Nat.add_mul]; omega

theorem ret_int {a b : Int} (h : a = b) : Ending.returned (.int .i64 a) = .returned (.int .i64 b) := by rw [h]

set_option maxHeartbeats 400000 in
theorem size_none (a : Option Addr) (c : Nat) (w : World) :
    Calls Tryd.prog 21 #[.slice a 0 c] w fun e w' => e = .returned (.int .i64 0) ∧ Below w.heap.size w w' := by
  go_enter Tryd.func21, Tryd.ntmps21
  go_wp2
  go_loop [3, 8] (fun s i => s = .int .i64 0 ∧ i = .int .i64 0) (fun _ _ => 0)
  case atStart => exact ⟨rfl, rfl⟩
  case round =>
    obtain ⟨rfl, rfl⟩ := hrel
    go_wp2
    go_ret
    exact ⟨rfl, Below.refl _ _⟩

set_option maxHeartbeats 400000 in
theorem size_some (b o c : Nat) (ns : List Nd) (w : World) (h : Run w b o ns) (hl : ns.length < 1000000) (hz : ∀ n ∈ ns, n.2.2.size ≤ 1000) :
    Calls Tryd.prog 21 #[.slice (some ⟨b, o, none⟩) ns.length c] w fun e w' => e = .returned (.int .i64 (sizeN ns)) ∧ Below w.heap.size w w' := by
  obtain ⟨m, hm⟩ : ∃ m, m = ns.length := ⟨_, rfl⟩
  have HM := hide hm
  have HR := hide h
  have HZ := hide hz
  rw [← hm] at hl ⊢
  clear hm h hz
  go_enter Tryd.func21, Tryd.ntmps21
  go_wp2
  go_loopw [3, 8] (fun s i wr => ∃ k q : Nat, k ≤ m ∧ i = .int .i64 k ∧ s = .int .i64 q ∧ q ≤ k * 1000 ∧ Hid (q = sizeN (ns.take k)) ∧ Below w.heap.size w wr) (fun _ i _ => m - (intOf i).toNat)
  case atStart => exact ⟨0, 0, Nat.zero_le _, rfl, rfl, by omega, rfl, Below.refl _ _⟩
  case round =>
    obtain ⟨k, q, hk, rfl, rfl, hq, HQ, hbl⟩ := hrel
    by_cases hlt : k < m
    · obtain ⟨n, hn⟩ : ∃ n, ns[k]? = some n := ⟨ns[k]'(by have := HM.out; omega), List.getElem?_eq_some_iff.2 ⟨_, rfl⟩⟩
      have hnz := HZ.out n (List.mem_of_getElem? hn)
      obtain ⟨h1, h2, h3⟩ := (HR.out.2 k n hn).below hbl HR.out.1
      have HN := hide hn
      clear hn
      go_wp2
      go_roundw
      case rel => exact ⟨k + 1, q + n.2.2.size, by omega, by go_num, by go_num, by omega, hide (by rw [sizeN_step HN.out, ← HQ.out]), hbl.alloc hbl.size _⟩
      case measure => simp [intOf]; omega
    · go_wp2
      go_ret
      refine ⟨ret_int ?_, hbl⟩
      have e : k = ns.length := by have := HM.out; omega
      rw [HQ.out, e, List.take_length]

theorem size_any (v : Value) (ns : List Nd) (w : World) (h : Nods w v ns) (hl : ns.length < 1000000) (hz : ∀ n ∈ ns, n.2.2.size ≤ 1000) :
    Calls Tryd.prog 21 #[v] w fun e w' => e = .returned (.int .i64 (sizeN ns)) ∧ Below w.heap.size w w' := by
  rcases h with ⟨rfl, a, c, rfl⟩ | ⟨b, o, c, rfl, _, hr⟩
  · exact size_none a c w
  · exact size_some b o c ns w hr hl hz

end Go.Proofs.YtdgchinfanialaaDoor
