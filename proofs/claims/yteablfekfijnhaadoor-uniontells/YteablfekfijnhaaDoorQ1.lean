/- The document's union: at, blocked. -/
import Derived.Test.YteablfekfijnhaaDoorPlainW
import Derived.Test.YteablfekfijnhaaDoorP4
import Derived.Test.YteablfekfijnhaaDoorJ5
namespace Go.Proofs.YteablfekfijnhaaDoor
open Go.RowKit

theorem text_sameQ {a b : ByteArray} : (a.toList == b.toList) = decide (a = b) := by
  rw [Bool.eq_iff_iff, beq_iff_eq, decide_eq_true_iff, bytes_eq]
theorem takeQ_step {p : Nd → Prop} {t : List Nd} {k : Nat} {n : Nd} (hn : t[k]? = some n) (h : ∀ x ∈ t.take k, p x) (hp : p n) : ∀ x ∈ t.take (k + 1), p x := by
  obtain ⟨hk, rfl⟩ := List.getElem?_eq_some_iff.1 hn
  intro x hx
  rw [List.take_succ_eq_append_getElem hk, List.mem_append, List.mem_singleton] at hx
  rcases hx with hx | rfl
  · exact h x hx
  · exact hp
theorem find_at {t : List Nd} {k : Nat} {n : Nd} {p : ByteArray} (hn : t[k]? = some n) (h : ∀ x ∈ t.take k, x.1 ≠ p) (he : n.1 = p) : lookN t p = some n := by
  obtain ⟨hk, e⟩ := List.getElem?_eq_some_iff.1 hn
  have ht : t = t.take k ++ n :: t.drop (k + 1) := by rw [← e, ← List.drop_eq_getElem_cons hk, List.take_append_drop]
  unfold lookN
  rw [ht, List.find?_append, List.find?_eq_none.2 (fun x hx => by simpa using h x hx)]
  simp [he]

/-- What at tells. -/
def AtIs (t : List Nd) (p : ByteArray) (r : Int) : Prop := (r = -1 ∧ lookN t p = none) ∨ ∃ (j : Nat) (x : Nd), r = j ∧ t[j]? = some x ∧ lookN t p = some x

set_option maxRecDepth 100000 in
set_option maxHeartbeats 1000000 in
theorem at_ok (v : Value) (t : List Nd) (p : ByteArray) (w : World) (hn : Nods w v t) (hm : t.length < 1000) :
    Calls Tryd.prog 22 #[v, .string p] w fun e w' => ∃ r, e = .returned (.int .i64 r) ∧ AtIs t p r ∧ w' = w := by
  obtain ⟨ao, c, rfl, hA⟩ := hn.open
  obtain ⟨m, hmt⟩ : ∃ m, m = t.length := ⟨_, rfl⟩
  rw [← hmt] at hm ⊢
  have HA := hide hA
  have HMT := hide hmt
  clear hn hA hmt
  go_enter Tryd.func22, Tryd.ntmps22
  go_wp2
  go_loopw [5] (fun i wr => ∃ k : Nat, k ≤ m ∧ i = .int .i64 k ∧ Hid (∀ x ∈ t.take k, x.1 ≠ p) ∧ wr = w) (fun i _ => m - (intOf i).toNat)
  case atStart => exact ⟨0, Nat.zero_le _, rfl, fun x hx => (by simp at hx), rfl⟩
  case round =>
    obtain ⟨k, hk, rfl, HNO, rfl⟩ := hrel
    by_cases hlt : k < m
    · obtain ⟨n, hn⟩ : ∃ n, t[k]? = some n := ⟨t[k]'(by have := HMT.out; omega), List.getElem?_eq_some_iff.2 ⟨_, rfl⟩⟩
      have hlt' : (k : Int) < (m : Int) := by omega
      obtain ⟨b, o, rfl, hbs, ⟨g1, g2, g3⟩⟩ := HA.out k n hn
      have HN := hide hn
      have hte := text_sameQ (a := n.1) (b := p)
      clear hn
      by_cases he : n.1 = p
      · rw [decide_eq_true he] at hte
        have HE := hide he
        clear he
        go_wp2
        go_ret
        exact ⟨k, rfl, .inr ⟨k, n, rfl, HN.out, find_at HN.out HNO.out HE.out⟩, rfl⟩
      · rw [decide_eq_false he] at hte
        have HNE := hide he
        clear he
        go_wp2
        go_roundw
        case rel => exact ⟨k + 1, by omega, by go_num, takeQ_step HN.out HNO.out HNE.out, trivial⟩
        case measure => simp [intOf]; omega
    · have hlt' : (m : Int) ≤ (k : Int) := by omega
      have HNN : Hid (lookN t p = none) := by
        have h1 := HNO.out
        rw [show k = t.length from by have := HMT.out; omega, List.take_length] at h1
        exact lookN_none.2 h1
      go_wp2
      go_ret
      exact ⟨-1, rfl, .inl ⟨rfl, HNN.out⟩, rfl⟩

set_option maxRecDepth 100000 in
set_option maxHeartbeats 2000000 in
theorem blocked_ok (v : Value) (t : List Nd) (p : ByteArray) (y : Bool) (w : World) (hn : Nods w v t) (hm : t.length < 1000) (hz : ∀ n ∈ t, n.1.size < 999999) (hy : t.any (blk1 p) = y) :
    Calls Tryd.prog 23 #[v, .string p] w fun e w' => e = .returned (.bool y) ∧ w' = w := by
  obtain ⟨ao, c, rfl, hA⟩ := hn.open
  obtain ⟨m, hmt⟩ : ∃ m, m = t.length := ⟨_, rfl⟩
  rw [← hmt] at hm ⊢
  have HA := hide hA
  have HMT := hide hmt
  have HZ := hide hz
  have HY := hide hy
  clear hn hA hmt hz hy
  go_enter Tryd.func23, Tryd.ntmps23
  go_wp2
  go_loopw [5, 6] (fun i _ wr => ∃ k : Nat, k ≤ m ∧ i = .int .i64 k ∧ Hid (∀ x ∈ t.take k, blk1 p x = false) ∧ wr = w) (fun i _ _ => m - (intOf i).toNat)
  case atStart => exact ⟨0, Nat.zero_le _, rfl, fun x hx => (by simp at hx), rfl⟩
  case round =>
    obtain ⟨k, hk, rfl, HNO, rfl⟩ := hrel
    by_cases hlt : k < m
    · obtain ⟨n, hn⟩ : ∃ n, t[k]? = some n := ⟨t[k]'(by have := HMT.out; omega), List.getElem?_eq_some_iff.2 ⟨_, rfl⟩⟩
      have hlt' : (k : Int) < (m : Int) := by omega
      obtain ⟨b, o, rfl, hbs, ⟨g1, g2, g3⟩⟩ := HA.out k n hn
      have HN := hide hn
      have hnz := HZ.out n (List.mem_of_getElem? hn)
      clear hn
      obtain ⟨z1, hz1⟩ : ∃ z1, (n.2.1 != 1) = z1 := ⟨_, rfl⟩
      have HK1 := hide hz1
      cases z1 with
      | false =>
        have HB : Hid (blk1 p n = false) := by unfold blk1; show _ = _; rw [HK1.out]; rfl
        go_wp2
        go_roundw
        case rel => exact ⟨k + 1, by omega, by go_num, takeQ_step HN.out HNO.out HB.out, trivial⟩
        case measure => simp [intOf]; omega
      | true =>
        by_cases hsz : n.1.size < p.size
        · have hsz' : (n.1.size : Int) < (p.size : Int) := by omega
          have HV := hide (pre_val p n.1 hsz)
          obtain ⟨z2, hz2⟩ : ∃ z2, ((p.extract 0 n.1.size).toList == n.1.toList) = z2 := ⟨_, rfl⟩
          obtain ⟨z3, hz3⟩ : ∃ z3, ((p[n.1.size].toNat : Int) == 47) = z3 := ⟨_, rfl⟩
          have HB : Hid (blk1 p n = (z2 && z3)) := by
            show _ = _
            unfold blk1 key
            rw [HK1.out, HV.out, hz2, hz3]
            rfl
          cases z2 with
          | false =>
            go_wp2
            go_roundw
            case rel => exact ⟨k + 1, by omega, by go_num, takeQ_step HN.out HNO.out HB.out, trivial⟩
            case measure => simp [intOf]; omega
          | true =>
            cases z3 with
            | false =>
              go_wp2
              go_roundw
              case rel => exact ⟨k + 1, by omega, by go_num, takeQ_step HN.out HNO.out HB.out, trivial⟩
              case measure => simp [intOf]; omega
            | true =>
              have HYT : Hid (y = true) := by
                show _ = _
                rw [← HY.out, List.any_eq_true]
                exact ⟨n, List.mem_of_getElem? HN.out, HB.out⟩
              go_wp2
              go_ret
              exact ⟨ret_bool HYT.out.symm, rfl⟩
        · have hsz' : (p.size : Int) ≤ (n.1.size : Int) := by omega
          have hszd : decide ((n.1.size : Int) < (p.size : Int)) = false := by simp; omega
          have HB : Hid (blk1 p n = false) := by
            show _ = _
            unfold blk1 key
            rw [pre_short p n.1 (by omega), Bool.and_false]
          go_wp2
          go_roundw
          case rel => exact ⟨k + 1, by omega, by go_num, takeQ_step HN.out HNO.out HB.out, trivial⟩
          case measure => simp [intOf]; omega
    · have hlt' : (m : Int) ≤ (k : Int) := by omega
      have HYF : Hid (y = false) := by
        have h1 := HNO.out
        rw [show k = t.length from by have := HMT.out; omega, List.take_length] at h1
        show _ = _
        rw [← HY.out, List.any_eq_false]
        exact fun x hx => by rw [h1 x hx]; decide
      go_wp2
      go_ret
      exact ⟨ret_bool HYF.out.symm, rfl⟩
end Go.Proofs.YteablfekfijnhaaDoor
