/- The walks of the document's Unlike, and of the statements' own at and has, chapter 10. -/
import Derived.Test.YticpljjbnfimkaaQM
import Derived.Test.YticpljjbnfimkaaJ14
namespace Go.Proofs.Yticpljjbnfimkaa
open Go.RowKit

theorem nodup_next {is : List It} {k : Nat} {i : It} (hi : is[k]? = some i) (h : ((is.take k).map (·.1)).Nodup) (ha : ∀ (j : Nat) y, j < k → is[j]? = some y → y.1 ≠ i.1) : ((is.take (k + 1)).map (·.1)).Nodup := by
  obtain ⟨hk, rfl⟩ := List.getElem?_eq_some_iff.1 hi
  rw [List.take_succ_eq_append_getElem hk, List.map_append]
  refine List.nodup_append.2 ⟨h, by simp, fun a hma b hb e => ?_⟩
  simp at hb
  subst hb
  obtain ⟨y, hy, rfl⟩ := List.mem_map.1 hma
  obtain ⟨j, hj⟩ := List.getElem?_of_mem hy
  rw [List.getElem?_take] at hj
  split at hj
  · rename_i hjk
    exact ha j y hjk hj e
  · cases hj
theorem not_nodup {is : List It} {k j : Nat} {i y : It} (hi : is[k]? = some i) (hj : is[j]? = some y) (hjk : j < k) (e : y.1 = i.1) : ¬ (is.map (·.1)).Nodup := fun h => by
  have h1 : (is.map (·.1))[k]? = some i.1 := by rw [List.getElem?_map, hi]; rfl
  have h2 : (is.map (·.1))[j]? = some i.1 := by rw [List.getElem?_map, hj, ← e]; rfl
  have := (List.getElem?_inj (List.getElem?_eq_some_iff.1 h2).1 h).1 (h2.trans h1.symm)
  omega
set_option maxRecDepth 100000 in
set_option maxHeartbeats 2000000 in
theorem unlike_any (ao : Option Addr) (n c : Nat) (is : List It) (w : World) (hn : n = is.length) (h9 : n < 900000) (hI : ∀ (j : Nat) i, is[j]? = some i → ∃ b o, ao = some ⟨b, o, none⟩ ∧ w.cell? ⟨b, o + j * 3, none⟩ = some (.string i.1)) :
    Calls Try.prog 15 #[.slice ao n c] w fun e w' => ∃ r, e = .returned (.bool r) ∧ (r = true ↔ (is.map (·.1)).Nodup) ∧ Below w.heap.size w w' := by
  have HI := hide hI
  have HN := hide hn
  clear hI hn
  go_enter Try.func15, Try.ntmps15
  go_wp2
  go_loopw [3] (fun iv wr => ∃ k : Nat, k ≤ n ∧ iv = .int .i64 k ∧ Hid (((is.take k).map (·.1)).Nodup) ∧ Hid (Below w.heap.size w wr)) (fun iv _ => n - (intOf iv).toNat)
  case atStart => exact ⟨0, Nat.zero_le _, rfl, hide (by simp), Below.refl _ _⟩
  case round =>
    obtain ⟨k, hk, rfl, hnd, hbl⟩ := hrel
    by_cases hlt : k < n
    · obtain ⟨i, hi⟩ : ∃ i, is[k]? = some i := ⟨is[k]'(by have := HN.out; omega), List.getElem?_eq_some_iff.2 ⟨_, rfl⟩⟩
      obtain ⟨b, o, rfl, hc0⟩ := HI.out k i hi
      have HII := hide hi
      have HC0 := hide hc0
      have hki : (k : Int) < (n : Int) := by omega
      clear hi hc0
      go_wp2
      go_loopw [4] (fun jv wr => ∃ j : Nat, j ≤ k ∧ jv = .int .i64 j ∧ Hid (∀ (a : Nat) y, a < j → is[a]? = some y → y.1 ≠ i.1) ∧ Hid (Below w.heap.size w wr)) (fun jv _ => k - (intOf jv).toNat)
      case atStart => exact ⟨0, Nat.zero_le _, rfl, hide (fun a y h => absurd h (by omega)), hbl⟩
      case round =>
        rename World => wx
        clear hbl
        obtain ⟨j, hj, rfl, hne, hbl⟩ := hrel
        by_cases hlj : j < k
        · obtain ⟨y, hy⟩ : ∃ y, is[j]? = some y := ⟨is[j]'(by have := HN.out; omega), List.getElem?_eq_some_iff.2 ⟨_, rfl⟩⟩
          obtain ⟨b', o', e, hc1⟩ := HI.out j y hy
          cases e
          have q0 : wx.cell? ⟨b, o + k * 3, none⟩ = some (.string i.1) := (hbl.out.cell (addr_plain HC0.out).2).trans HC0.out
          have q1 : wx.cell? ⟨b, o + j * 3, none⟩ = some (.string y.1) := (hbl.out.cell (addr_plain hc1).2).trans hc1
          have hji : (j : Int) < (k : Int) := by omega
          have hjn : (j : Int) < (n : Int) := by omega
          have HY := hide hy
          clear hy hc1
          by_cases he : y.1 = i.1
          · have hq : (y.1.toList == i.1.toList) = true := by rw [he]; exact beq_self_eq_true _
            have HE := hide (not_nodup HII.out HY.out hlj he)
            clear he
            go_wp2
            go_quiet (fail)
            go_wp2
            go_ret
            exact ⟨_, rfl, ⟨fun h => (by cases h), fun h => absurd h HE.out⟩, below_drewN hbl.out _⟩
          · have hq : (y.1.toList == i.1.toList) = false := by
              rw [beq_eq_false_iff_ne]; exact fun e => he (bytes_eq.2 e)
            have HE := hide he
            clear he
            go_wp2
            go_quiet (fail)
            go_wp2
            go_roundw
            case rel =>
              refine ⟨j + 1, by omega, by go_num, hide (fun a u ha hu => ?_), hide (below_drewN hbl.out _)⟩
              by_cases e : a = j
              · rw [e, HY.out] at hu
                cases hu
                exact HE.out
              · exact hne.out a u (by omega) hu
            case measure => simp [intOf]; omega
        · have hji : (k : Int) ≤ (j : Int) := by omega
          have HJ : Hid (∀ (a : Nat) y, a < k → is[a]? = some y → y.1 ≠ i.1) := hide fun a y ha hy => hne.out a y (by omega) hy
          go_wp2
          go_roundw
          case rel => exact ⟨k + 1, by omega, by go_num, hide (nodup_next HII.out hnd.out HJ.out), hbl⟩
          case measure => simp [intOf]; omega
    · have hki : (n : Int) ≤ (k : Int) := by omega
      have HE : Hid ((is.map (·.1)).Nodup) := by
        have h1 := hnd.out
        rw [List.take_of_length_le (by have := HN.out; omega)] at h1
        exact h1
      go_wp2
      go_ret
      exact ⟨_, rfl, ⟨fun _ => HE.out, fun _ => rfl⟩, hbl.out⟩
theorem its_names {w : World} {v : Value} {is : List It} (h : Its w v is) : ∃ ao c, v = .slice ao is.length c ∧ ∀ (j : Nat) i, is[j]? = some i → ∃ b o, ao = some ⟨b, o, none⟩ ∧ ItAt w b (o + j * 3) i := by
  rcases h with ⟨rfl, a, c, rfl⟩ | ⟨b, o, c, rfl, _, hr⟩
  · exact ⟨a, c, rfl, fun j i hi => by simp at hi⟩
  · exact ⟨_, c, rfl, fun j i hi => ⟨b, o, rfl, hr.2 j i hi⟩⟩
theorem unlike_ok (v : Value) (is : List It) (r : Bool) (w : World) (h : Its w v is) (h9 : is.length < 900000) (hr : r = true ↔ (is.map (·.1)).Nodup) :
    Calls Try.prog 15 #[v] w fun e w' => e = .returned (.bool r) ∧ Below w.heap.size w w' := by
  obtain ⟨ao, c, rfl, hI⟩ := its_names h
  refine (unlike_any ao is.length c is w rfl h9 (fun j i hi => ?_)).mono ?_
  · obtain ⟨b, o, e, _, _, _, _, _, _, q, _⟩ := hI j i hi
    exact ⟨b, o, e, q⟩
  · rintro e w' ⟨r', rfl, h1, hb⟩
    have : r' = r := by rw [Bool.eq_iff_iff, h1, hr]
    rw [this]
    exact ⟨rfl, hb⟩

/-- At which place a text stands first; -1. -/
def AtIs (xs : List ByteArray) (x : ByteArray) (r : Int) : Prop := (r = -1 ∧ ¬ x ∈ xs) ∨ ∃ k : Nat, r = k ∧ xs[k]? = some x ∧ ∀ j, j < k → xs[j]? ≠ some x
set_option maxRecDepth 100000 in
set_option maxHeartbeats 1000000 in
theorem at_any (ao : Option Addr) (n c : Nat) (xs : List ByteArray) (x : ByteArray) (w : World) (hn : n = xs.length) (h9 : n < 900000) (hX : ∀ (j : Nat) y, xs[j]? = some y → ∃ b o, ao = some ⟨b, o, none⟩ ∧ w.cell? ⟨b, o + j, none⟩ = some (.string y)) :
    Calls Try.prog 16 #[.slice ao n c, .string x] w fun e w' => ∃ r, e = .returned (.int .i64 r) ∧ AtIs xs x r ∧ w' = w := by
  have HX := hide hX
  have HN := hide hn
  clear hX hn
  go_enter Try.func16, Try.ntmps16
  go_wp2
  go_loop [5] (fun i => ∃ k : Nat, k ≤ n ∧ i = .int .i64 k ∧ Hid (∀ j, j < k → xs[j]? ≠ some x)) (fun i => n - (intOf i).toNat)
  case atStart => exact ⟨0, Nat.zero_le _, rfl, hide (fun j h => absurd h (by omega))⟩
  case round =>
    obtain ⟨k, hk, rfl, ha⟩ := hrel
    by_cases hlt : k < n
    · obtain ⟨y, hy⟩ : ∃ y, xs[k]? = some y := ⟨xs[k]'(by have := HN.out; omega), List.getElem?_eq_some_iff.2 ⟨_, rfl⟩⟩
      obtain ⟨b, o, rfl, hcell⟩ := HX.out k y hy
      have HY := hide hy
      have hki : (k : Int) < (n : Int) := by omega
      clear hy
      by_cases hyx : y = x
      · have hq : (y.toList == x.toList) = true := by rw [hyx]; exact beq_self_eq_true _
        have HE := hide hyx
        clear hyx
        go_wp2
        go_ret
        exact ⟨_, rfl, .inr ⟨k, rfl, by rw [← HE.out]; exact HY.out, ha.out⟩, rfl⟩
      · have hq : (y.toList == x.toList) = false := by
          rw [beq_eq_false_iff_ne]; exact fun e => hyx (bytes_eq.2 e)
        have HE := hide hyx
        clear hyx
        go_wp2
        go_round
        case rel =>
          refine ⟨k + 1, by omega, by go_num, hide (fun j hj e => ?_)⟩
          by_cases e2 : j = k
          · rw [e2, HY.out] at e
            exact HE.out (Option.some.inj e)
          · exact ha.out j (by omega) e
        case measure => simp [intOf]; omega
    · have hki : (n : Int) ≤ (k : Int) := by omega
      have HE : Hid (¬ x ∈ xs) := hide fun hm => by
        obtain ⟨j, hj⟩ := List.getElem?_of_mem hm
        exact ha.out j (by have := (List.getElem?_eq_some_iff.1 hj).1; have := HN.out; omega) hj
      go_wp2
      go_ret
      exact ⟨_, rfl, .inl ⟨rfl, HE.out⟩, rfl⟩
theorem at_ok (v : Value) (xs : List ByteArray) (x : ByteArray) (w : World) (h : Txt w v xs) (h9 : xs.length < 900000) :
    Calls Try.prog 16 #[v, .string x] w fun e w' => ∃ r, e = .returned (.int .i64 r) ∧ AtIs xs x r ∧ w' = w := by
  obtain ⟨a, c, e⟩ := h.form
  subst e
  refine at_any a xs.length c xs x w rfl h9 fun j y hj => ?_
  rcases h with ⟨rfl, _⟩ | ⟨b, o, c', e, _, _, hc⟩
  · simp at hj
  · simp only [Value.slice.injEq] at e
    exact ⟨b, o, e.1, hc j y hj⟩
set_option maxRecDepth 100000 in
set_option maxHeartbeats 1000000 in
theorem lhas_ok (v : Value) (xs : List ByteArray) (x : ByteArray) (r : Bool) (w : World) (h : Txt w v xs) (h9 : xs.length < 900000) (hr : hasB xs x = r) :
    Calls Try.prog 18 #[v, .string x] w fun e w' => e = .returned (.bool r) ∧ w' = w := by
  have HA := hide (at_ok v xs x w h h9)
  have HR := hide hr
  clear h hr
  go_enter Try.func18, Try.ntmps18
  go_wp2_with fail
  refine HA.out.mono ?_
  rintro e w1 ⟨q, rfl, hq, rfl⟩
  have HQ := hide hq
  clear hq
  rcases HQ.out with ⟨e, hn⟩ | ⟨k, e, hk, _⟩
  · subst e
    have HE : Hid (r = false) := hide (by rw [← HR.out]; exact Bool.eq_false_iff.2 fun h => hn (has_iff.1 h))
    clear hn HQ
    go_wp2_with fail
    go_ret
    exact ⟨ret_bool HE.out.symm, rfl⟩
  · subst e
    have HE : Hid (r = true) := hide (by rw [← HR.out]; exact has_iff.2 (List.mem_of_getElem? hk))
    have hk0 : (0 : Int) ≤ (k : Int) := by omega
    clear hk HQ
    go_wp2_with fail
    go_ret
    exact ⟨ret_bool HE.out.symm, rfl⟩
end Go.Proofs.Yticpljjbnfimkaa
