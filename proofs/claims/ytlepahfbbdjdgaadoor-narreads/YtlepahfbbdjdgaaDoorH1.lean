/- The walk of NarSizes. -/
import Derived.Test.YtlepahfbbdjdgaaDoorB11
namespace Go.Proofs.YtlepahfbbdjdgaaDoor
open Go.RowKit

theorem small_short {t : List Nd} {m : Int} (hm : m ≤ 1000) (h : greatN m t = false) : ShortN t := by
  obtain ⟨h1, h2⟩ := greatN_not h
  exact ⟨by omega, fun n hn => by have := h2 n hn; omega⟩
theorem layL_len (t : List Nd) : (layL t).length = 24 + (nodesL t).length := by unfold layL; rw [List.length_append, headL_len]
theorem nodesL_max {B : Nat} : ∀ {t : List Nd}, (∀ n ∈ t, (nodeL n).length ≤ B) → (nodesL t).length ≤ t.length * B
  | [], _ => by simp [nodesL]
  | n :: t, h => by
    have h1 := h n (by simp)
    have := nodesL_max (t := t) (fun m hm => h m (List.mem_cons_of_mem _ hm))
    rw [nodesL_cons, List.length_append, List.length_cons, Nat.add_mul]
    omega
theorem small_len {t : List Nd} {k : Nat} (h : greatN 60 t = false) : (nodesL (t.take k)).length ≤ 49920 := by
  obtain ⟨h1, h2⟩ := greatN_not h
  have h3 := nodesL_max (B := 832) (t := t.take k) (fun n hn => by have := h2 n (List.mem_of_mem_take hn); rw [nodeL_len]; omega)
  have h4 : (t.take k).length ≤ 60 := by rw [List.length_take]; omega
  omega
theorem ret_true {b : Bool} (h : b = true) : Ending.returned (.bool b) = .returned (.bool true) := by rw [h]
theorem tdiv8 (n : Nat) : Int.tdiv ((n : Int) + 7) 8 = (((n + 7) / 8 : Nat) : Int) := by rw [Int.tdiv_eq_ediv_of_nonneg (by omega)]; omega

set_option maxRecDepth 100000 in
set_option maxHeartbeats 2000000 in
theorem sizes_walk (ao : Option Addr) (n c : Nat) (t : List Nd) (w : World) (hsh : w.ShapedOpen Tryd.prog) (ha : ArgN w ao n c t) (hn : n ≤ maxLen) :
    Calls Tryd.prog 7 #[.slice ao n c] w fun e w' => e = .returned (.bool true) ∧ Below w.heap.size w w' := by
  have ok := Ok.start hsh
  have HA := hide ha
  have HND := hide ha.nods
  have HL := hide ha.len
  have hn' : t.length ≤ maxLen := by rw [ha.len]; exact hn
  obtain ⟨y, hy⟩ : ∃ y, greatN 60 t = y := ⟨_, rfl⟩
  have HY := hide hy
  clear ha hy hsh
  go_enter Tryd.func7, Tryd.ntmps7
  go_wp2_with fail
  refine (greatN_ok _ 60 t y w HND.out hn' (by decide) (by decide) HY.out).mono ?_
  rintro e w1 ⟨rfl, rfl⟩
  cases y with
  | true =>
    go_wp2_with fail
    refine (awake5_ok w1 w1 ok).mono ?_
    rintro e w2 ⟨rfl, ok2, hb2⟩
    go_wp2
    go_ret
    exact ⟨rfl, hb2⟩
  | false =>
    have HS := hide (small_short (by decide) HY.out)
    obtain ⟨x, hx⟩ : ∃ x, mayN t = x := ⟨_, rfl⟩
    have HX := hide hx
    clear hx
    cases x with
    | false =>
      go_wp2_with fail
      refine (lay_bad _ t w1 w1 ok HND.out HS.out HX.out).mono ?_
      rintro e w2 ⟨rfl, ok2, hb2⟩
      go_wp2_with fail
      refine (awake5_ok w1 w2 ok2).mono ?_
      rintro e w3 ⟨rfl, ok3, hb3⟩
      have HB3 := hide (below_two hb2 hb3)
      clear hb2 hb3
      go_wp2
      go_ret
      exact ⟨rfl, HB3.out⟩
    | true =>
      obtain ⟨z, hz⟩ : ∃ z, z = layL t := ⟨_, rfl⟩
      obtain ⟨m, hm⟩ : ∃ m, m = z.length := ⟨_, rfl⟩
      have HZ := hide hz.symm
      have HM := hide hm.symm
      have HMN : Hid (m = 24 + (nodesL t).length) := by rw [hm, hz]; exact hide (layL_len t)
      clear hz hm
      have hn60 : n ≤ 60 := by have := (greatN_not HY.out).1; have := HL.out; omega
      have hpos : 0 < n := by rw [← HL.out]; exact List.length_pos_iff.2 (may_ne HX.out)
      rcases id HND.out with ⟨e, _⟩ | ⟨b, o, c', e, hcc, hr⟩
      · exact absurd e (may_ne HX.out)
      obtain ⟨rfl, hnt, rfl⟩ : ao = some ⟨b, o, none⟩ ∧ n = t.length ∧ c = c' := by simpa using e
      have HR := hide hr
      clear e hcc hr hnt
      go_wp2_with fail
      refine (lay_good _ t z m w1 w1 ok HND.out HS.out HX.out HZ.out HM.out).mono ?_
      rintro e w2 ⟨b2, c2, rfl, ho2, ok2, hb2⟩
      have HR2 := hide (HR.out.below hb2 HR.out.1)
      have HB2 := hide hb2
      clear ho2 hb2
      go_wp2
      go_loopw [5, 6] (fun v i wr => ∃ (k q : Nat), k ≤ n ∧ q ≤ 100000 ∧ i = .int .i64 k ∧ v = .int .i64 q ∧ Hid (q = 24 + (nodesL (t.take k)).length) ∧ Below w2.heap.size w2 wr) (fun _ i _ => n - (intOf i).toNat)
      case atStart => exact ⟨0, 24, by omega, by omega, rfl, rfl, by simp [Hid, nodesL], Below.refl _ _⟩
      case round =>
        obtain ⟨k, q, hk, hq, rfl, rfl, HQ, hbl⟩ := hrel
        by_cases hlt : k < n
        · obtain ⟨x, hx⟩ : ∃ x, t[k]? = some x := ⟨t[k]'(by have := HL.out; omega), List.getElem?_eq_some_iff.2 ⟨_, rfl⟩⟩
          obtain ⟨g1, g2, g3⟩ := (HR2.out.2 k x hx).below hbl HR2.out.1
          have hki : (k : Int) < (n : Int) := by omega
          have HST := hide (nodesL_step hx)
          have hxs := (greatN_not HY.out).2 x (List.mem_of_getElem? hx)
          obtain ⟨hx1, hx2⟩ := hxs
          have d1 := tdiv8 x.1.size
          have d2 := tdiv8 x.2.2.size
          have hq1 : 24 + (nodesL (t.take (k + 1))).length = q + 24 + (x.1.size + 7) / 8 * 8 + (x.2.2.size + 7) / 8 * 8 := by rw [HST.out, List.length_append, nodeL_len, HQ.out]; omega
          have hq2 := small_len (k := k + 1) HY.out
          have HQ1 := hide hq1
          have HQ2 := hide hq2
          clear hx hq1 hq2
          go_wp2
          go_quiet (fail)
          go_wp2
          go_roundw
          case rel =>
            refine ⟨k + 1, 24 + (nodesL (t.take (k + 1))).length, by omega, by have := HQ2.out; omega, by go_num, ?_, hide rfl, below_drewN hbl nq⟩
            have h := HQ1.out
            refine congrArg _ ?_
            rw [h]
            omega
          case measure => simp [intOf]; omega
        · obtain rfl : k = n := by omega
          have hqm : q = m := by rw [HQ.out, HMN.out, ← HL.out, List.take_length]
          subst hqm
          have okr := ok2.next hbl
          have HBR := hide (below_two HB2.out hbl)
          go_wp2_with fail
          refine (awake5_ok w1 wr okr).mono ?_
          rintro e w3 ⟨rfl, ok3, hb3⟩
          have HB3 := hide (below_two HBR.out hb3)
          clear hb3
          go_wp2
          go_ret
          exact ⟨rfl, HB3.out⟩
end Go.Proofs.YtlepahfbbdjdgaaDoor
