/- Texts that stand together, joined: QD, QE. -/
import Derived.Test.YticpljjbnfimkaaJ16
/- The walks of container/heap's up, down, Push and Pop, over the heap of package order. -/
namespace Go.Proofs.Yticpljjbnfimkaa
open Go.RowKit
variable {H : Nat}

theorem Rdy.below {w w' : World} {g : Nat} {ns : List ByteArray} {L : List Nat} {a : Option Addr} {c : Nat} (h : Rdy H w g ns L a c) (hb : Below w.heap.size w w') : Rdy H w' g ns L a c := by
  obtain ⟨na, nc, hbx, hnm⟩ := h.ex
  exact ⟨⟨na, nc, hbx.same (hb.block g h.lt), fun j x hx => by
    obtain ⟨nb, no, e1, e2, e3⟩ := hnm j x hx
    exact ⟨nb, no, e1, e2, (hb.cell (p := ⟨nb, no + j, none⟩) (Nat.lt_trans (Nat.lt_of_lt_of_le e2 h.hH) h.lt)).trans e3⟩⟩, h.own.below hb, h.low, h.hH⟩
theorem keep_swp {L M : List Nat} {n k j x y : Nat} (hx : M[k]? = some x) (hy : M[j]? = some y) (h : ∀ i, n ≤ i → M[i]? = L[i]?) (hkj : k < j) (hj : j < n) : Hid (∀ i, n ≤ i → (Hog.swp M k j x y)[i]? = L[i]?) := hide fun i hi => by
  rw [Hog.swp_get hx hy, if_neg (by omega), if_neg (by omega)]
  exact h i hi
set_option maxRecDepth 100000 in
set_option maxHeartbeats 4000000 in
theorem up_ok (w : World) (g : Nat) (ns : List ByteArray) (L : List Nat) (a : Option Addr) (c j n : Nat) (o : Hog.Ordy (ltQ ns)) (h : Rdy H w g ns L a c) (hn : L.length = n) (hl : n < 900000) (hj : j < n) (hu : Hog.UpH (ltQ ns) L n j) :
    Calls Try.prog 32 #[.iface 57 (.pointer (some ⟨g, 0, none⟩)), .int .i64 j] w fun e w' => e = .returned (.tuple #[]) ∧ ∃ L', Rdy H w' g ns L' a c ∧ L'.Perm L ∧ Hog.Heapy (ltQ ns) L' n ∧ Ke g (Value.slice a n c).ownBlock w w' := by
  have HR := hide h
  have HN := hide hn
  have HU := hide hu
  have HO := hide o
  clear h hn hu o
  go_enter Try.func32, Try.ntmps32
  go_wp2
  go_loopw [1] (fun i wr => ∃ (k : Nat) (M : List Nat), k < n ∧ i = .int .i64 k ∧ Hid (Rdy H wr g ns M a c) ∧ Hid (M.Perm L) ∧ Hid (Hog.UpH (ltQ ns) M n k) ∧ Hid (Ke g (Value.slice a n c).ownBlock w wr)) (fun i _ => (intOf i).toNat)
  case atStart => exact ⟨j, L, hj, rfl, HR, List.Perm.refl _, HU, Ke.refl _ _ _⟩
  case round =>
    obtain ⟨k, M, hk, rfl, hm, hp, hup, hke⟩ := hrel
    have HML : Hid (M.length = n) := hide (hp.out.length_eq.trans HN.out)
    by_cases hk0 : k = 0
    · subst hk0
      go_wp2_with fail
      go_end0
      exact ⟨rfl, M, hm.out, hp.out, hup.out.top, hke.out⟩
    · obtain ⟨p, hpe⟩ : ∃ p, p = Hog.par k := ⟨_, rfl⟩
      have hq : ((k : Int) - 1) / 2 = (p : Int) := by rw [hpe]; unfold Hog.par; omega
      have hpk : ((p : Int) == (k : Int)) = false := by rw [beq_eq_false_iff_ne]; have := Hog.par_lt (i := k) (by omega); omega
      obtain ⟨x, hx⟩ : ∃ x, M[k]? = some x := ⟨M[k]'(by have := HML.out; omega), List.getElem?_eq_some_iff.2 ⟨_, rfl⟩⟩
      obtain ⟨y, hy⟩ : ∃ y, M[p]? = some y := ⟨M[p]'(by have := HML.out; have := Hog.par_lt (i := k) (by omega); omega), List.getElem?_eq_some_iff.2 ⟨_, rfl⟩⟩
      obtain ⟨r, hr⟩ : ∃ r, Op.bytesLess (nmN ns x).toList (nmN ns y).toList = r := ⟨_, rfl⟩
      have HPE := hide hpe
      have HX := hide hx
      have HY := hide hy
      have HLR := hide hr
      have hk1 : 0 < k := by omega
      have HPK : Hid (p < k) := hide (by rw [hpe]; exact Hog.par_lt hk1)
      clear hpe hx hy hr
      go_wp2_with fail
      refine (lessQ_ok wr g ns M a c k p x y r hm.out HX.out HY.out HLR.out).mono ?_
      rintro e w1 ⟨rfl, hb1⟩
      have HM1 := hide (hm.out.below hb1)
      have HK1 : Hid (Ke g (Value.slice a n c).ownBlock w w1) := hke.out.trans (.inl rfl) (Ke.ofBelow hb1)
      clear hb1
      cases r with
      | false =>
        go_wp2_with fail
        go_end0
        exact ⟨rfl, M, HM1.out, hp.out, hup.out.stop (by rw [← HPE.out]; exact HY.out) HX.out (by unfold ltQ; rw [HLR.out]; simp), HK1.out⟩
      | true =>
        go_wp2_with fail
        refine (swapQ_ok w1 g ns M a c p k y x HM1.out HY.out HX.out).mono ?_
        rintro e w2 ⟨rfl, hm2, hk2⟩
        have HM2 := hide hm2
        have HK2 := hide hk2
        rw [HML.out] at HK2
        clear hm2 hk2
        go_wp2_with fail
        go_roundw
        case rel => exact ⟨p, Hog.swp M p k y x, by have := HPK.out; omega, rfl, HM2, (Hog.swp_perm HY.out HX.out).trans hp.out, by rw [HPE.out]; exact hide (hup.out.step HO.out hk1 hk (by rw [← HPE.out]; exact HY.out) HX.out HLR.out), HK1.out.trans (.inl rfl) HK2.out⟩
        case measure => have := HPK.out; simp [intOf]; omega
set_option maxRecDepth 100000 in
set_option maxHeartbeats 8000000 in
theorem down_ok (w : World) (g : Nat) (ns : List ByteArray) (L : List Nat) (a : Option Addr) (c n m : Nat) (o : Hog.Ordy (ltQ ns)) (h : Rdy H w g ns L a c) (hm : L.length = m) (hl : m < 900000) (hn : n ≤ m) (hu : Hog.DownH (ltQ ns) L n 0) :
    Calls Try.prog 33 #[.iface 57 (.pointer (some ⟨g, 0, none⟩)), .int .i64 0, .int .i64 n] w fun e w' => (∃ r, e = .returned (.bool r)) ∧ ∃ L', Rdy H w' g ns L' a c ∧ L'.Perm L ∧ (∀ (j : Nat), n ≤ j → L'[j]? = L[j]?) ∧ Hog.Heapy (ltQ ns) L' n ∧ Ke g (Value.slice a m c).ownBlock w w' := by
  have HR := hide h
  have HN := hide hm
  have HU := hide hu
  have HO := hide o
  clear h hm hu o
  go_enter Try.func33, Try.ntmps33
  go_wp2
  go_loopw [7] (fun i wr => ∃ (k : Nat) (M : List Nat), i = .int .i64 k ∧ (k < n ∨ k = 0) ∧ Hid (Rdy H wr g ns M a c) ∧ Hid (M.Perm L) ∧ Hid (∀ (j : Nat), n ≤ j → M[j]? = L[j]?) ∧ Hid (Hog.DownH (ltQ ns) M n k) ∧ Hid (Ke g (Value.slice a m c).ownBlock w wr)) (fun i _ => n - (intOf i).toNat)
  case atStart => exact ⟨0, L, rfl, .inr rfl, HR, List.Perm.refl _, fun _ _ => rfl, HU, Ke.refl _ _ _⟩
  case round =>
    obtain ⟨k, M, rfl, hk, hmr, hp, hkeep, hdn, hke⟩ := hrel
    have HML : Hid (M.length = m) := hide (hp.out.length_eq.trans HN.out)
    by_cases hlow : n ≤ 2 * k + 1
    · have hd1 : (n : Int) ≤ 2 * (k : Int) + 1 := by omega
      go_wp2_with fail
      go_ret
      exact ⟨⟨_, rfl⟩, M, hmr.out, hp.out, hkeep.out, hdn.out.low hlow, hke.out⟩
    · obtain ⟨q, hqe⟩ : ∃ q, q = 2 * k + 1 := ⟨_, rfl⟩
      have hq : 2 * (k : Int) + 1 = (q : Int) := by omega
      have hqn : (q : Int) < (n : Int) := by omega
      have hkn : k < n := by omega
      obtain ⟨x, hx⟩ : ∃ x, M[k]? = some x := ⟨M[k]'(by have := HML.out; omega), List.getElem?_eq_some_iff.2 ⟨_, rfl⟩⟩
      obtain ⟨yq, hyq⟩ : ∃ y, M[q]? = some y := ⟨M[q]'(by have := HML.out; omega), List.getElem?_eq_some_iff.2 ⟨_, rfl⟩⟩
      have HX := hide hx
      have HYQ := hide hyq
      have HQE := hide hqe
      have Hq : Hid (0 < q ∧ Hog.par q = k ∧ q < n ∧ k < q) := hide ⟨by omega, by unfold Hog.par; omega, by omega, by omega⟩
      by_cases hs : n ≤ q + 1
      · have hs1 : (n : Int) ≤ (q : Int) + 1 := by omega
        have HS := hide hs
        clear hx hyq hqe hs hlow
        go_wp2_with fail
        obtain ⟨r, hr⟩ : ∃ r, Op.bytesLess (nmN ns yq).toList (nmN ns x).toList = r := ⟨_, rfl⟩
        have HLR := hide hr
        clear hr
        refine (lessQ_ok wr g ns M a c q k yq x r hmr.out HYQ.out HX.out HLR.out).mono ?_
        rintro e w5 ⟨rfl, hb5⟩
        have HM5 := hide (hmr.out.below hb5)
        have HK5 : Hid (Ke g (Value.slice a m c).ownBlock w w5) := hke.out.trans (.inl rfl) (Ke.ofBelow hb5)
        clear hb5
        have HMIN : Hid (∀ i, 0 < i → i < n → Hog.par i = k → Hog.Ov (ltQ ns) M i q) := hide (by have h1 := HQE.out; have h2 := HS.out; rw [h1]; exact Hog.below_first HO.out (fun h3 => absurd h3 (by omega)))
        cases r with
        | false =>
          go_wp2_with fail
          go_ret
          exact ⟨⟨_, rfl⟩, M, HM5.out, hp.out, hkeep.out, hdn.out.stop HO.out HX.out HYQ.out (by unfold ltQ; rw [HLR.out]; simp) HMIN.out, HK5.out⟩
        | true =>
          go_wp2_with fail
          refine (swapQ_ok w5 g ns M a c k q x yq HM5.out HX.out HYQ.out).mono ?_
          rintro e w6 ⟨rfl, hm6, hk6⟩
          have HM6 := hide hm6
          have HK6 := hide hk6
          rw [HML.out] at HK6
          clear hm6 hk6
          go_wp2_with fail
          go_roundw
          case rel => exact ⟨q, Hog.swp M k q x yq, rfl, .inl Hq.out.2.2.1, HM6, (Hog.swp_perm HX.out HYQ.out).trans hp.out, keep_swp HX.out HYQ.out hkeep.out Hq.out.2.2.2 Hq.out.2.2.1, hide (hdn.out.step HO.out Hq.out.1 Hq.out.2.2.1 Hq.out.2.1 HX.out HYQ.out HLR.out HMIN.out), HK5.out.trans (.inl rfl) HK6.out⟩
          case measure => have := Hq.out; simp [intOf]; omega
      · obtain ⟨q2, hq2e⟩ : ∃ q2, q2 = q + 1 := ⟨_, rfl⟩
        have hq2 : (q : Int) + 1 = (q2 : Int) := by omega
        have hq2n : (q2 : Int) < (n : Int) := by omega
        obtain ⟨yq2, hyq2⟩ : ∃ y, M[q2]? = some y := ⟨M[q2]'(by have := HML.out; omega), List.getElem?_eq_some_iff.2 ⟨_, rfl⟩⟩
        obtain ⟨s, hs2⟩ : ∃ s, Op.bytesLess (nmN ns yq2).toList (nmN ns yq).toList = s := ⟨_, rfl⟩
        have HYQ2 := hide hyq2
        have HQ2E : Hid (q2 = 2 * k + 2) := hide (by omega)
        have Hq2 : Hid (0 < q2 ∧ Hog.par q2 = k ∧ q2 < n ∧ k < q2) := hide ⟨by omega, by unfold Hog.par; omega, by omega, by omega⟩
        have HS2 := hide hs2
        clear hx hyq hqe hs hlow hq2e hyq2 hs2
        go_wp2_with fail
        refine (lessQ_ok wr g ns M a c q2 q yq2 yq s hmr.out HYQ2.out HYQ.out HS2.out).mono ?_
        rintro e w1 ⟨rfl, hb1⟩
        have HM1 := hide (hmr.out.below hb1)
        have HK1 : Hid (Ke g (Value.slice a m c).ownBlock w w1) := hke.out.trans (.inl rfl) (Ke.ofBelow hb1)
        clear hb1
        cases s with
        | false =>
          go_wp2_with fail
          obtain ⟨r, hr⟩ : ∃ r, Op.bytesLess (nmN ns yq).toList (nmN ns x).toList = r := ⟨_, rfl⟩
          have HLR := hide hr
          clear hr
          refine (lessQ_ok w1 g ns M a c q k yq x r HM1.out HYQ.out HX.out HLR.out).mono ?_
          rintro e w5 ⟨rfl, hb5⟩
          have HM5 := hide (HM1.out.below hb5)
          have HK5 : Hid (Ke g (Value.slice a m c).ownBlock w w5) := HK1.out.trans (.inl rfl) (Ke.ofBelow hb5)
          clear hb5
          have HMIN : Hid (∀ i, 0 < i → i < n → Hog.par i = k → Hog.Ov (ltQ ns) M i q) := hide (by have h1 := HQE.out; have h2 := HQ2E.out; have h3 := HYQ.out; have h4 := HYQ2.out; rw [h1] at h3 ⊢; rw [h2] at h4; refine Hog.below_first HO.out (fun _ u v hu hv => ?_); rw [h4] at hu; rw [h3] at hv; cases hu; cases hv; unfold ltQ; rw [HS2.out]; simp)
          cases r with
          | false =>
            go_wp2_with fail
            go_ret
            exact ⟨⟨_, rfl⟩, M, HM5.out, hp.out, hkeep.out, hdn.out.stop HO.out HX.out HYQ.out (by unfold ltQ; rw [HLR.out]; simp) HMIN.out, HK5.out⟩
          | true =>
            go_wp2_with fail
            refine (swapQ_ok w5 g ns M a c k q x yq HM5.out HX.out HYQ.out).mono ?_
            rintro e w6 ⟨rfl, hm6, hk6⟩
            have HM6 := hide hm6
            have HK6 := hide hk6
            rw [HML.out] at HK6
            clear hm6 hk6
            go_wp2_with fail
            go_roundw
            case rel => exact ⟨q, Hog.swp M k q x yq, rfl, .inl Hq.out.2.2.1, HM6, (Hog.swp_perm HX.out HYQ.out).trans hp.out, keep_swp HX.out HYQ.out hkeep.out Hq.out.2.2.2 Hq.out.2.2.1, hide (hdn.out.step HO.out Hq.out.1 Hq.out.2.2.1 Hq.out.2.1 HX.out HYQ.out HLR.out HMIN.out), HK5.out.trans (.inl rfl) HK6.out⟩
            case measure => have := Hq.out; simp [intOf]; omega
        | true =>
          go_wp2_with fail
          obtain ⟨r, hr⟩ : ∃ r, Op.bytesLess (nmN ns yq2).toList (nmN ns x).toList = r := ⟨_, rfl⟩
          have HLR := hide hr
          clear hr
          refine (lessQ_ok w1 g ns M a c q2 k yq2 x r HM1.out HYQ2.out HX.out HLR.out).mono ?_
          rintro e w5 ⟨rfl, hb5⟩
          have HM5 := hide (HM1.out.below hb5)
          have HK5 : Hid (Ke g (Value.slice a m c).ownBlock w w5) := HK1.out.trans (.inl rfl) (Ke.ofBelow hb5)
          clear hb5
          have HMIN : Hid (∀ i, 0 < i → i < n → Hog.par i = k → Hog.Ov (ltQ ns) M i q2) := hide (by have h1 := HQE.out; have h2 := HQ2E.out; have h3 := HYQ.out; have h4 := HYQ2.out; rw [h1] at h3; rw [h2] at h4 ⊢; exact Hog.below_second HO.out h4 h3 HS2.out)
          cases r with
          | false =>
            go_wp2_with fail
            go_ret
            exact ⟨⟨_, rfl⟩, M, HM5.out, hp.out, hkeep.out, hdn.out.stop HO.out HX.out HYQ2.out (by unfold ltQ; rw [HLR.out]; simp) HMIN.out, HK5.out⟩
          | true =>
            go_wp2_with fail
            refine (swapQ_ok w5 g ns M a c k q2 x yq2 HM5.out HX.out HYQ2.out).mono ?_
            rintro e w6 ⟨rfl, hm6, hk6⟩
            have HM6 := hide hm6
            have HK6 := hide hk6
            rw [HML.out] at HK6
            clear hm6 hk6
            go_wp2_with fail
            go_roundw
            case rel => exact ⟨q2, Hog.swp M k q2 x yq2, rfl, .inl Hq2.out.2.2.1, HM6, (Hog.swp_perm HX.out HYQ2.out).trans hp.out, keep_swp HX.out HYQ2.out hkeep.out Hq2.out.2.2.2 Hq2.out.2.2.1, hide (hdn.out.step HO.out Hq2.out.1 Hq2.out.2.2.1 Hq2.out.2.1 HX.out HYQ2.out HLR.out HMIN.out), HK5.out.trans (.inl rfl) HK6.out⟩
            case measure => have := Hq2.out; simp [intOf]; omega
end Go.Proofs.Yticpljjbnfimkaa
/- The walks of container/heap's Push and Pop, over the heap of package order. -/
namespace Go.Proofs.Yticpljjbnfimkaa
open Go.RowKit
variable {H : Nat}

theorem own_len (a : Option Addr) (n m c d : Nat) : (Value.slice a n c).ownBlock = (Value.slice a m d).ownBlock := by cases a <;> rfl
/-- The heap, in order. -/
structure RdyH (H : Nat) (w : World) (g : Nat) (ns : List ByteArray) (L : List Nat) (a : Option Addr) (c : Nat) : Prop where
  rdy : Rdy H w g ns L a c
  heap : Hog.Heapy (ltQ ns) L L.length
theorem RdyH.below {w w' : World} {g : Nat} {ns : List ByteArray} {L : List Nat} {a : Option Addr} {c : Nat} (h : RdyH H w g ns L a c) (hb : Below w.heap.size w w') : RdyH H w' g ns L a c := ⟨h.rdy.below hb, h.heap⟩
set_option maxRecDepth 100000 in
set_option maxHeartbeats 4000000 in
theorem hpush_ok (w : World) (g : Nat) (ns : List ByteArray) (L : List Nat) (a : Option Addr) (c z : Nat) (o : Hog.Ordy (ltQ ns)) (h : RdyH H w g ns L a c) (hz : z < ns.length) (hl : L.length < 800000) :
    Calls Try.prog 28 #[.iface 57 (.pointer (some ⟨g, 0, none⟩)), .iface 3 (.int .i64 z)] w fun e w' => e = .returned (.tuple #[]) ∧
      ∃ L' b2 c2, RdyH H w' g ns L' b2 c2 ∧ L'.Perm (z :: L) ∧ Ke g (Value.slice a L.length c).ownBlock w w' ∧ Stays w (.slice a L.length c) (.slice b2 L'.length c2) := by
  have HR := hide h
  have HO := hide o
  have HZ := hide hz
  clear h o hz
  go_enter Try.func28, Try.ntmps28
  go_wp2_with fail
  refine (pushQ_ok w g ns L a c z HR.out.rdy HZ.out (by omega)).mono ?_
  rintro e w1 ⟨rfl, b2, c2, hr1, hk1, hs1⟩
  have HR1 := hide hr1
  have HK1 := hide hk1
  have HS1 := hide hs1
  clear hr1 hk1 hs1
  go_wp2_with fail
  refine (lenQ_ok w1 g ns (L ++ [z]) b2 c2 (L.length + 1) HR1.out (by simp)).mono ?_
  rintro e w2 ⟨rfl, rfl⟩
  go_wp2_with fail
  refine (up_ok w2 g ns (L ++ [z]) b2 c2 L.length (L.length + 1) HO.out HR1.out (by simp) (by omega) (by omega) (HR.out.heap.push z)).mono ?_
  rintro e w3 ⟨rfl, L', hr3, hp3, hh3, hk3⟩
  have hl3 := hp3.length_eq
  rw [List.length_append, List.length_singleton] at hl3
  have HF : Hid (RdyH H w3 g ns L' b2 c2 ∧ L'.Perm (z :: L) ∧ Ke g (Value.slice a L.length c).ownBlock w w3 ∧ Stays w (.slice a L.length c) (.slice b2 L'.length c2)) := by
    refine hide ⟨⟨hr3, by rw [hl3]; exact hh3⟩, hp3.trans (List.perm_append_singleton z L), HK1.out.trans HS1.out hk3, ?_⟩
    rw [hl3]; exact HS1.out
  clear hr3 hp3 hh3 hk3 hl3
  go_wp2_with fail
  go_end0
  exact ⟨rfl, L', b2, c2, HF.out.1, HF.out.2.1, HF.out.2.2.1, HF.out.2.2.2⟩
set_option maxRecDepth 100000 in
set_option maxHeartbeats 4000000 in
theorem hpop_ok (w : World) (g : Nat) (ns : List ByteArray) (L : List Nat) (a : Option Addr) (c n : Nat) (o : Hog.Ordy (ltQ ns)) (h : RdyH H w g ns L a c) (hn : L.length = n + 1) (hl : L.length < 800000) :
    Calls Try.prog 30 #[.iface 57 (.pointer (some ⟨g, 0, none⟩))] w fun e w' => ∃ (z : Nat) (M : List Nat), e = .returned (.iface 3 (.int .i64 z)) ∧
      RdyH H w' g ns M a c ∧ L.Perm (z :: M) ∧ (∀ y ∈ L, ¬ ltQ ns y z) ∧ Ke g (Value.slice a L.length c).ownBlock w w' := by
  obtain ⟨x, hx⟩ : ∃ x, L[0]? = some x := ⟨L[0]'(by omega), List.getElem?_eq_some_iff.2 ⟨_, rfl⟩⟩
  obtain ⟨y, hy⟩ : ∃ y, L[n]? = some y := ⟨L[n]'(by omega), List.getElem?_eq_some_iff.2 ⟨_, rfl⟩⟩
  have HR := hide h
  have HO := hide o
  have HN := hide hn
  have HX := hide hx
  have HY := hide hy
  have hnl : n < 800000 := by omega
  have HLEAST : Hid (∀ y ∈ L, ¬ ltQ ns y x) := hide fun y hy => by
    obtain ⟨k, hk⟩ := List.getElem?_of_mem hy
    have hh := h.heap
    exact hh.least o (Nat.le_refl _) k (List.getElem?_eq_some_iff.1 hk).1 y x hk hx
  clear h o hn hx hy hl
  go_enter Try.func30, Try.ntmps30
  go_wp2_with fail
  refine (lenQ_ok w g ns L a c (n + 1) HR.out.rdy HN.out).mono ?_
  rintro e w1 ⟨rfl, rfl⟩
  go_wp2_with fail
  refine (swapQ_ok w1 g ns L a c 0 n x y HR.out.rdy HX.out HY.out).mono ?_
  rintro e w2 ⟨rfl, hr2, hk2⟩
  have HR2 := hide hr2
  have HK2 := hide hk2
  have HD : Hid (Hog.DownH (ltQ ns) (Hog.swp L 0 n x y) n 0) := by
    have hh := HR.out.heap
    rw [HN.out] at hh
    exact hide (hh.pop HX.out HY.out)
  clear hr2 hk2
  go_wp2_with fail
  refine (down_ok w2 g ns (Hog.swp L 0 n x y) a c n (n + 1) HO.out HR2.out (by rw [Hog.swp_len]; exact HN.out) (by omega) (by omega) HD.out).mono ?_
  rintro e w3 ⟨⟨r, rfl⟩, L', hr3, hp3, hkeep, hh3, hk3⟩
  have hl3 : L'.length = n + 1 := by rw [hp3.length_eq, Hog.swp_len]; exact HN.out
  have hlast : L'[n]? = some x := by rw [hkeep n (Nat.le_refl _), Hog.swp_get HX.out HY.out, if_pos rfl]
  have hcut : L' = L'.take n ++ [x] := by
    obtain ⟨h1, h2⟩ := List.getElem?_eq_some_iff.1 hlast
    have h3 := List.take_succ_eq_append_getElem h1
    rw [h2, List.take_of_length_le (by omega)] at h3
    exact h3
  have HR3 := hide hr3
  have HK3 := hide hk3
  have HCUT := hide hcut
  have HH3 : Hid (Hog.Heapy (ltQ ns) (L'.take n) (L'.take n).length) := by rw [List.length_take, Nat.min_eq_left (by omega)]; exact hide hh3.cut
  have HLT : Hid ((L'.take n).length = n) := hide (by rw [List.length_take]; omega)
  have HP3 : Hid (L.Perm (x :: L'.take n)) := by
    have h4 := (hp3.trans (Hog.swp_perm HX.out HY.out)).symm
    rw [hcut] at h4
    exact hide (h4.trans (List.perm_append_singleton x _))
  clear hr3 hp3 hkeep hh3 hk3 hl3 hlast hcut
  go_wp2_with fail
  refine (popQ_ok w3 g ns L' (L'.take n) a c x n HR3.out HCUT.out HLT.out (by omega)).mono ?_
  rintro e w4 ⟨rfl, hr4, hk4⟩
  have HR4 := hide hr4
  have HK4 := hide hk4
  clear hr4 hk4
  go_wp2_with fail
  go_ret
  refine ⟨x, L'.take n, rfl, ⟨HR4.out, HH3.out⟩, HP3.out, HLEAST.out, ?_⟩
  have h5 := HK2.out
  have h6 := HK3.out
  rw [own_len a (n + 1) L.length c c] at h6
  exact (h5.trans (.inl rfl) h6).trans (.inl rfl) ⟨HK4.out.os, HK4.out.tape, HK4.out.output, HK4.out.size, fun k hk hg _ => HK4.out.block k hk hg (by simp)⟩
end Go.Proofs.Yticpljjbnfimkaa
