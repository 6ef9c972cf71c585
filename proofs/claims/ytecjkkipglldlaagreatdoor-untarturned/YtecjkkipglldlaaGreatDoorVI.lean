/- The walk of UntarTurned. -/
import Derived.Test.YtecjkkipglldlaaGreatDoorVH
import Derived.Test.YtecjkkipglldlaaGreatDoorYA
namespace Go.Proofs.YtecjkkipglldlaaGreatDoor
open Go.RowKit

theorem tar_turned {t u : List Nd} {l' : List UInt8} (h : Hog.tarL u = l') (hne : Hog.tarL t ≠ l') : u ≠ t := fun e => hne (by rw [← e]; exact h)
theorem tar_cut {t : List Nd} {k : Nat} (ht : mayN t = true) (hk : k < (Hog.tarL t).length) : Hog.TarIs ((Hog.tarL t).take k) [] 5 := by
  refine .inr ⟨rfl, rfl, fun u hu e => ?_⟩
  have h1 : Hog.tarL u ++ (Hog.tarL t).drop k = Hog.tarL t ++ [] := by rw [e, List.take_append_drop, List.append_nil]
  have h2 := Hog.tar_free hu ht h1
  rw [h2] at e
  have h3 := congrArg List.length e
  rw [List.length_take] at h3
  omega
theorem tar_more {t : List Nd} (ht : mayN t = true) : Hog.TarIs (Hog.tarL t ++ Hog.zeros 512) [] 5 := by
  refine .inr ⟨rfl, rfl, fun u hu e => ?_⟩
  have h1 : Hog.tarL u ++ [] = Hog.tarL t ++ Hog.zeros 512 := by rw [e, List.append_nil]
  have h2 := Hog.tar_free hu ht h1
  rw [h2] at e
  have h3 := congrArg List.length e
  rw [List.length_append, Hog.zeros_len] at h3
  omega
theorem tarL_tiny {t : List Nd} (hv : mayN t = true) (hl : t.length ≤ 30) : (Hog.tarL t).length < 100000 := by
  have h := Hog.flat_le (B := 3072) Hog.nodeT t (fun n hn => Hog.nodeT_le (Hog.tree_node hv n hn))
  have h2 : t.length * 3072 ≤ 30 * 3072 := Nat.mul_le_mul_right _ hl
  unfold Hog.tarL Hog.treeT
  rw [List.length_append, Hog.zeros_len]
  omega
theorem tarL_ge (t : List Nd) : 1024 ≤ (Hog.tarL t).length := by unfold Hog.tarL; rw [List.length_append, Hog.zeros_len]; omega
theorem set_ne {l : List UInt8} {k : Nat} {v y : UInt8} (h : l[k]? = some v) (hy : v ≠ y) : l ≠ l.set k y := fun e => by
  have h1 := congrArg (fun l => l[k]?) e
  simp only [h, List.getElem?_set_self (List.getElem?_eq_some_iff.1 h).1] at h1
  exact hy (Option.some.inj h1)

set_option maxRecDepth 100000 in
set_option maxHeartbeats 16000000 in
theorem turned_walk (ao : Option Addr) (n c : Nat) (t : List Nd) (at' x : Int) (w : World) (hsh : w.ShapedOpen Tryz.prog) (hp : Lib14 w) (ha : ArgN w ao n c t) (hn : n ≤ maxLen) :
    Calls Tryz.prog 5 #[.slice ao n c, .int .i64 at', .int .i64 x] w fun e w' => e = .returned (.bool true) ∧ Below w.heap.size w w' := by
  have hok := Ok.start hsh
  have HOK := hide hok
  have HP := hide hp
  have HND := hide ha.nods
  have HL := hide ha.len
  have hn' : t.length ≤ maxLen := by rw [ha.len]; exact hn
  obtain ⟨y, hy⟩ : ∃ y, greatN 12 t = y := ⟨_, rfl⟩
  have HY := hide hy
  clear ha hy hsh hp hok
  go_enter Tryz.func5, Tryz.ntmps5
  go_wp2_with fail
  refine (greatN_ok _ 12 t y w HND.out hn' (by decide) (by decide) HY.out).mono ?_
  rintro e w1 ⟨rfl, h1⟩
  have h2 := h1.symm
  subst h2
  clear h1
  cases y with
  | true =>
    go_wp2_with fail
    refine (awake14_ok w w HP.out HOK.out).mono ?_
    rintro e w2 ⟨rfl, ok2, hb2⟩
    go_wp2
    go_ret
    exact ⟨rfl, hb2⟩
  | false =>
    have HS := hide (short_of (by decide) HY.out)
    obtain ⟨g, hg⟩ : ∃ x, mayN t = x := ⟨_, rfl⟩
    have HX := hide hg
    clear hg
    cases g with
    | false =>
      go_wp2_with fail
      refine (tlay_bad _ t w w HOK.out HND.out HS.out HX.out).mono ?_
      rintro e w2 ⟨rfl, ok2, hb2⟩
      have HB2 := hide hb2
      clear hb2
      go_wp2_with fail
      refine (awake14_ok w w2 HP.out ok2).mono ?_
      rintro e w3 ⟨rfl, ok3, hb3⟩
      have HB3 := hide (below_two HB2.out hb3)
      clear hb3
      go_wp2
      go_ret
      exact ⟨rfl, HB3.out⟩
    | true =>
      obtain ⟨l, hl⟩ : ∃ z, Hog.tarL t = z := ⟨_, rfl⟩
      obtain ⟨m, hm⟩ : ∃ m, l.length = m := ⟨_, rfl⟩
      have hml : m < 100000 := by rw [← hm, ← hl]; exact tarL_tiny HX.out (by have := (greatN_not HY.out).1; omega)
      have hm0 : 1024 ≤ m := by rw [← hm, ← hl]; exact tarL_ge t
      have HZ := hide hl
      have HM := hide hm
      clear hl hm
      have hmz : ((m : Int) == 0) = false := by rw [beq_eq_false_iff_ne]; omega
      go_wp2_with fail
      refine (tlay_good _ t l m w w HP.out.1 HOK.out HND.out HS.out HX.out HZ.out HM.out).mono ?_
      rintro e w2 ⟨b2, c2, rfl, ho2, ok2, hb2⟩
      have HO2 := hide ho2
      have HB2 := hide hb2
      have HOK2 := hide ok2
      clear ho2 hb2 ok2
      go_wp2_with (at_builtin; refine wpList_append_bytes rfl _ _ rfl w2.heap.size _ [] rfl (OwnB.nil _ _) _ _ _ l rfl HO2.out.argAt.2 0 rfl l rfl ?c1 (Nat.le_refl _) ?_)
      case c1 => omega
      intro b1 c1 w1 ho1 hl1
      have hb1 := hl1.below (OwnB.nil w2.heap.size w2) (Nat.le_refl _)
      clear hl1
      obtain ⟨bg, rfl, hbg, hbw⟩ : ∃ bg, b1 = some ⟨bg, 0, none⟩ ∧ w2.heap.size ≤ bg ∧ bg < w1.heap.size := by
        have hp := ho1.argAt.2.plain (by omega)
        rcases ho1.2 with ⟨e, e2⟩ | ⟨bg, cap, cur, e, hle, hgt, _⟩
        · obtain ⟨b, o, e3, _⟩ := hp
          rw [e3] at e
          cases e
        · simp only [Value.slice.injEq] at e
          exact ⟨bg, e.1, hle, (Array.getElem?_eq_some_iff.1 hgt).1⟩
      have HO := hide ho1
      have HBW := hide hb1
      obtain ⟨r, hr⟩ : ∃ r, lowN at' m = r := ⟨_, rfl⟩
      obtain ⟨q, hq⟩ : ∃ q, lowN x 255 = q := ⟨_, rfl⟩
      have hrn : r < m := by rw [← hr]; exact lowN_lt _ (by omega)
      have hq5 : q < 255 := by rw [← hq]; exact lowN_lt _ (by decide)
      have HR := hide hr
      have HQ := hide hq
      obtain ⟨v, hv⟩ : ∃ v, l[r]? = some v := ⟨l[r]'(by have := HM.out; omega), List.getElem?_eq_some_iff.2 ⟨_, rfl⟩⟩
      have HV := hide hv
      have hcell : w1.cell? ⟨bg, r, none⟩ = some (.int .u8 v.toNat) := by
        have := ho1.argAt.2.at hv
        rwa [Nat.zero_add] at this
      have hfr : w1.frozen? ⟨bg, r, none⟩ = false := by
        have h1 : w1.ownsRow w2.heap.size 5 1 (.slice (some ⟨bg, 0, none⟩) m c1) l.length (bcells l) := ho1
        rw [HM.out] at h1
        exact World.ownsRow.frozenAt h1 r
      have hri : (r : Int) < (m : Int) := by omega
      have HC := hide hcell
      have HFR := hide hfr
      clear hr hq hv ho1 hb1 hcell hfr
      go_wp2_with fail
      refine (lowV_ok at' m r w1 (by omega) (by omega) HR.out).mono ?_
      rintro e wk ⟨rfl, h1⟩
      have h2 := h1.symm
      subst h2
      clear h1
      have hcd : w1.drew.cell? ⟨bg, r, none⟩ = some (.int .u8 v.toNat) := HC.out
      have hfd : w1.drew.frozen? ⟨bg, r, none⟩ = false := HFR.out
      have hq1 : IntKind.i64.wrap (1 + (q : Int)) = 1 + (q : Int) := by rw [IntKind.wrap_i64]; omega
      have hq2 : IntKind.u8.wrap (1 + (q : Int)) = 1 + (q : Int) := by rw [IntKind.wrap_u8']; omega
      have HT := hide (turnB_val v hq5)
      go_wp2_with fail
      refine wp_region_any (by kernel_rfl) ?_
      change wpAny _ _ _ _ _ _ _ (World.drew _)
      refine wpAny_take (i := 0) (v := .slice (some ⟨bg, 0, none⟩) m c1) rfl (by kernel_rfl) (by kernel_rfl) (by kernel_rfl) (fun _ _ _ h => h) (Or.inl ⟨by kernel_rfl, ?_⟩) ?_
      · intro w'; go_simp
      refine wpAny_take (i := 1) (v := .int .i64 r) rfl (by kernel_rfl) (by kernel_rfl) (by kernel_rfl) (fun _ _ _ h => h) (Or.inl ⟨by kernel_rfl, ?_⟩) ?_
      · intro w'; go_simp
      refine wpAny_take (i := 2) (v := .pointer (some ⟨bg, r, none⟩)) rfl (by kernel_rfl) (by kernel_rfl) (by kernel_rfl) (fun _ _ _ h => h) (Or.inl ⟨by kernel_rfl, ?_⟩) ?_
      · intro w'; go_simp
      refine wpAny_take (i := 4) (v := .int .i64 x) rfl (by kernel_rfl) (by kernel_rfl) (by kernel_rfl) (fun _ _ _ h => h) (Or.inl ⟨by kernel_rfl, ?_⟩) ?_
      · intro w'; go_simp
      refine wpAny_ready (rs := [3, 5]) (by kernel_rfl) (by simp) (AllReady.cons rfl ?_ (AllReady.cons rfl ?_ AllReady.nil))
      · intro K hK
        go_simp
        refine hK _ _ ?_
        clear hK K
        refine wpAny_ready (rs := [5]) (by kernel_rfl) (by simp) (AllReady.cons rfl ?_ AllReady.nil)
        intro K hK
        go_simp
        refine (lowV_ok x 255 q w1.drew (by decide) (by decide) HQ.out).mono ?_
        rintro e wq ⟨rfl, rfl⟩
        refine hK _ _ ?_
        clear hK K
        refine wpAny_take (i := 6) (v := .int .i64 (1 + q)) rfl (by kernel_rfl) (by kernel_rfl) (by kernel_rfl) (fun _ _ _ h => h) (Or.inl ⟨by kernel_rfl, ?_⟩) ?_
        · intro w'; go_simp
        refine wpAny_take (i := 7) (v := .int .u8 (1 + q)) rfl (by kernel_rfl) (by kernel_rfl) (by kernel_rfl) (fun _ _ _ h => h) (Or.inl ⟨by kernel_rfl, ?_⟩) ?_
        · intro w'; go_simp
        refine wpAny_take (i := 8) (v := .int .u8 (turnB v q).toNat) rfl (by kernel_rfl) (by kernel_rfl) (by kernel_rfl) (fun _ _ _ h => h) (Or.inl ⟨by kernel_rfl, ?_⟩) ?_
        · intro w'; go_simp; exact HT.out
        refine wpAny_take (i := 9) (v := .pointer (some ⟨bg, r, none⟩)) rfl (by kernel_rfl) (by kernel_rfl) (by kernel_rfl) (fun _ _ _ h => h) (Or.inl ⟨by kernel_rfl, ?_⟩) ?_
        · intro w'; go_simp
        refine wpAny_ready (rs := [10]) (by kernel_rfl) (by simp) (AllReady.cons rfl ?_ AllReady.nil)
        intro K hK
        go_simp
        refine hK _ _ ?_
        clear hK K
        refine wpAny_done (by kernel_rfl) ?_ _
        obtain ⟨W2, hW2⟩ : ∃ W, W = (w1.setCell ⟨bg, r, none⟩ (.int .u8 (turnB v q).toNat)).drew := ⟨_, rfl⟩
        obtain ⟨l', hl'⟩ : ∃ l', l' = l.set r (turnB v q) := ⟨_, rfl⟩
        have HNL : Hid (l'.length = m) := by rw [hl', List.length_set]; exact HM.out
        have hbW2 : Below w2.heap.size w2 W2 := by rw [hW2]; exact (HBW.out.setCell (p := ⟨bg, r, none⟩) hbg _).drew
        have HA2 : Hid (ArgB W2 (some ⟨bg, 0, none⟩) m c1 l') := by
          have h1 := (HO.out.stored HM.out.symm r (turnB v q)).argAt.2
          rw [hW2, hl']
          exact h1.below ((Below.refl _ _).drew)
        have HNE : Hid (Hog.tarL t ≠ l') := by rw [HZ.out, hl']; exact set_ne HV.out (turnB_ne v hq5)
        have HOB := hide (HO2.out.below hbW2)
        have HBZ2 := hide (below_two HB2.out hbW2)
        have HOKZ := hide (HOK2.out.next hbW2)
        rw [← hW2]
        clear hW2 hl' hcd hfd hq1 hq2 HT HC HFR HO HBW hbW2 HO2 HB2 HOK2
        obtain ⟨T1, E1, hT1⟩ := tar_or l'
        obtain ⟨q1, hq1⟩ : ∃ q, T1.length = q := ⟨_, rfl⟩
        have HT1 := hide hT1
        have HQ1 := hide hq1
        clear hT1 hq1
        go_wp2_with fail
        refine (uread_ok _ m _ l' T1 E1 q1 w W2 HP.out HOKZ.out HA2.out (by omega) HT1.out HQ1.out).mono ?_
        rintro e w3 ⟨b3, c3, rfl, ho3, ok3, hb3⟩
        have HN3 := hide ho3
        have HOB3 := hide (HOB.out.below hb3)
        have HB3 := hide (below_two HBZ2.out hb3)
        clear ho3 hb3 HOB HA2
        have HTC : Hid (Hog.TarIs (l.take r) [] 5) := by rw [← HZ.out]; exact hide (tar_cut HX.out (by rw [HZ.out, HM.out]; exact hrn))
        have hrc : (r : Int) ≤ (c2 : Int) := by have := HOB3.out.argAt.2.cap; omega
        obtain ⟨bb, oo, rfl, hbb⟩ := HOB3.out.argAt.2.plain (by omega)
        go_wp2_with fail
        refine (uread_ok _ r _ (l.take r) [] 5 0 w w3 HP.out ok3 (HOB3.out.argAt.2.take (Nat.le_of_lt hrn)) (by omega) HTC.out rfl).mono ?_
        rintro e w4 ⟨b4, c4, rfl, ho4, ok4, hb4⟩
        have HN4 := hide (HN3.out.below hb4)
        have HOB4 := hide (HOB3.out.below hb4)
        have HB4 := hide (below_two HB3.out hb4)
        clear ho4 hb4 HOB3 HN3
        have HTM : Hid (Hog.TarIs (l ++ Hog.zeros 512) [] 5) := by rw [← HZ.out]; exact hide (tar_more HX.out)
        obtain ⟨l5, hl5⟩ : ∃ z, l ++ Hog.zeros 512 = z := ⟨_, rfl⟩
        rw [hl5] at HTM
        have HL5 := hide hl5
        clear hl5
        go_wp2_with (at_builtin; refine wpList_append_bytes rfl _ _ rfl w4.heap.size _ [] rfl (OwnB.nil _ _) _ _ _ l rfl HOB4.out.argAt.2 0 rfl l rfl ?d1 (Nat.le_refl _) ?_)
        case d1 => omega
        intro b5 c5 w5 ho5 hl5
        have HO5 := hide ho5
        have hb5 := hl5.below (OwnB.nil w4.heap.size w4) (Nat.le_refl _)
        have HB5 := hide hb5
        have hs5 : w4.heap.size ≤ w5.heap.size := hb5.size
        clear ho5 hl5 hb5
        go_wp2_with (at_builtin; refine wpList_append_zeros rfl _ _ rfl w4.heap.size _ l rfl HO5.out 512 rfl m HM.out l5 HL5.out ?d2 hs5 ?_)
        case d2 => omega
        intro b6 c6 w6 ho6 hl6
        have HO6 := hide ho6
        have hb6 := HB5.out.trans (hl6.below HO5.out hs5)
        have HN6 := hide (HN4.out.below hb6)
        have HB6 := hide (below_two HB4.out hb6)
        have HOK6 := hide (ok4.next hb6)
        clear ho6 hl6 hb6 HO5 HB5 HN4
        go_wp2_with fail
        refine (uread_ok _ (m + 512) _ l5 [] 5 0 w w6 HP.out HOK6.out HO6.out.argAt.2 (by omega) HTM.out rfl).mono ?_
        rintro e w7 ⟨b7, c7, rfl, ho7, ok7, hb7⟩
        have HN7 := hide (HN6.out.below hb7)
        have HB7 := hide (below_two HB6.out hb7)
        clear ho7 hb7 HN6 HO6
        rcases id HT1.out with ⟨rfl, hmay, htar⟩ | ⟨rfl, rfl, _⟩
        · have hne : T1 ≠ t := tar_turned htar HNE.out
          have HNT := hide hne
          have hq4 : T1.length < 1000000 := by have := Hog.tree_len hmay; omega
          clear hmay htar hne
          go_wp2_with fail
          refine (sameN_any _ _ T1 t w7 HN7.out.nods (HND.out.below HB7.out) hq4).mono ?_
          rintro e w8 ⟨rfl, hb8⟩
          rw [show decide (T1 = t) = false from decide_eq_false HNT.out]
          have HB8 := hide (below_two HB7.out hb8)
          have HOK8 := hide (ok7.next hb8)
          clear hb8
          go_wp2_with fail
          refine (awake14_ok w w8 HP.out HOK8.out).mono ?_
          rintro e wz ⟨rfl, okz, hbz⟩
          have HBZ := hide (below_two HB8.out hbz)
          clear hbz
          go_wp2
          go_ret
          exact ⟨rfl, HBZ.out⟩
        · obtain rfl : q1 = 0 := HQ1.out.symm
          go_wp2_with fail
          refine (awake14_ok w w7 HP.out ok7).mono ?_
          rintro e wz ⟨rfl, okz, hbz⟩
          have HBZ := hide (below_two HB7.out hbz)
          clear hbz
          go_wp2
          go_ret
          exact ⟨rfl, HBZ.out⟩
      · intro K hK
        go_simp
        refine (lowV_ok x 255 q w1.drew (by decide) (by decide) HQ.out).mono ?_
        rintro e wq ⟨rfl, rfl⟩
        refine hK _ _ ?_
        clear hK K
        refine wpAny_take (i := 6) (v := .int .i64 (1 + q)) rfl (by kernel_rfl) (by kernel_rfl) (by kernel_rfl) (fun _ _ _ h => h) (Or.inl ⟨by kernel_rfl, ?_⟩) ?_
        · intro w'; go_simp
        refine wpAny_take (i := 7) (v := .int .u8 (1 + q)) rfl (by kernel_rfl) (by kernel_rfl) (by kernel_rfl) (fun _ _ _ h => h) (Or.inl ⟨by kernel_rfl, ?_⟩) ?_
        · intro w'; go_simp
        refine wpAny_ready (rs := [3]) (by kernel_rfl) (by simp) (AllReady.cons rfl ?_ AllReady.nil)
        intro K hK
        go_simp
        refine hK _ _ ?_
        clear hK K
        refine wpAny_take (i := 8) (v := .int .u8 (turnB v q).toNat) rfl (by kernel_rfl) (by kernel_rfl) (by kernel_rfl) (fun _ _ _ h => h) (Or.inl ⟨by kernel_rfl, ?_⟩) ?_
        · intro w'; go_simp; exact HT.out
        refine wpAny_take (i := 9) (v := .pointer (some ⟨bg, r, none⟩)) rfl (by kernel_rfl) (by kernel_rfl) (by kernel_rfl) (fun _ _ _ h => h) (Or.inl ⟨by kernel_rfl, ?_⟩) ?_
        · intro w'; go_simp
        refine wpAny_ready (rs := [10]) (by kernel_rfl) (by simp) (AllReady.cons rfl ?_ AllReady.nil)
        intro K hK
        go_simp
        refine hK _ _ ?_
        clear hK K
        refine wpAny_done (by kernel_rfl) ?_ _
        obtain ⟨W2, hW2⟩ : ∃ W, W = (w1.setCell ⟨bg, r, none⟩ (.int .u8 (turnB v q).toNat)).drew := ⟨_, rfl⟩
        obtain ⟨l', hl'⟩ : ∃ l', l' = l.set r (turnB v q) := ⟨_, rfl⟩
        have HNL : Hid (l'.length = m) := by rw [hl', List.length_set]; exact HM.out
        have hbW2 : Below w2.heap.size w2 W2 := by rw [hW2]; exact (HBW.out.setCell (p := ⟨bg, r, none⟩) hbg _).drew
        have HA2 : Hid (ArgB W2 (some ⟨bg, 0, none⟩) m c1 l') := by
          have h1 := (HO.out.stored HM.out.symm r (turnB v q)).argAt.2
          rw [hW2, hl']
          exact h1.below ((Below.refl _ _).drew)
        have HNE : Hid (Hog.tarL t ≠ l') := by rw [HZ.out, hl']; exact set_ne HV.out (turnB_ne v hq5)
        have HOB := hide (HO2.out.below hbW2)
        have HBZ2 := hide (below_two HB2.out hbW2)
        have HOKZ := hide (HOK2.out.next hbW2)
        rw [← hW2]
        clear hW2 hl' hcd hfd hq1 hq2 HT HC HFR HO HBW hbW2 HO2 HB2 HOK2
        obtain ⟨T1, E1, hT1⟩ := tar_or l'
        obtain ⟨q1, hq1⟩ : ∃ q, T1.length = q := ⟨_, rfl⟩
        have HT1 := hide hT1
        have HQ1 := hide hq1
        clear hT1 hq1
        go_wp2_with fail
        refine (uread_ok _ m _ l' T1 E1 q1 w W2 HP.out HOKZ.out HA2.out (by omega) HT1.out HQ1.out).mono ?_
        rintro e w3 ⟨b3, c3, rfl, ho3, ok3, hb3⟩
        have HN3 := hide ho3
        have HOB3 := hide (HOB.out.below hb3)
        have HB3 := hide (below_two HBZ2.out hb3)
        clear ho3 hb3 HOB HA2
        have HTC : Hid (Hog.TarIs (l.take r) [] 5) := by rw [← HZ.out]; exact hide (tar_cut HX.out (by rw [HZ.out, HM.out]; exact hrn))
        have hrc : (r : Int) ≤ (c2 : Int) := by have := HOB3.out.argAt.2.cap; omega
        obtain ⟨bb, oo, rfl, hbb⟩ := HOB3.out.argAt.2.plain (by omega)
        go_wp2_with fail
        refine (uread_ok _ r _ (l.take r) [] 5 0 w w3 HP.out ok3 (HOB3.out.argAt.2.take (Nat.le_of_lt hrn)) (by omega) HTC.out rfl).mono ?_
        rintro e w4 ⟨b4, c4, rfl, ho4, ok4, hb4⟩
        have HN4 := hide (HN3.out.below hb4)
        have HOB4 := hide (HOB3.out.below hb4)
        have HB4 := hide (below_two HB3.out hb4)
        clear ho4 hb4 HOB3 HN3
        have HTM : Hid (Hog.TarIs (l ++ Hog.zeros 512) [] 5) := by rw [← HZ.out]; exact hide (tar_more HX.out)
        obtain ⟨l5, hl5⟩ : ∃ z, l ++ Hog.zeros 512 = z := ⟨_, rfl⟩
        rw [hl5] at HTM
        have HL5 := hide hl5
        clear hl5
        go_wp2_with (at_builtin; refine wpList_append_bytes rfl _ _ rfl w4.heap.size _ [] rfl (OwnB.nil _ _) _ _ _ l rfl HOB4.out.argAt.2 0 rfl l rfl ?d1 (Nat.le_refl _) ?_)
        case d1 => omega
        intro b5 c5 w5 ho5 hl5
        have HO5 := hide ho5
        have hb5 := hl5.below (OwnB.nil w4.heap.size w4) (Nat.le_refl _)
        have HB5 := hide hb5
        have hs5 : w4.heap.size ≤ w5.heap.size := hb5.size
        clear ho5 hl5 hb5
        go_wp2_with (at_builtin; refine wpList_append_zeros rfl _ _ rfl w4.heap.size _ l rfl HO5.out 512 rfl m HM.out l5 HL5.out ?d2 hs5 ?_)
        case d2 => omega
        intro b6 c6 w6 ho6 hl6
        have HO6 := hide ho6
        have hb6 := HB5.out.trans (hl6.below HO5.out hs5)
        have HN6 := hide (HN4.out.below hb6)
        have HB6 := hide (below_two HB4.out hb6)
        have HOK6 := hide (ok4.next hb6)
        clear ho6 hl6 hb6 HO5 HB5 HN4
        go_wp2_with fail
        refine (uread_ok _ (m + 512) _ l5 [] 5 0 w w6 HP.out HOK6.out HO6.out.argAt.2 (by omega) HTM.out rfl).mono ?_
        rintro e w7 ⟨b7, c7, rfl, ho7, ok7, hb7⟩
        have HN7 := hide (HN6.out.below hb7)
        have HB7 := hide (below_two HB6.out hb7)
        clear ho7 hb7 HN6 HO6
        rcases id HT1.out with ⟨rfl, hmay, htar⟩ | ⟨rfl, rfl, _⟩
        · have hne : T1 ≠ t := tar_turned htar HNE.out
          have HNT := hide hne
          have hq4 : T1.length < 1000000 := by have := Hog.tree_len hmay; omega
          clear hmay htar hne
          go_wp2_with fail
          refine (sameN_any _ _ T1 t w7 HN7.out.nods (HND.out.below HB7.out) hq4).mono ?_
          rintro e w8 ⟨rfl, hb8⟩
          rw [show decide (T1 = t) = false from decide_eq_false HNT.out]
          have HB8 := hide (below_two HB7.out hb8)
          have HOK8 := hide (ok7.next hb8)
          clear hb8
          go_wp2_with fail
          refine (awake14_ok w w8 HP.out HOK8.out).mono ?_
          rintro e wz ⟨rfl, okz, hbz⟩
          have HBZ := hide (below_two HB8.out hbz)
          clear hbz
          go_wp2
          go_ret
          exact ⟨rfl, HBZ.out⟩
        · obtain rfl : q1 = 0 := HQ1.out.symm
          go_wp2_with fail
          refine (awake14_ok w w7 HP.out ok7).mono ?_
          rintro e wz ⟨rfl, okz, hbz⟩
          have HBZ := hide (below_two HB7.out hbz)
          clear hbz
          go_wp2
          go_ret
          exact ⟨rfl, HBZ.out⟩
end Go.Proofs.YtecjkkipglldlaaGreatDoor
