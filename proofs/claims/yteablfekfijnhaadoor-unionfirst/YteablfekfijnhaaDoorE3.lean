/- The walk of the statement UnionFirst: of whatever trees it answers true. -/
import Derived.Test.YteablfekfijnhaaDoorE2
import Derived.Deep.RegionHeld
namespace Go.Proofs.YteablfekfijnhaaDoor
open Go.RowKit

theorem rooted_small {t : List Nd} (h : rootedB t = true) : ∀ n ∈ t, n.1.size < 999999 := fun n hn => good_small ((rooted_tree h).1.good n hn)

theorem eql_nodeF (x y : Nd) (w : World) : (binOp .eql 37 (.agg #[.string x.1, .int .i64 x.2.1, .string x.2.2]) (.agg #[.string y.1, .int .i64 y.2.1, .string y.2.2])).run Tryd.prog w = .ok (.bool (decide (x = y))) w := by
  rw [run_eql_struct, equal_node]
  simp
theorem in_step {ts : List (List Nd)} {x z : Nd} {i : Nat} {y f : Bool} {t : List Nd} (h : ∀ (j : Nat) t, j < i → ts[j]? = some t → x ∈ t → y = true) (ht : ts[i]? = some t) (hl : lookP t x.1 = (z, f)) (hr : Tree t) :
    ∀ (j : Nat) t', j < i + 1 → ts[j]? = some t' → x ∈ t' → (y || (f && decide (z = x))) = true := by
  intro j t' hj ht' hx
  by_cases hji : j < i
  · rw [h j t' hji ht' hx]; rfl
  · obtain rfl : j = i := by omega
    rw [ht] at ht'
    cases ht'
    rw [lookP_of' hr hx] at hl
    cases hl
    simp

set_option maxRecDepth 100000 in
set_option maxHeartbeats 8000000 in
theorem first_walk (v : Value) (ts : List (List Nd)) (w : World) (hsh : w.ShapedOpen Tryd.prog) (hT : Trs w v ts) (hm : ∀ t ∈ ts, t.length ≤ maxLen) :
    Calls Tryd.prog 5 #[v] w fun e w' => e = .returned (.bool true) ∧ Below w.heap.size w w' := by
  obtain ⟨ao, c, rfl, hA⟩ := hT.open
  obtain ⟨n, hn⟩ : ∃ n, n = ts.length := ⟨_, rfl⟩
  rw [← hn] at hT ⊢
  have HN := hide hn
  have HT := hide hT
  have HA := hide hA
  have HM := hide hm
  have ok0 : Ok w w := Ok.start hsh
  clear hT hA hm hn
  go_enter Tryd.func5, Tryd.ntmps5
  go_wp2_with fail
  refine (great_ok _ ts w HT.out HM.out).mono ?_
  rintro e w1 ⟨g, rfl, hg, rfl⟩
  cases g with
  | true =>
    go_wp2_with fail
    refine (awake4_ok w1 w1 ok0).mono ?_
    rintro e w2 ⟨rfl, ok2, hb2⟩
    go_wp2
    go_ret
    exact ⟨rfl, hb2⟩
  | false =>
    have HS := hide (hg rfl)
    have hn5 : n ≤ 5 := by have := HS.out.1; have := HN.out; omega
    clear hg
    by_cases hn0 : n = 0
    · subst hn0
      go_wp2_with fail
      refine (awake4_ok w1 w1 ok0).mono ?_
      rintro e w2 ⟨rfl, ok2, hb2⟩
      go_wp2
      go_ret
      exact ⟨rfl, hb2⟩
    · obtain ⟨t0, r, hts⟩ : ∃ t0 r, ts = t0 :: r := by
        cases ts with
        | nil => exact absurd HN.out hn0
        | cons t0 r => exact ⟨t0, r, rfl⟩
      have HTS := hide hts
      obtain ⟨b, o, u, rfl, hbs, hcell, hnods⟩ := HA.out 0 t0 (by rw [hts]; rfl)
      rw [Nat.add_zero] at hcell
      obtain ⟨a2, c2, rfl, hB⟩ := hnods.open
      obtain ⟨q, hq⟩ : ∃ q, q = t0.length := ⟨_, rfl⟩
      rw [← hq] at hcell hnods
      have HQ := hide hq
      have HN0 := hide hnods
      have HBB := hide hB
      have HC := hide hcell
      have hq30 : q ≤ 30 := by have := (HS.out.2 t0 (by rw [hts]; simp)).1; omega
      have hni : (0 : Int) < (n : Int) := by omega
      have hnd : ((n : Int) == 0) = false := by simp; omega
      have hnz : ¬ ((n : Int) = 0) := by omega
      clear hts hcell hnods hB hq
      go_wp2_with fail
      refine (of_ok 1 _ ts w1 w1 ok0 HT.out HS.out.size (by have := HS.out.1; omega) (by have := HS.out.flat; omega)).mono ?_
      rintro e w2 ⟨va, a, e1, rfl, hoa, hua, ok2, hb2⟩
      rw [HTS.out] at hua
      obtain ⟨he, hz⟩ := first_fact hua (by have := HS.out.flat; rw [HTS.out] at this; omega)
      have HOA := hide hoa
      clear hoa hua hb2
      by_cases h0 : e1 = 0
      · subst h0
        obtain ⟨hta, hrt, hra, hin, hof, hln⟩ := hz rfl
        have hln2 : a.length ≤ 151 := by have := HS.out.flat; rw [HTS.out] at this; omega
        have HTA := hide hta
        have HRT := hide hrt
        have HRA := hide hra
        have HIN := hide hin
        have HOF := hide hof
        have hal := hta.len
        obtain ⟨a5, c5, e5⟩ := HOA.out.form
        subst e5
        obtain ⟨la, hla⟩ : ∃ la, la = a.length := ⟨_, rfl⟩
        have HLA := hide hla
        rw [← hla] at hal hln2 HOA ⊢
        have HMA := hide (tree_may hta)
        clear he hz hta hrt hra hin hof hla hln
        go_wp2_with fail
        refine (mayT_ok _ a true w1 w2 ok2 (rooted_small HRA.out) HOA.out.nods (by have := HLA.out; omega) HMA.out).mono ?_
        rintro e w5 ⟨rfl, ok5, hb5⟩
        have HNA := hide (HOA.out.below hb5).nods
        clear hb5 HOA
        have hgd := guard_node
        go_wp2
        go_loopw [5, 6, 7] (fun i _ _ wr => ∃ j : Nat, j ≤ q ∧ i = .int .i64 j ∧ Hid (Ok w1 wr) ∧ Hid (Nods wr (.slice a5 la c5) a)) (fun i _ _ _ => q - (intOf i).toNat)
        case atStart => exact ⟨0, Nat.zero_le _, rfl, ok5, HNA⟩
        case round =>
          obtain ⟨j, hj, rfl, HOK7, HNA7⟩ := hrel
          have hc1 := (HOK7.out.2.cell (p := ⟨b, o, none⟩) hbs).trans HC.out
          by_cases hjl : j < q
          · obtain ⟨x, hx⟩ : ∃ x, t0[j]? = some x := ⟨t0[j]'(by have := HQ.out; omega), List.getElem?_eq_some_iff.2 ⟨_, rfl⟩⟩
            obtain ⟨b2, o2, rfl, hb2, hat⟩ := HBB.out j x hx
            obtain ⟨g1, g2, g3⟩ := hat.below HOK7.out.2 hb2
            have HAT := hide hat
            have hjq : (j : Int) < (q : Int) := by omega
            have HLK := hide (lookP_of' HTA.out (HIN.out x (List.mem_of_getElem? hx)))
            clear hat hx
            go_wp2_with fail
            refine (lookup_ok _ a x.1 x true w1 wr HOK7.out (rooted_small HRA.out) HNA7.out (by have := HLA.out; omega) HLK.out).mono ?_
            rintro e w6 ⟨rfl, ok6, hb6⟩
            obtain ⟨W, hW⟩ : ∃ W, W = w6.alloc (.cells #[.string x.1, .int .i64 x.2.1, .string x.2.2] 37) := ⟨_, rfl⟩
            have hbW : Below w6.heap.size w6 W := by rw [hW]; exact below_alloc _ _
            have okW := ok6.next hbW
            have HNAW := hide ((HNA7.out.below hb6).below hbW)
            have hBW : Blk W w6.heap.size x := by rw [hW]; exact Blk.made w6 x
            obtain ⟨⟨x1, x2, x3⟩, _, hbx⟩ := hBW.facts
            obtain ⟨y1, y2, y3⟩ := HAT.out.below okW.2 hb2
            have hcW := (okW.2.cell (p := ⟨b, o, none⟩) hbs).trans HC.out
            have hnq := fun w => neq_node x x w
            have hnn : nneq x x = false := by simp [nneq]
            rw [hnn] at hnq
            have HW := hide hW
            clear hb6 hbW hBW hW g1 g2 g3 hc1 hnn HAT HLK
            go_wp2
            rw [← HW.out]
            go_quiet (fail)
            have okQ := okW.next (below_drewN (Below.refl _ W) nq)
            have HNAQ := hide (HNAW.out.below (below_drewN (Below.refl _ W) nq))
            clear x1 x2 x3 y1 y2 y3 hcW hnq HNAW HW
            go_wp2
            go_roundw
            case rel => exact ⟨j + 1, by omega, by go_num, okQ, HNAQ⟩
            case measure => simp [intOf]; omega
          · have hjd : decide ((j : Int) < (q : Int)) = false := by simp; omega
            obtain ⟨b5, o5, rfl, hc5, HR7⟩ : ∃ b5 o5, a5 = some ⟨b5, o5, none⟩ ∧ la ≤ c5 ∧ Hid (Run wr b5 o5 a) := by
              rcases HNA7.out with ⟨e, _⟩ | ⟨b5, o5, c9, e, hc9, hr9⟩
              · have := HTA.out.root
                rw [e] at this
                obtain ⟨x, hx, _⟩ := this
                cases hx
              · simp only [Value.slice.injEq] at e
                exact ⟨b5, o5, e.1, by rw [e.2.2]; omega, hr9⟩
            clear HNA7 HNA
            go_wp2
            go_loopw [8, 9, 10, 11, 12] (fun i _ _ _ _ wr => ∃ k : Nat, k ≤ la ∧ i = .int .i64 k ∧ Hid (Ok w1 wr) ∧ Hid (Run wr b5 o5 a)) (fun i _ _ _ _ _ => la - (intOf i).toNat)
            case atStart => exact ⟨0, Nat.zero_le _, rfl, HOK7, HR7⟩
            case round =>
              obtain ⟨k, hk, rfl, HOK8, HR8⟩ := hrel
              by_cases hlt : k < la
              · obtain ⟨x, hx⟩ : ∃ x, a[k]? = some x := ⟨a[k]'(by have := HLA.out; omega), List.getElem?_eq_some_iff.2 ⟨_, rfl⟩⟩
                have hki : (k : Int) < (la : Int) := by omega
                have HX := hide hx
                clear hx
                go_wp2
                go_loopw [9, 10, 11, 12] (fun g i _ _ wr => ∃ (i' : Nat) (y : Bool), i' ≤ n ∧ i = .int .i64 i' ∧ g = .bool y ∧ Hid (∀ (j : Nat) t, j < i' → ts[j]? = some t → x ∈ t → y = true) ∧ Hid (Ok w1 wr) ∧ Hid (Run wr b5 o5 a)) (fun _ i _ _ _ => n - (intOf i).toNat)
                case atStart => exact ⟨0, false, Nat.zero_le _, rfl, rfl, fun j t hj => (by omega), HOK8, HR8⟩
                case round =>
                  obtain ⟨i, y, hi, rfl, rfl, HI, HOK9, HR9⟩ := hrel
                  by_cases hin : i < n
                  · obtain ⟨t, ht⟩ : ∃ t, ts[i]? = some t := ⟨ts[i]'(by have := HN.out; omega), List.getElem?_eq_some_iff.2 ⟨_, rfl⟩⟩
                    obtain ⟨b8, o8, u8, e8, hbs8, hcell8, hnods8⟩ := HA.out i t ht
                    simp only [Option.some.injEq, Addr.mk.injEq] at e8
                    obtain ⟨rfl, rfl, _⟩ := e8
                    have hci := (HOK9.out.2.cell (p := ⟨b, o + i, none⟩) hbs).trans hcell8
                    obtain ⟨g1, g2, g3⟩ := HR9.out.2 k x HX.out
                    obtain ⟨z, f, hlk⟩ : ∃ z f, lookP t x.1 = (z, f) := ⟨_, _, rfl⟩
                    have hrt := HRT.out t (by rw [← HTS.out]; exact List.mem_of_getElem? ht)
                    have htl := (HS.out.2 t (List.mem_of_getElem? ht)).1
                    obtain ⟨a8, c8, e8⟩ := hnods8.form
                    obtain ⟨l8, hl8⟩ : ∃ l8, l8 = t.length := ⟨_, rfl⟩
                    rw [← hl8] at e8
                    subst e8
                    have HC1 : Hid (∀ W, Below wr.heap.size wr W → Calls Tryd.prog 15 #[.slice a8 l8 c8, .string x.1] W fun e w' => e = .returned (.tuple #[.agg #[.string z.1, .int .i64 z.2.1, .string z.2.2], .bool f]) ∧ Below wr.heap.size wr w' ∧ (∀ g n, Blk W g n → Blk w' g n)) := fun W hW =>
                      (lookup_ok _ t x.1 z f w1 W (HOK9.out.next hW) (rooted_small hrt) ((hnods8.below HOK9.out.2).below hW) (by omega) hlk).mono fun e w' ⟨q1, q2, q3⟩ => ⟨q1, below_two hW q3, fun g n hb => hb.below q3⟩
                    have hii : (i : Int) < (n : Int) := by omega
                    have HIN9 : Hid (∀ (j : Nat) t', j < i + 1 → ts[j]? = some t' → x ∈ t' → (y || (f && decide (z = x))) = true) := in_step HI.out ht hlk (rooted_tree hrt).1
                    have HZX : Hid (f = true → z.1 = x.1) := fun hf => (look_some (lookP_true (by rw [hlk, hf])).2).2
                    have hbw : b < wr.heap.size := Nat.lt_of_lt_of_le hbs HOK9.out.2.size
                    have hb5w := HR9.out.1
                    clear ht hcell8 hnods8 hlk hrt hl8
                    have hS0 : Below wr.heap.size wr wr.drew := (Below.refl _ wr).drew
                    go_wp2
                    refine wp_region_held (S := fun w' => Below wr.heap.size wr w') (by kernel_rfl) ?_
                    change wpAnyH _ _ _ _ _ _ _ _ (World.drew _)
                    refine wpAnyH_take (i := 0) (v := (.slice (some ⟨b, o, none⟩) n c)) rfl (by kernel_rfl) (by kernel_rfl) (by kernel_rfl) (fun _ _ _ h => h) (Or.inl ⟨by rfl, ?_⟩) hS0 ?_
                    · intro w' hw'
                      go_simp
                    refine wpAnyH_take (i := 1) (v := (.int .i64 i)) rfl (by kernel_rfl) (by kernel_rfl) (by kernel_rfl) (fun _ _ _ h => h) (Or.inl ⟨by rfl, ?_⟩) hS0 ?_
                    · intro w' hw'
                      go_simp
                    refine wpAnyH_take (i := 2) (v := (.pointer (some ⟨b, o + i, none⟩))) rfl (by kernel_rfl) (by kernel_rfl) (by kernel_rfl) (fun _ _ _ h => h) (Or.inl ⟨by rfl, ?_⟩) hS0 ?_
                    · intro w' hw'
                      go_simp
                    refine wpAnyH_take (i := 3) (v := (.slice a8 l8 c8)) rfl (by kernel_rfl) (by kernel_rfl) (by kernel_rfl) (fun _ _ _ h => h) (Or.inl ⟨by rfl, ?_⟩) hS0 ?_
                    · intro w' hw'
                      have c1 := hw'.cell (p := ⟨b, o + i, none⟩) hbw
                      rw [hci] at c1
                      go_simp
                    refine wpAnyH_take (i := 4) (v := (.slice (some ⟨b5, o5, none⟩) la c5)) rfl (by kernel_rfl) (by kernel_rfl) (by kernel_rfl) (fun _ _ _ h => h) (Or.inl ⟨by rfl, ?_⟩) hS0 ?_
                    · intro w' hw'
                      go_simp
                    refine wpAnyH_take (i := 5) (v := (.int .i64 k)) rfl (by kernel_rfl) (by kernel_rfl) (by kernel_rfl) (fun _ _ _ h => h) (Or.inl ⟨by rfl, ?_⟩) hS0 ?_
                    · intro w' hw'
                      go_simp
                    refine wpAnyH_take (i := 6) (v := (.pointer (some ⟨b5, o5 + k * 3, none⟩))) rfl (by kernel_rfl) (by kernel_rfl) (by kernel_rfl) (fun _ _ _ h => h) (Or.inl ⟨by rfl, ?_⟩) hS0 ?_
                    · intro w' hw'
                      go_simp
                    refine wpAnyH_take (i := 7) (v := (.pointer (some ⟨b5, o5 + k * 3, none⟩))) rfl (by kernel_rfl) (by kernel_rfl) (by kernel_rfl) (fun _ _ _ h => h) (Or.inl ⟨by rfl, ?_⟩) hS0 ?_
                    · intro w' hw'
                      go_simp
                    refine wpAnyH_take (i := 8) (v := (.string x.1)) rfl (by kernel_rfl) (by kernel_rfl) (by kernel_rfl) (fun _ _ _ h => h) (Or.inl ⟨by rfl, ?_⟩) hS0 ?_
                    · intro w' hw'
                      have c1 := hw'.cell (p := ⟨b5, o5 + k * 3, none⟩) hb5w
                      rw [g1] at c1
                      go_simp
                    refine wpAnyH_ready (rs := [9, 13]) (by kernel_rfl) (by simp) (AllReadyH.cons rfl (fun K hK => ?_) (AllReadyH.cons rfl (fun K hK => ?_) AllReadyH.nil))
                    · go_simp
                      refine (HC1.out wr.drew hS0).mono ?_
                      rintro e w6 ⟨rfl, hS6, _⟩
                      refine hK.out _ _ hS6 (fun _ => ?_)
                      clear hK K
                      have hz6 : wr.heap.size ≤ w6.heap.size := hS6.size
                      refine wpAnyH_take (i := 10) (v := (.tuple #[.agg #[.string z.1, .int .i64 z.2.1, .string z.2.2], .bool f])) rfl (by kernel_rfl) (by kernel_rfl) (by kernel_rfl) (fun _ _ _ h => h) (Or.inl ⟨by rfl, ?_⟩) hS6 ?_
                      · intro w' hw'
                        go_simp
                      refine wpAnyH_take (i := 11) (v := (.agg #[.string z.1, .int .i64 z.2.1, .string z.2.2])) rfl (by kernel_rfl) (by kernel_rfl) (by kernel_rfl) (fun _ _ _ h => h) (Or.inl ⟨by rfl, ?_⟩) hS6 ?_
                      · intro w' hw'
                        go_simp
                      refine wpAnyH_take (i := 12) (v := (.bool f)) rfl (by kernel_rfl) (by kernel_rfl) (by kernel_rfl) (fun _ _ _ h => h) (Or.inl ⟨by rfl, ?_⟩) hS6 ?_
                      · intro w' hw'
                        go_simp
                      refine wpAnyH_ready (rs := [13]) (by kernel_rfl) (by simp) (AllReadyH.cons rfl (fun K hK => ?_) AllReadyH.nil)
                      go_simp
                      have hS7 : Below wr.heap.size wr (w6.alloc (.cells #[.string ⟨#[]⟩, .int .i64 0, .string ⟨#[]⟩] 37)) := hS6.trans ((below_box w6 _).mono hz6)
                      refine hK.out _ _ hS7 (fun _ => ?_)
                      clear hK K
                      obtain ⟨W7, hW7⟩ : ∃ W7, W7 = w6.alloc (.cells #[.string ⟨#[]⟩, .int .i64 0, .string ⟨#[]⟩] 37) := ⟨_, rfl⟩
                      have hK7 : Blk W7 w6.heap.size nd0 := by rw [hW7]; exact Blk.made w6 nd0
                      rw [← hW7] at hS7 ⊢
                      have hgz : wr.heap.size ≤ w6.heap.size := hz6
                      obtain ⟨gg, hgg⟩ : ∃ gg, gg = w6.heap.size := ⟨_, rfl⟩
                      rw [← hgg] at hK7 hgz ⊢
                      clear hW7 hgg hS6 hz6
                      obtain ⟨⟨c1, c2, c3⟩, ⟨f1, f2, f3⟩, _⟩ := hK7.facts
                      refine wpAnyH_ready (rs := [14]) (by kernel_rfl) (by simp) (AllReadyH.cons rfl (fun K hK => ?_) AllReadyH.nil)
                      go_simp
                      have hS8 := stored_below hS7 hgz z
                      refine hK.out _ _ hS8 (fun _ => ?_)
                      clear hK K
                      refine wpAnyH_ready (rs := [15]) (by kernel_rfl) (by simp) (AllReadyH.cons rfl (fun K hK => ?_) AllReadyH.nil)
                      go_simp
                      refine hK.out _ _ hS8 (fun _ => ?_)
                      clear hK K
                      refine wpAnyH_done (by kernel_rfl) ?_ _
                      obtain ⟨W8, hW8⟩ : ∃ W8, W8 = (((W7.setCell ⟨gg, 0, none⟩ (.string z.1)).setCell ⟨gg, 1, none⟩ (.int .i64 z.2.1)).setCell ⟨gg, 2, none⟩ (.string z.2.2)) := ⟨_, rfl⟩
                      have hK8 : Blk W8 gg z := by rw [hW8]; exact hK7.stored z
                      rw [← hW8] at hS8 ⊢
                      have ok8 := HOK9.out.next hS8
                      have HR8' := hide (HR9.out.below hS8 hb5w)
                      obtain ⟨⟨x1, x2, x3⟩, _, hbx⟩ := hK8.facts
                      obtain ⟨y1, y2, y3⟩ := HR8'.out.2 k x HX.out
                      clear c1 c2 c3 f1 f2 f3 hS7 hK7 hW8 hK8 hS0 HC1 g1 g2 g3 hci
                      cases y with
                      | true =>
                        go_wp2
                        go_quiet (fail)
                        have okQ := ok8.next (below_drewN (Below.refl _ W8) nq)
                        have HRQ := hide (HR8'.out.below (below_drewN (Below.refl _ W8) nq) HR8'.out.1)
                        clear x1 x2 x3 y1 y2 y3
                        go_wp2
                        go_roundw
                        case rel => exact ⟨i + 1, true, by omega, by go_num, rfl, fun _ _ _ _ _ => rfl, okQ, HRQ⟩
                        case measure => simp [intOf]; omega
                      | false =>
                        cases f with
                        | false =>
                          go_wp2
                          go_quiet (fail)
                          have okQ := ok8.next (below_drewN (Below.refl _ W8) nq)
                          have HRQ := hide (HR8'.out.below (below_drewN (Below.refl _ W8) nq) HR8'.out.1)
                          clear x1 x2 x3 y1 y2 y3
                          go_wp2
                          go_roundw
                          case rel => exact ⟨i + 1, false, by omega, by go_num, rfl, hide (by simpa using HIN9.out), okQ, HRQ⟩
                          case measure => simp [intOf]; omega
                        | true =>
                          by_cases hzx : z = x
                          · subst hzx
                            have heq := fun w => eql_nodeF z z w
                            rw [decide_eq_true rfl] at heq
                            go_wp2
                            go_quiet (fail)
                            have okQ := ok8.next (below_drewN (Below.refl _ W8) nq)
                            have HRQ := hide (HR8'.out.below (below_drewN (Below.refl _ W8) nq) HR8'.out.1)
                            clear x1 x2 x3 y1 y2 y3 heq
                            go_wp2
                            go_roundw
                            case rel => exact ⟨i + 1, true, by omega, by go_num, rfl, fun _ _ _ _ _ => rfl, okQ, HRQ⟩
                            case measure => simp [intOf]; omega
                          · have heq := fun w => eql_nodeF z x w
                            rw [decide_eq_false hzx] at heq
                            have HNE := hide hzx
                            clear hzx
                            go_wp2
                            go_quiet (fail)
                            have okQ := ok8.next (below_drewN (Below.refl _ W8) nq)
                            have HRQ := hide (HR8'.out.below (below_drewN (Below.refl _ W8) nq) HR8'.out.1)
                            clear x1 x2 x3 y1 y2 y3 heq
                            go_wp2
                            go_roundw
                            case rel => exact ⟨i + 1, false, by omega, by go_num, rfl, hide (by have h1 := HIN9.out; rw [decide_eq_false HNE.out] at h1; simpa using h1), okQ, HRQ⟩
                            case measure => simp [intOf]; omega
                    · go_simp
                      have hS6 : Below wr.heap.size wr (wr.drew.alloc (.cells #[.string ⟨#[]⟩, .int .i64 0, .string ⟨#[]⟩] 37)) := hS0.trans ((below_box wr.drew _).mono (Nat.le_refl _))
                      refine hK.out _ _ hS6 (fun _ => ?_)
                      clear hK K
                      refine wpAnyH_ready (rs := [9]) (by kernel_rfl) (by simp) (AllReadyH.cons rfl (fun K hK => ?_) AllReadyH.nil)
                      go_simp
                      refine (HC1.out _ hS6).mono ?_
                      rintro e W7 ⟨rfl, hS7, hkeep⟩
                      have hK7 : Blk W7 wr.heap.size nd0 := hkeep wr.heap.size nd0 (Blk.made wr.drew nd0)
                      refine hK.out _ _ hS7 (fun _ => ?_)
                      clear hK K hS6 hkeep
                      refine wpAnyH_take (i := 10) (v := (.tuple #[.agg #[.string z.1, .int .i64 z.2.1, .string z.2.2], .bool f])) rfl (by kernel_rfl) (by kernel_rfl) (by kernel_rfl) (fun _ _ _ h => h) (Or.inl ⟨by rfl, ?_⟩) hS7 ?_
                      · intro w' hw'
                        go_simp
                      refine wpAnyH_take (i := 11) (v := (.agg #[.string z.1, .int .i64 z.2.1, .string z.2.2])) rfl (by kernel_rfl) (by kernel_rfl) (by kernel_rfl) (fun _ _ _ h => h) (Or.inl ⟨by rfl, ?_⟩) hS7 ?_
                      · intro w' hw'
                        go_simp
                      refine wpAnyH_take (i := 12) (v := (.bool f)) rfl (by kernel_rfl) (by kernel_rfl) (by kernel_rfl) (fun _ _ _ h => h) (Or.inl ⟨by rfl, ?_⟩) hS7 ?_
                      · intro w' hw'
                        go_simp
                      have hgz : wr.heap.size ≤ wr.heap.size := Nat.le_refl _
                      obtain ⟨⟨c1, c2, c3⟩, ⟨f1, f2, f3⟩, _⟩ := hK7.facts
                      refine wpAnyH_ready (rs := [14]) (by kernel_rfl) (by simp) (AllReadyH.cons rfl (fun K hK => ?_) AllReadyH.nil)
                      go_simp
                      have hS8 := stored_below hS7 hgz z
                      refine hK.out _ _ hS8 (fun _ => ?_)
                      clear hK K
                      refine wpAnyH_ready (rs := [15]) (by kernel_rfl) (by simp) (AllReadyH.cons rfl (fun K hK => ?_) AllReadyH.nil)
                      go_simp
                      refine hK.out _ _ hS8 (fun _ => ?_)
                      clear hK K
                      refine wpAnyH_done (by kernel_rfl) ?_ _
                      obtain ⟨W8, hW8⟩ : ∃ W8, W8 = (((W7.setCell ⟨wr.heap.size, 0, none⟩ (.string z.1)).setCell ⟨wr.heap.size, 1, none⟩ (.int .i64 z.2.1)).setCell ⟨wr.heap.size, 2, none⟩ (.string z.2.2)) := ⟨_, rfl⟩
                      have hK8 : Blk W8 wr.heap.size z := by rw [hW8]; exact hK7.stored z
                      rw [← hW8] at hS8 ⊢
                      have ok8 := HOK9.out.next hS8
                      have HR8' := hide (HR9.out.below hS8 hb5w)
                      obtain ⟨⟨x1, x2, x3⟩, _, hbx⟩ := hK8.facts
                      obtain ⟨y1, y2, y3⟩ := HR8'.out.2 k x HX.out
                      clear c1 c2 c3 f1 f2 f3 hS7 hK7 hW8 hK8 hS0 HC1 g1 g2 g3 hci
                      cases y with
                      | true =>
                        go_wp2
                        go_quiet (fail)
                        have okQ := ok8.next (below_drewN (Below.refl _ W8) nq)
                        have HRQ := hide (HR8'.out.below (below_drewN (Below.refl _ W8) nq) HR8'.out.1)
                        clear x1 x2 x3 y1 y2 y3
                        go_wp2
                        go_roundw
                        case rel => exact ⟨i + 1, true, by omega, by go_num, rfl, fun _ _ _ _ _ => rfl, okQ, HRQ⟩
                        case measure => simp [intOf]; omega
                      | false =>
                        cases f with
                        | false =>
                          go_wp2
                          go_quiet (fail)
                          have okQ := ok8.next (below_drewN (Below.refl _ W8) nq)
                          have HRQ := hide (HR8'.out.below (below_drewN (Below.refl _ W8) nq) HR8'.out.1)
                          clear x1 x2 x3 y1 y2 y3
                          go_wp2
                          go_roundw
                          case rel => exact ⟨i + 1, false, by omega, by go_num, rfl, hide (by simpa using HIN9.out), okQ, HRQ⟩
                          case measure => simp [intOf]; omega
                        | true =>
                          by_cases hzx : z = x
                          · subst hzx
                            have heq := fun w => eql_nodeF z z w
                            rw [decide_eq_true rfl] at heq
                            go_wp2
                            go_quiet (fail)
                            have okQ := ok8.next (below_drewN (Below.refl _ W8) nq)
                            have HRQ := hide (HR8'.out.below (below_drewN (Below.refl _ W8) nq) HR8'.out.1)
                            clear x1 x2 x3 y1 y2 y3 heq
                            go_wp2
                            go_roundw
                            case rel => exact ⟨i + 1, true, by omega, by go_num, rfl, fun _ _ _ _ _ => rfl, okQ, HRQ⟩
                            case measure => simp [intOf]; omega
                          · have heq := fun w => eql_nodeF z x w
                            rw [decide_eq_false hzx] at heq
                            have HNE := hide hzx
                            clear hzx
                            go_wp2
                            go_quiet (fail)
                            have okQ := ok8.next (below_drewN (Below.refl _ W8) nq)
                            have HRQ := hide (HR8'.out.below (below_drewN (Below.refl _ W8) nq) HR8'.out.1)
                            clear x1 x2 x3 y1 y2 y3 heq
                            go_wp2
                            go_roundw
                            case rel => exact ⟨i + 1, false, by omega, by go_num, rfl, hide (by have h1 := HIN9.out; rw [decide_eq_false HNE.out] at h1; simpa using h1), okQ, HRQ⟩
                            case measure => simp [intOf]; omega
                  · have hid : decide ((i : Int) < (n : Int)) = false := by simp; omega
                    have hyt : y = true := by
                      obtain ⟨t, ht, hxt⟩ := HOF.out x (List.mem_of_getElem? HX.out)
                      rw [← HTS.out] at ht
                      obtain ⟨j, hj⟩ := List.mem_iff_getElem?.1 ht
                      have hjl := (List.getElem?_eq_some_iff.1 hj).1
                      exact HI.out j t (by have := HN.out; omega) hj hxt
                    subst hyt
                    go_wp2
                    go_roundw
                    case rel => exact ⟨k + 1, by omega, by go_num, HOK9, HR9⟩
                    case measure => simp [intOf]; omega
              · have hkd : decide ((k : Int) < (la : Int)) = false := by simp; omega
                have hc0 := (HOK8.out.2.cell (p := ⟨b, o, none⟩) hbs).trans HC.out
                have hbw : b < wr.heap.size := Nat.lt_of_lt_of_le hbs HOK8.out.2.size
                have hS0 : Below wr.heap.size wr wr.drew := (Below.refl _ wr).drew
                go_wp2
                refine wp_region_held (S := fun w' => Below wr.heap.size wr w') (by kernel_rfl) ?_
                change wpAnyH _ _ _ _ _ _ _ _ (World.drew _)
                refine wpAnyH_take (i := 0) (v := (.slice (some ⟨b, o, none⟩) n c)) rfl (by kernel_rfl) (by kernel_rfl) (by kernel_rfl) (fun _ _ _ h => h) (Or.inl ⟨by rfl, ?_⟩) hS0 ?_
                · intro w' hw'
                  go_simp
                refine wpAnyH_take (i := 1) (v := (.pointer (some ⟨b, o, none⟩))) rfl (by kernel_rfl) (by kernel_rfl) (by kernel_rfl) (fun _ _ _ h => h) (Or.inl ⟨by rfl, ?_⟩) hS0 ?_
                · intro w' hw'
                  go_simp
                refine wpAnyH_take (i := 2) (v := (.slice a2 q c2)) rfl (by kernel_rfl) (by kernel_rfl) (by kernel_rfl) (fun _ _ _ h => h) (Or.inl ⟨by rfl, ?_⟩) hS0 ?_
                · intro w' hw'
                  have c1 := hw'.cell (p := ⟨b, o, none⟩) hbw
                  rw [hc0] at c1
                  go_simp
                refine wpAnyH_take (i := 3) (v := (.slice (some ⟨b, o, none⟩) n c)) rfl (by kernel_rfl) (by kernel_rfl) (by kernel_rfl) (fun _ _ _ h => h) (Or.inl ⟨by rfl, ?_⟩) hS0 ?_
                · intro w' hw'
                  go_simp
                refine wpAnyH_take (i := 4) (v := (.pointer (some ⟨b, o, none⟩))) rfl (by kernel_rfl) (by kernel_rfl) (by kernel_rfl) (fun _ _ _ h => h) (Or.inl ⟨by rfl, ?_⟩) hS0 ?_
                · intro w' hw'
                  go_simp
                refine wpAnyH_take (i := 5) (v := (.slice a2 q c2)) rfl (by kernel_rfl) (by kernel_rfl) (by kernel_rfl) (fun _ _ _ h => h) (Or.inl ⟨by rfl, ?_⟩) hS0 ?_
                · intro w' hw'
                  have c1 := hw'.cell (p := ⟨b, o, none⟩) hbw
                  rw [hc0] at c1
                  go_simp
                refine wpAnyH_ready (rs := [6]) (by kernel_rfl) (by simp) (AllReadyH.cons rfl (fun K hK => ?_) AllReadyH.nil)
                go_simp
                have hS6 : Below wr.heap.size wr (wr.drew.alloc (.cells #[.slice a2 q c2, .slice a2 q c2] 25)) := hS0.trans ((below_box wr.drew _).mono (Nat.le_refl _))
                refine hK.out _ _ hS6 (fun _ => ?_)
                clear hK K
                have hNT : Nods wr.drew (.slice a2 q c2) t0 := (HN0.out.below HOK8.out.2).below hS0
                refine wpAnyH_ready (rs := [7]) (by kernel_rfl) (by simp) (AllReadyH.cons rfl (fun K hK => ?_) AllReadyH.nil)
                go_simp
                refine (of_ok 0 _ [t0, t0] w1 _ (HOK8.out.next hS6) (Trs.two hNT hNT) (fun t ht => HS.out.size t (by rw [HTS.out]; simp at ht; simp [ht])) (by simp) (by simp; have := HQ.out; omega)).mono ?_
                rintro e w7 ⟨vb, bs, f1, rfl, hob, hub, ok7, hb7⟩
                obtain ⟨rfl, rfl⟩ := twice_fact (.inl rfl) (HRT.out t0 (by simp)) (by have := HQ.out; omega) hub
                have hS7 : Below wr.heap.size wr w7 := below_two hS6 hb7
                obtain ⟨a9, c9, e9⟩ := hob.form
                rw [← HQ.out] at e9
                subst e9
                have HOB := hide hob
                refine hK.out _ _ hS7 (fun _ => ?_)
                clear hK K hub hob hb7 hS6 hNT
                refine wpAnyH_take (i := 8) (v := (.tuple #[.slice a9 q c9, .int .i64 0])) rfl (by kernel_rfl) (by kernel_rfl) (by kernel_rfl) (fun _ _ _ h => h) (Or.inl ⟨by rfl, ?_⟩) hS7 ?_
                · intro w' hw'
                  go_simp
                refine wpAnyH_take (i := 9) (v := (.slice a9 q c9)) rfl (by kernel_rfl) (by kernel_rfl) (by kernel_rfl) (fun _ _ _ h => h) (Or.inl ⟨by rfl, ?_⟩) hS7 ?_
                · intro w' hw'
                  go_simp
                refine wpAnyH_take (i := 10) (v := (.int .i64 0)) rfl (by kernel_rfl) (by kernel_rfl) (by kernel_rfl) (fun _ _ _ h => h) (Or.inl ⟨by rfl, ?_⟩) hS7 ?_
                · intro w' hw'
                  go_simp
                refine wpAnyH_ready (rs := [11]) (by kernel_rfl) (by simp) (AllReadyH.cons rfl (fun K hK => ?_) AllReadyH.nil)
                go_simp
                refine hK.out _ _ hS7 (fun _ => ?_)
                clear hK K
                refine wpAnyH_ready (rs := [12]) (by kernel_rfl) (by simp) (AllReadyH.cons rfl (fun K hK => ?_) AllReadyH.nil)
                go_simp
                refine hK.out _ _ hS7 (fun _ => ?_)
                clear hK K
                refine wpAnyH_done (by kernel_rfl) ?_ _
                have HNA7 : Hid (Nods w7 (.slice (some ⟨b5, o5, none⟩) la c5) a) := by
                  have h1 := (HR8.out.below hS7 HR8.out.1).nods (c := c5) (by have := HLA.out; omega)
                  rw [← HLA.out] at h1
                  exact h1
                have HT2 := hide (Trs.two HNA7.out HNA7.out)
                clear hS0 hc0 hbw
                go_wp2_with fail
                refine (of_ok 1 _ [a, a] w1 _ (ok7.alloc _) HT2.out (fun t ht => by simp at ht; rw [ht]; exact rooted_small HRA.out) (by simp) (by simp; have := HLA.out; omega)).mono ?_
                rintro e w8 ⟨vc, cs, g1, rfl, hoc, huc, ok8, hb8⟩
                obtain ⟨rfl, rfl⟩ := twice_fact (.inr rfl) HRA.out (by have := HLA.out; omega) huc
                have hb8' := below_two (below_alloc w7 (.cells #[.slice (some ⟨b5, o5, none⟩) la c5, .slice (some ⟨b5, o5, none⟩) la c5] 25)) hb8
                have HNB8 := hide ((HOB.out.nods).below hb8')
                have HNA8 := hide (HNA7.out.below hb8')
                have HNC8 := hide hoc.nods
                have HNT8 := hide (HN0.out.below ok8.2)
                have hc8 := (ok8.2.cell (p := ⟨b, o, none⟩) hbs).trans HC.out
                clear hoc huc hb8 hb8' HNA7 HOB HT2
                go_wp2_with fail
                refine (sameN_any _ _ bs bs w8 HNB8.out HNT8.out (by have := HQ.out; omega)).mono ?_
                rintro e w9 ⟨rfl, hb9⟩
                rw [show decide (bs = bs) = true from by simp]
                have ok9 := ok8.next hb9
                have HNA9 := hide (HNA8.out.below hb9)
                have HNC9 := hide (HNC8.out.below hb9)
                clear hb9 HNA8 HNC8 HNT8 HNB8 hc8
                go_wp2_with fail
                refine (sameN_any _ _ cs cs w9 HNC9.out HNA9.out (by have := HLA.out; omega)).mono ?_
                rintro e w10 ⟨rfl, hb10⟩
                rw [show decide (cs = cs) = true from by simp]
                have ok10 := ok9.next hb10
                clear hb10 HNA9 HNC9
                go_wp2_with fail
                refine (awake4_ok w1 w10 ok10).mono ?_
                rintro e w11 ⟨rfl, ok11, hb11⟩
                go_wp2
                go_ret
                exact ⟨rfl, ok11.2⟩
      · obtain ⟨rfl, rfl⟩ := he h0
        obtain ⟨a5, c5, e5⟩ := HOA.out.form
        subst e5
        go_wp2_with fail
        refine (awake4_ok w1 w2 ok2).mono ?_
        rintro e w5 ⟨rfl, ok5, hb5⟩
        go_wp2
        go_ret
        exact ⟨rfl, ok5.2⟩
end Go.Proofs.YteablfekfijnhaaDoor
