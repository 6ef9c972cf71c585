/- The walk of SumParts. -/
import Derived.Test.YtbdnkgmpklpegaaZ3
namespace Go.Proofs.Ytbdnkgmpklpegaa
open Go.RowKit

theorem flat_step {ls : List (List UInt8)} {k : Nat} {l : List UInt8} (h : ls[k]? = some l) : (ls.take k).flatten ++ l = (ls.take (k + 1)).flatten := by
  obtain ⟨h1, rfl⟩ := List.getElem?_eq_some_iff.1 h
  rw [List.take_succ_eq_append_getElem h1, List.flatten_append]
  simp
theorem small_step {ls : List (List UInt8)} {k m : Nat} {l : List UInt8} (h : ls[k]? = some l) (hl : l.length ≤ m) (hk : ∀ x ∈ ls.take k, x.length ≤ m) : ∀ x ∈ ls.take (k + 1), x.length ≤ m := by
  obtain ⟨h1, rfl⟩ := List.getElem?_eq_some_iff.1 h
  rw [List.take_succ_eq_append_getElem h1]
  intro x hx
  rcases List.mem_append.1 hx with h2 | h2
  · exact hk x h2
  · simp at h2
    rw [h2]; exact hl

set_option maxRecDepth 100000 in
set_option maxHeartbeats 400000 in
theorem parts_walk (ao : Option Addr) (n c : Nat) (ls : List (List UInt8)) (w : World) (h : ArgP w ao n c ls) :
    Calls Try.prog 4 #[.slice ao n c] w fun e w' => e = .returned (.bool true) ∧ Below w.heap.size w w' := by
  have HA := hide h
  have HN := hide h.len
  clear h
  go_enter Try.func4, Try.ntmps4
  by_cases h10 : 10 < n
  · have h10' : (10 : Int) < (n : Int) := by omega
    go_wp2_with fail
    refine (awake6_ok w).mono ?_
    rintro e w1 ⟨rfl, hb1⟩
    go_wp2
    go_ret
    exact ⟨rfl, hb1⟩
  · have h10' : (n : Int) ≤ 10 := by omega
    go_wp2_with fail
    refine (of_ok none 0 0 [] 14695981039346656037 _ (ArgP.nil _) (by decide) (by simp) rfl).mono ?_
    rintro e w1 ⟨rfl, rfl⟩
    go_wp2
    go_loopw [3, 4, 5] (fun s t i wr => ∃ (k y q : Nat) (b' : Option Addr) (c' : Nat), k ≤ n ∧ q ≤ 60 * k ∧ i = .int .i64 k ∧ t = .int .u64 y ∧ s = .slice b' q c' ∧ Hid (OwnB w1.heap.size wr (.slice b' q c') (ls.take k).flatten) ∧ Hid (y = ofH (ls.take k).flatten) ∧ Hid (∀ x ∈ ls.take k, x.length ≤ 60) ∧ Below w1.heap.size w1 wr) (fun _ _ i _ => n - (intOf i).toNat)
    case atStart => exact ⟨0, 14695981039346656037, 0, none, 0, Nat.zero_le _, by omega, rfl, rfl, rfl, OwnB.nil _ _, rfl, by simp [Hid], Below.refl _ _⟩
    case round =>
      obtain ⟨k, y, q, b', c', hk, hq, rfl, rfl, rfl, HO, HY, HS, hbl⟩ := hrel
      have HQ := hide HO.out.argAt.1
      by_cases hlt : k < n
      · obtain ⟨b, o, rfl, hbo⟩ := HA.out.plain (by omega)
        obtain ⟨l, hl⟩ : ∃ l, ls[k]? = some l := ⟨ls[k]'(by have := HN.out; omega), List.getElem?_eq_some_iff.2 ⟨_, rfl⟩⟩
        obtain ⟨bo, m, d, g0, hb⟩ := HA.out.at hl
        have g1 := (hbl.cell (p := ⟨b, o + k, none⟩) hbo).trans g0
        have G0 := hide g0
        have hki : (k : Int) < (n : Int) := by omega
        have HL := hide hl
        have HB0 := hide hb
        have HB := hide (hb.below hbl)
        have HM := hide hb.len
        clear hl hb g0
        by_cases h60 : 60 < m
        · have h60' : (60 : Int) < (m : Int) := by omega
          go_wp2_with fail
          refine (awake6_ok wr).mono ?_
          rintro e w2 ⟨rfl, hb2⟩
          have HB2 := hide (below_two hbl hb2)
          clear hb2
          go_wp2
          go_ret
          exact ⟨rfl, HB2.out⟩
        · have h60' : (m : Int) ≤ 60 := by omega
          have hbw : w1.heap.size ≤ wr.heap.size := hbl.size
          obtain ⟨zs, hzs⟩ : ∃ zs, zs = (ls.take (k + 1)).flatten := ⟨_, rfl⟩
          obtain ⟨xs, hxs⟩ : ∃ xs, xs = (ls.take k).flatten := ⟨_, rfl⟩
          rw [← hxs] at HO HY HQ
          have HZ : Hid (xs ++ l = zs) := by rw [hxs, hzs]; exact flat_step HL.out
          have HZS := hide hzs
          have hy64 : y < 18446744073709551616 := by rw [HY.out]; exact ofH_lt _
          clear hzs hxs
          go_wp2_with (at_builtin; refine wpList_append_bytes rfl _ _ rfl w1.heap.size _ xs rfl HO.out _ _ _ l rfl HB.out q HQ.out.symm zs HZ.out ?c1 hbw ?_)
          case c1 => omega
          intro b2 c2 w2 ho2 hl2
          have hb2 := hbl.trans (hl2.below HO.out hbw)
          have g2 := (hb2.cell (p := ⟨b, o + k, none⟩) hbo).trans G0.out
          have HB2 := hide (HB0.out.below hb2)
          have HO2 := hide ho2
          clear ho2 hl2 g1
          go_wp2
          go_loopw [4, 6] (fun s i wq => ∃ j z : Nat, j ≤ m ∧ i = .int .i64 j ∧ s = .int .u64 z ∧ Hid (z = sumH y (l.take j)) ∧ wq = w2) (fun _ i _ => m - (intOf i).toNat)
          case atStart => exact ⟨0, y, Nat.zero_le _, rfl, rfl, rfl, rfl⟩
          case round =>
            obtain ⟨j, z, hj, rfl, rfl, hz, rfl⟩ := hrel
            by_cases hjm : j < m
            · obtain ⟨b3, o3, rfl, _⟩ := HB2.out.plain (by omega)
              obtain ⟨x, hx⟩ : ∃ x, l[j]? = some x := ⟨l[j]'(by have := HM.out; omega), List.getElem?_eq_some_iff.2 ⟨_, rfl⟩⟩
              have f1 := HB2.out.at hx
              have hji : (j : Int) < (m : Int) := by omega
              have HX := hide hx
              clear hx
              go_wp2_with fail
              refine (next_any z x _ (by rw [hz.out]; exact sumH_lt _ hy64)).mono ?_
              rintro e w4 ⟨rfl, rfl⟩
              go_wp2
              go_roundw
              case rel => exact ⟨j + 1, nextH z x, by omega, by go_num, rfl, by rw [hz.out]; exact (sumH_step HX.out).symm, trivial⟩
              case measure => simp [intOf]; omega
            · go_wp2
              go_roundw
              case rel =>
                refine ⟨k + 1, z, q + m, b2, c2, by omega, by omega, by go_num, rfl, rfl, by rw [← HZS.out]; exact HO2, ?_, small_step HL.out (by rw [HM.out]; omega) HS.out, hb2⟩
                have e : j = m := by omega
                rw [hz.out, e, ← HM.out, List.take_length, HY.out, ← HZS.out, ← HZ.out]
                exact (sumH_app _ _ _).symm
              case measure => simp [intOf]; omega
      · have ekn : k = n := by omega
        have efl : ls.take k = ls := by rw [ekn, ← HN.out, List.take_length]
        rw [efl] at HO HY HS HQ
        have hki : ¬ (k : Int) < (n : Int) := by omega
        have HOF : Hid (ofH ls.flatten = y) := HY.out.symm
        have hy64 : y < 18446744073709551616 := by rw [HY.out]; exact ofH_lt _
        obtain ⟨xs, hxs⟩ : ∃ xs, xs = ls.flatten := ⟨_, rfl⟩
        rw [← hxs] at HO HQ HY
        clear hxs efl ekn
        have h600 : q ≤ 600 := by omega
        have HAB := hide HO.out.argAt.2
        have HW1 := hide (ArgP.one HAB.out)
        have hbx := below_alloc wr (.cells #[.slice b' q c'] 22)
        have HAB1 := hide (HAB.out.below hbx)
        have HW2 : Hid (ArgP ((wr.alloc (.cells #[.slice b' q c'] 22)).alloc (.cells #[.slice b' q c'] 22)) (some ⟨wr.heap.size + 1, 0, none⟩) 1 1 [xs]) := by
          have h := ArgP.one HAB1.out
          rw [show (wr.alloc (.cells #[.slice b' q c'] 22)).heap.size = wr.heap.size + 1 by simp] at h
          exact h
        have hby := below_alloc (wr.alloc (.cells #[.slice b' q c'] 22)) (.cells #[.slice b' q c'] 22)
        have hstr := str_bytes (HAB1.out.below hby)
        have HBZ := hide (below_two hbl (below_two hbx hby))
        obtain ⟨t, ht⟩ : ∃ t, Hog.mk (hexL y) = t := ⟨_, rfl⟩
        have HT := hide ht
        clear hbx hby ht
        go_wp2_with fail
        refine (of_ok ao n c ls y wr (HA.out.below hbl) (by omega) (fun l hl => by have := HS.out l hl; omega) HOF.out).mono ?_
        rintro e w2 ⟨rfl, rfl⟩
        go_wp2_with fail
        refine (of_ok _ 1 1 [xs] y _ HW1.out (by decide) (by intro l hl; simp at hl; subst hl; rw [← HQ.out]; omega) (by simp; exact HY.out.symm)).mono ?_
        rintro e w3 ⟨rfl, rfl⟩
        go_wp2_with fail
        refine (of_ok _ 1 1 [xs] y _ HW2.out (by decide) (by intro l hl; simp at hl; subst hl; rw [← HQ.out]; omega) (by simp; exact HY.out.symm)).mono ?_
        rintro e w4 ⟨rfl, rfl⟩
        go_wp2_with fail
        refine (digest_ok (Hog.mk xs) t _ (by rw [Hog.mk_size, ← HQ.out]; omega) (by rw [Hog.mk_data, ← HY.out]; exact HT.out)).mono ?_
        rintro e w5 ⟨rfl, hb5⟩
        have HB5 := hide (below_two HBZ.out hb5)
        clear hb5
        go_wp2_with fail
        refine (hexS y t HT.out _ hy64).mono ?_
        rintro e w6 ⟨rfl, hb6⟩
        have HB6 := hide (below_two HB5.out hb6)
        clear hb6
        go_wp2_with fail
        refine (awake6_ok _).mono ?_
        rintro e w7 ⟨rfl, hb7⟩
        have HB7 := hide (below_two HB6.out hb7)
        clear hb7
        go_wp2
        go_ret
        exact ⟨rfl, HB7.out⟩
end Go.Proofs.Ytbdnkgmpklpegaa
