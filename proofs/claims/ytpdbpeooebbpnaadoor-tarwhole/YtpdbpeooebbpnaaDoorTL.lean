/- The walk of TarWhole. -/
import Derived.Test.YtpdbpeooebbpnaaDoorTI
import Derived.Test.YtpdbpeooebbpnaaDoorTK
import Derived.Test.YtpdbpeooebbpnaaDoorPlainTar
import Derived.Test.YtpdbpeooebbpnaaDoorHJ
namespace Go.Proofs.YtpdbpeooebbpnaaDoor
open Go.RowKit

set_option maxRecDepth 100000 in
set_option maxHeartbeats 8000000 in
theorem whole_walk (ao : Option Addr) (n c : Nat) (t : List Nd) (w : World) (hsh : w.ShapedOpen Tryd.prog) (hp : Pow w) (ha : ArgN w ao n c t) (hn : n ≤ maxLen) :
    Calls Tryd.prog 4 #[.slice ao n c] w fun e w' => e = .returned (.bool true) ∧ Below w.heap.size w w' := by
  have ok := Ok.start hsh
  have HP := hide hp
  have HND := hide ha.nods
  have HL := hide ha.len
  have hn' : t.length ≤ maxLen := by rw [ha.len]; exact hn
  obtain ⟨y, hy⟩ : ∃ y, greatN 30 t = y := ⟨_, rfl⟩
  have HY := hide hy
  clear ha hy hsh hp
  go_enter Tryd.func4, Tryd.ntmps4
  go_wp2_with fail
  refine (greatN_ok _ 30 t y w HND.out hn' (by decide) (by decide) HY.out).mono ?_
  rintro e w1 ⟨rfl, rfl⟩
  cases y with
  | true =>
    go_wp2_with fail
    refine (awake13_ok w1 w1 HP.out ok).mono ?_
    rintro e w2 ⟨rfl, ok2, hb2⟩
    go_wp2
    go_ret
    exact ⟨rfl, hb2⟩
  | false =>
    have HS := hide (short_of (by decide) HY.out)
    obtain ⟨x, hx⟩ : ∃ x, mayN t = x := ⟨_, rfl⟩
    have HX := hide hx
    clear hx
    cases x with
    | false =>
      go_wp2_with fail
      refine (tlay_bad _ t w1 w1 ok HND.out HS.out HX.out).mono ?_
      rintro e w2 ⟨rfl, ok2, hb2⟩
      have HB2 := hide hb2
      clear hb2
      go_wp2_with fail
      refine (mayT_ok _ t false w1 w2 ok2 HS.out.path (HND.out.below HB2.out) (by have := HS.out.1; omega) HX.out).mono ?_
      rintro e w3 ⟨rfl, ok3, hb3⟩
      have HB3 := hide (below_two HB2.out hb3)
      clear hb3
      go_wp2_with fail
      refine (entries_bad _ t w1 w3 ok3 (HND.out.below HB3.out) HS.out HX.out).mono ?_
      rintro e w4 ⟨rfl, ok4, hb4⟩
      have HB4 := hide (below_two HB3.out hb4)
      clear hb4
      go_wp2_with fail
      refine (awake13_ok w1 w4 HP.out ok4).mono ?_
      rintro e w5 ⟨rfl, ok5, hb5⟩
      have HB5 := hide (below_two HB4.out hb5)
      clear hb5
      go_wp2
      go_ret
      exact ⟨rfl, HB5.out⟩
    | true =>
      obtain ⟨z, hz⟩ : ∃ z, Hog.tarL t = z := ⟨_, rfl⟩
      obtain ⟨m, hm⟩ : ∃ m, z.length = m := ⟨_, rfl⟩
      have HZ := hide hz
      have HM := hide hm
      have HG := hide (Hog.tree_node HX.out)
      have hm512 : m % 512 = 0 := by rw [← hm, ← hz]; exact Hog.tarL_mod HG.out
      have hmle : m ≤ 1300000 := by rw [← hm, ← hz]; exact tarL_le HX.out
      have hm15 : 1536 ≤ m := by
        rcases Hog.state_next (Hog.state_start t) (Nat.zero_le _) with ⟨h0, _⟩ | ⟨x, hx, ⟨R, h1, h2, _⟩ | ⟨R, h1, h2, _⟩⟩
        · exact absurd (List.eq_nil_of_length_eq_zero h0.symm) (tree_ne HX.out)
        · have h3 := (Hog.entry_here (Hog.entE_fits (HG.out x (List.mem_of_getElem? hx))) h1 h2).2.1
          have h4 := Hog.entL_len (Hog.entE_fits (HG.out x (List.mem_of_getElem? hx)))
          rw [hz, hm] at h3
          omega
        · have hf := Hog.paxE_fits (Hog.recsE_len (Hog.entE_fits (HG.out x (List.mem_of_getElem? hx))))
          have h3 := (Hog.entry_here hf h1 h2).2.1
          have h4 := Hog.entL_len hf
          rw [hz, hm] at h3
          omega
      clear hz hm
      have hn30 : n ≤ 30 := by have := (greatN_not HY.out).1; have := HL.out; omega
      rcases id HND.out with ⟨e, _⟩ | ⟨b, o, c', e, hcc, hr⟩
      · exact absurd e (tree_ne HX.out)
      obtain ⟨rfl, hnt, rfl⟩ : ao = some ⟨b, o, none⟩ ∧ n = t.length ∧ c = c' := by simpa using e
      have HR := hide hr
      clear e hcc hr hnt
      go_wp2_with fail
      refine (tlay_good _ t z m w1 w1 HP.out ok HND.out HS.out HX.out HZ.out HM.out).mono ?_
      rintro e w2 ⟨b2, c2, rfl, ho2, ok2, hb2⟩
      have HA2 := hide ho2.argAt.2
      have HB2 := hide hb2
      clear ho2 hb2
      go_wp2_with fail
      refine (mayT_ok _ t true w1 w2 ok2 HS.out.path (HND.out.below HB2.out) (by have := HS.out.1; omega) HX.out).mono ?_
      rintro e w3 ⟨rfl, ok3, hb3⟩
      have HA3 := hide (HA2.out.below hb3)
      have HB3 := hide (below_two HB2.out hb3)
      clear hb3 HA2 HB2 ok2
      obtain ⟨bb, oo, rfl, hbb⟩ := HA3.out.plain (by omega)
      have HR3 := hide (HR.out.below HB3.out HR.out.1)
      have hcap := HA3.out.cap
      have d1 : ((m : Int).tmod 512 != 0) = false := by
        rw [Int.tmod_eq_emod_of_nonneg (by omega)]
        simp
        omega
      have d2 : ¬ ((m : Int) < 1536) := by omega
      go_wp2
      go_loopw [5, 6, 7] (fun at' nn own wr => ∃ (a p i : Nat) (f : Bool), i ≤ n ∧ a ≤ m ∧ p ≤ 2 * i + 1 ∧ at' = .int .i64 a ∧ nn = .int .i64 p ∧ own = .int .i64 i ∧ Hid (Hog.StateT t i f a p) ∧ Below w3.heap.size w3 wr) (fun at' _ _ _ => m - (intOf at').toNat)
      case atStart => exact ⟨0, 0, 0, false, by omega, by omega, by omega, rfl, rfl, rfl, hide (Hog.state_start t), Below.refl _ _⟩
      case round =>
        obtain ⟨a, p, i, f, hi, ham, hpi, rfl, rfl, rfl, HST, hbl⟩ := hrel
        have HBL := hide hbl
        have HOKR := hide (ok3.next hbl)
        have hsx := Hog.state_next HST.out (by rw [HL.out]; exact hi)
        rw [HZ.out] at hsx
        clear hbl
        rcases hsx with ⟨hit, ham2, hpc, hzz⟩ | ⟨x, hx, ⟨R, hzd, hR, hst⟩ | ⟨R, hzd, hR, hst⟩⟩
        · have hin : i = n := by rw [hit, HL.out]
          subst hin
          rw [HM.out] at ham2
          have ht1 : ¬ ((a : Int) + 1024 < (m : Int)) := by omega
          have ht2 : ((a : Int) + 1024 != (m : Int)) = false := by rw [bne_eq_false_iff_eq]; omega
          have HZR : Hid (∀ j : Nat, a ≤ j → j < m → z[j]? = some 0) := hide (fun j h1 h2 => by
            have e : z[j]? = (z.drop a)[j - a]? := by rw [List.getElem?_drop]; congr 1; omega
            rw [e, hzz]
            unfold Hog.zeros
            rw [List.getElem?_replicate, if_pos (by omega)])
          have HPC := hide hpc.symm
          clear hit hzz hpc
          go_wp2_with fail
          refine (entries_good _ t p w1 wr HP.out HOKR.out (HND.out.below (below_two HB3.out HBL.out)) HS.out HX.out HPC.out).mono ?_
          rintro e w4 ⟨rfl, ok4, hb4⟩
          have HB4 := hide (below_two (below_two HB3.out HBL.out) hb4)
          have HA4 := hide (HA3.out.below (below_two HBL.out hb4))
          have HOK4 := hide ok4
          clear hb4 ok4
          go_wp2
          go_loopw [13] (fun q wr2 => ∃ j : Nat, a ≤ j ∧ j ≤ m ∧ q = .int .i64 j ∧ wr2 = w4) (fun q _ => m - (intOf q).toNat)
          case atStart => exact ⟨a, by omega, ham, rfl, rfl⟩
          case round =>
            obtain ⟨j, hj1, hj2, rfl, rfl⟩ := hrel
            by_cases hlt : j < m
            · have g0 : wr.cell? ⟨bb, oo + j, none⟩ = some (.int .u8 0) := HA4.out.at (HZR.out j hj1 hlt)
              have hji : (j : Int) < (m : Int) := by omega
              go_wp2
              go_roundw
              case rel => exact ⟨j + 1, by omega, by omega, by go_num, trivial⟩
              case measure => simp [intOf]; omega
            · have hji : ¬ ((j : Int) < (m : Int)) := by omega
              go_wp2_with fail
              refine (awake13_ok w1 wr HP.out HOK4.out).mono ?_
              rintro e w5 ⟨rfl, ok5, hb5⟩
              have HB5 := hide (below_two HB4.out hb5)
              clear hb5
              go_wp2
              go_ret
              exact ⟨rfl, HB5.out⟩
        · have hf : Hog.Fits (Hog.entE x) := Hog.entE_fits (HG.out x (List.mem_of_getElem? hx))
          obtain ⟨he1, he2, he3⟩ := Hog.entry_here hf hzd hR
          rw [HM.out] at he2
          have hel := Hog.entL_len hf
          obtain ⟨sz, hsz⟩ : ∃ sz, (Hog.entE x).data.length = sz := ⟨_, rfl⟩
          obtain ⟨nm, hnm⟩ : ∃ nm, (Hog.entE x).name.take 100 = nm := ⟨_, rfl⟩
          obtain ⟨lk, hlk⟩ : ∃ lk, (Hog.entE x).link.take 100 = lk := ⟨_, rfl⟩
          have hsz1 : sz ≤ 1000 := by rw [← hsz]; exact hf.data
          rw [hsz, hnm, hlk] at he3
          rw [hsz] at hel
          have he3 : Hog.readH (Hog.headE (Hog.entE x)) = some (nm, x.2.1, (sz : Int), lk) := he3
          have HE1 := hide he1
          have HE3 := hide he3
          obtain ⟨g1, g2, g3⟩ := (HR3.out.2 i x hx).below HBL.out HR3.out.1
          have hin : i < n := by have := (List.getElem?_eq_some_iff.1 hx).1; rw [HL.out] at this; exact this
          have ht1 : (a : Int) + 1024 < (m : Int) := by omega
          have hdv := tdiv512 sz
          have hap : a + (Hog.entL (Hog.entE x)).length = a + 512 + (sz + 511) / 512 * 512 := by omega
          have ham' : a + 512 + (sz + 511) / 512 * 512 ≤ m := by omega
          rw [hap] at hst
          have HST2 := hide hst
          have HAR : Hid (ArgB wr (some ⟨bb, oo + a, none⟩) 512 (c2 - a) (Hog.headE (Hog.entE x))) := by
            have h := (HA3.out.below HBL.out).part a 512 (by omega) (by omega)
            rw [HE1.out] at h
            exact hide h
          have hcr : ¬ ((c2 : Int) = (a : Int)) := by omega
          have ds : ¬ ((sz : Int) > (m : Int)) := by omega
          have hk := (HG.out x (List.mem_of_getElem? hx)).kind
          have d5 : (x.2.1 == 5) = false := by rw [beq_eq_false_iff_ne]; omega
          have d5' : (x.2.1 != 5) = true := by rw [bne_iff_ne]; omega
          have dn : ¬ ((i : Int) ≥ (n : Int)) := by omega
          clear hk
          clear hzd hR hst he1 he3 hsz hf hx hap hnm hlk he2 hel g1 g3
          go_wp2_with fail
          refine (read_ok _ 512 _ (Hog.headE (Hog.entE x)) _ w1 wr HOKR.out HAR.out HE3.out).mono ?_
          rintro e w4 ⟨he, ok4, hb4⟩
          simp only [outR] at he
          subst he
          have k2 := (hb4.cell (p := ⟨b, o + i * 3 + 1, none⟩) (Nat.lt_of_lt_of_le HR3.out.1 HBL.out.size)).trans g2
          have HB4 := hide (below_two HBL.out hb4)
          clear hb4 ok4 g2
          go_wp2
          go_roundw
          case rel => exact ⟨a + 512 + (sz + 511) / 512 * 512, p + 1, i + 1, false, by omega, ham', by omega, by go_num, by go_num, by go_num, HST2, HB4.out⟩
          case measure => simp [intOf]; omega
        · have hf : Hog.Fits (Hog.paxE (Hog.recsE (Hog.entE x))) := Hog.paxE_fits (Hog.recsE_len (Hog.entE_fits (HG.out x (List.mem_of_getElem? hx))))
          obtain ⟨he1, he2, he3⟩ := Hog.entry_here hf hzd hR
          rw [HM.out] at he2
          have hel := Hog.entL_len hf
          obtain ⟨sz, hsz⟩ : ∃ sz, (Hog.paxE (Hog.recsE (Hog.entE x))).data.length = sz := ⟨_, rfl⟩
          obtain ⟨nm, hnm⟩ : ∃ nm, (Hog.paxE (Hog.recsE (Hog.entE x))).name.take 100 = nm := ⟨_, rfl⟩
          obtain ⟨lk, hlk⟩ : ∃ lk, (Hog.paxE (Hog.recsE (Hog.entE x))).link.take 100 = lk := ⟨_, rfl⟩
          have hsz1 : sz ≤ 1000 := by rw [← hsz]; exact hf.data
          rw [hsz, hnm, hlk] at he3
          rw [hsz] at hel
          have he3 : Hog.readH (Hog.headE (Hog.paxE (Hog.recsE (Hog.entE x)))) = some (nm, 5, (sz : Int), lk) := he3
          have HE1 := hide he1
          have HE3 := hide he3
          obtain ⟨g1, g2, g3⟩ := (HR3.out.2 i x hx).below HBL.out HR3.out.1
          have hin : i < n := by have := (List.getElem?_eq_some_iff.1 hx).1; rw [HL.out] at this; exact this
          have ht1 : (a : Int) + 1024 < (m : Int) := by omega
          have hdv := tdiv512 sz
          have hap : a + (Hog.entL (Hog.paxE (Hog.recsE (Hog.entE x)))).length = a + 512 + (sz + 511) / 512 * 512 := by omega
          have ham' : a + 512 + (sz + 511) / 512 * 512 ≤ m := by omega
          rw [hap] at hst
          have HST2 := hide hst
          have HAR : Hid (ArgB wr (some ⟨bb, oo + a, none⟩) 512 (c2 - a) (Hog.headE (Hog.paxE (Hog.recsE (Hog.entE x))))) := by
            have h := (HA3.out.below HBL.out).part a 512 (by omega) (by omega)
            rw [HE1.out] at h
            exact hide h
          have hcr : ¬ ((c2 : Int) = (a : Int)) := by omega
          have ds : ¬ ((sz : Int) > (m : Int)) := by omega
          have dN : ((Hog.mk nm).toList == [112, 97, 120]) = true := by rw [Hog.mk_toList, ← hnm]; rfl
          have dN' : ((Hog.mk nm).toList != [112, 97, 120]) = false := by rw [Hog.mk_toList, ← hnm]; rfl
          have hp2 : p + 1 ≤ 2 * i + 1 := by
            rcases hst with ⟨h, _⟩ | ⟨_, _, _, _, _, h⟩
            · cases h
            · rw [h]; have := Hog.countT_le (t := t) i; omega
          clear hzd hR hst he1 he3 hsz hf hx hap hnm hlk he2 hel g1 g3
          go_wp2_with fail
          refine (read_ok _ 512 _ (Hog.headE (Hog.paxE (Hog.recsE (Hog.entE x)))) _ w1 wr HOKR.out HAR.out HE3.out).mono ?_
          rintro e w4 ⟨he, ok4, hb4⟩
          simp only [outR] at he
          subst he
          have k2 := (hb4.cell (p := ⟨b, o + i * 3 + 1, none⟩) (Nat.lt_of_lt_of_le HR3.out.1 HBL.out.size)).trans g2
          have HB4 := hide (below_two HBL.out hb4)
          clear hb4 ok4 g2
          go_wp2
          go_roundw
          case rel => exact ⟨a + 512 + (sz + 511) / 512 * 512, p + 1, i, true, by omega, ham', hp2, by go_num, by go_num, by go_num, HST2, HB4.out⟩
          case measure => simp [intOf]; omega
end Go.Proofs.YtpdbpeooebbpnaaDoor
