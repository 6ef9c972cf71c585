/- The walk of the document's Read. -/
import Derived.Test.YtecjkkipglldlaaGreatDoorHJ
namespace Go.Proofs.YtecjkkipglldlaaGreatDoor
open Go.RowKit Hog

set_option maxHeartbeats 400000 in
theorem rread_short (ao : Option Addr) (n c : Nat) (l : List UInt8) (w : World) (h : ArgB w ao n c l) (hn : n ≠ 512) :
    Calls Tryz.prog 23 #[.slice ao n c] w fun e w' => e = .returned (outR (readH l)) ∧ w' = w := by
  have HR := hide (read_len (c := l) (by rw [h.len]; exact hn))
  have c1 : ((n : Int) != 512) = true := by rw [bne_iff_ne]; omega
  clear h hn
  go_enter Tryz.func23, Tryz.ntmps23
  go_wp2_with fail
  (try simp only [Exit.inBlock, Exit.then]); refine bodyPost_ret (results_tmp5 rfl _ _ _) rfl ?_
  rw [HR.out]
  exact ⟨rfl, rfl⟩
theorem str_eq (a b : List UInt8) (r : Bool) (h : decide (a = b) = r) : ((mk a).toList == (mk b).toList) = r := by
  rw [mk_toList, mk_toList, ← h, Bool.eq_iff_iff, beq_iff_eq, decide_eq_true_eq]
set_option maxRecDepth 100000 in
set_option maxHeartbeats 2000000 in
theorem rread_full (b o c : Nat) (l : List UInt8) (w0 w : World) (hok : Ok w0 w) (h : ArgB w (some ⟨b, o, none⟩) 512 c l) :
    Calls Tryz.prog 23 #[.slice (some ⟨b, o, none⟩) 512 c] w fun e w' => e = .returned (outR (readH l)) ∧ Ok w0 w' ∧ Below w.heap.size w w' := by
  obtain ⟨nm, hnm⟩ : ∃ nm, nameF l = nm := ⟨_, rfl⟩
  obtain ⟨lk, hlk⟩ : ∃ lk, linkF l = lk := ⟨_, rfl⟩
  obtain ⟨z, hz⟩ : ∃ z, sizeF l = z := ⟨_, rfl⟩
  obtain ⟨m, hm⟩ : ∃ m, ofT z = m := ⟨_, rfl⟩
  obtain ⟨f, hf⟩ : ∃ f, ofR z = f := ⟨_, rfl⟩
  have hcap : (512 : Int) ≤ (c : Int) := by have := h.cap; omega
  have HA := hide h
  have HC1 : Hid (∀ q, Calls Tryz.prog 31 #[.slice (some ⟨b, o, none⟩) 100 c] (w.drewN q) fun e w' => e = .returned (.string (mk nm)) ∧ w' = w.drewN q) := by
    refine hide fun q => ?_
    exact rfield_any b o 100 c _ nm _ ((HA.out.below (below_drewN (Below.refl _ w) q)).take (by omega)) (by omega) hnm
  have HC2 : Hid (∀ q, Calls Tryz.prog 31 #[.slice (some ⟨b, o + 157, none⟩) 100 (c - 157)] (w.drewN q) fun e w' => e = .returned (.string (mk lk)) ∧ w' = w.drewN q) := by
    refine hide fun q => ?_
    exact rfield_any b (o + 157) 100 (c - 157) _ lk _ ((HA.out.below (below_drewN (Below.refl _ w) q)).part 157 100 (by omega) (by omega)) (by omega) hlk
  have hc0 : (100 : Int) ≤ (c : Int) := by omega
  have hc1 : (257 : Int) ≤ (c : Int) := by omega
  have hc2 : (135 : Int) ≤ (c : Int) := by omega
  go_enter Tryz.func23, Tryz.ntmps23
  go_wp2_with fail
  have HA0 := hide h
  clear h
  go_quiet ((first
    | (go_at_call 31; with_reducible exact Calls.quiet_of_same (HC1.out _))
    | (go_at_call 31; with_reducible exact Calls.quiet_of_same (HC2.out _))))
  obtain ⟨V, hV⟩ : ∃ V, w.drewN nq = V := ⟨_, rfl⟩
  have HBV : Hid (Below w.heap.size w V) := by rw [← hV]; exact hide (below_drewN (Below.refl _ w) nq)
  rw [hV]
  have HOKV := hide (hok.next HBV.out)
  have HAV := hide (HA0.out.below HBV.out)
  have hs2 : (convert 22 9 (.slice (some ⟨b, o + 124, none⟩) 11 (c - 124))).run Tryz.prog V = .ok (.string (mk z)) V := by
    have h2 := str_bytes (HAV.out.part 124 11 (by omega) (by omega))
    rw [← hz]
    exact h2
  have HMV := hide hm
  have HFV := hide hf
  have HFIT : Hid (∀ j : Int, fits l j = (mayH nm j m lk && decide (headH nm j m lk = l))) := by
    refine hide fun j => ?_
    unfold fits
    rw [hnm, hlk, hz, hm]
  have HSOME : Hid (∀ j : Int, fits l j = true → readH l = some (nm, j, (m : Int), lk)) := by
    refine hide fun j hj => ?_
    rw [read_fits hj, hnm, hlk, hz, hm]
  have hmz : (m : Int) < 9223372036854775808 := by have := ofT_lt z; omega
  have HNS : Hid ((mk nm).size < 1000000) := by
    rw [mk_size, ← hnm]
    unfold nameF
    have h1 : ((l.take 100).takeWhile (· != 0)).length ≤ (l.take 100).length := (List.takeWhile_prefix _).length_le
    rw [List.length_take] at h1
    exact hide (by omega)
  have HLS : Hid ((mk lk).size < 1000000) := by
    rw [mk_size, ← hlk]
    unfold linkF
    have h1 : (((l.drop 157).take 100).takeWhile (· != 0)).length ≤ ((l.drop 157).take 100).length := (List.takeWhile_prefix _).length_le
    rw [List.length_take] at h1
    exact hide (by omega)
  clear hV HC1 HC2 HA HA0 hok hnm hlk hz hm hf
  go_wp2_with fail
  refine (rofoctal_ok (mk z) z m f V (mk_data z) HMV.out HFV.out).mono ?_
  rintro e w5 ⟨rfl, hw5⟩
  have hw6 := hw5.symm
  clear hw5
  subst hw6
  go_wp2_with fail
  clear hs2
  go_loopw [11] (fun i wr => ∃ k : Nat, 1 ≤ k ∧ k ≤ 6 ∧ i = .int .i64 k ∧ Hid (∀ j : Int, 1 ≤ j → j < k → fits l j = false) ∧ Hid (Ok w0 wr) ∧ Hid (Below w.heap.size w wr) ∧ Hid (ArgB wr (some ⟨b, o, none⟩) 512 c l)) (fun i _ => 6 - (intOf i).toNat)
  case atStart => exact ⟨1, Nat.le_refl _, by omega, rfl, fun j h1 h2 => by omega, HOKV, HBV, HAV⟩
  case round =>
    obtain ⟨k, hk1, hk6, rfl, hno, HOKR, HBR, HAR⟩ := hrel
    by_cases hlt : k ≤ 5
    · have hki : (k : Int) ≤ 5 := by omega
      by_cases hmay : mayH nm k m lk = true
      · have HMAY := hide (mayH_of hmay)
        obtain ⟨eq, heq⟩ : ∃ eq, decide (headH nm k m lk = l) = eq := ⟨_, rfl⟩
        have HF1 := hide (HFIT.out k)
        rw [hmay, heq, Bool.true_and] at HF1
        have hstr := str_eq _ _ eq heq
        clear hmay heq
        go_wp2_with fail
        refine (rlay_good (mk nm) (mk lk) nm lk k m w0 wr HOKR.out (mk_data nm) (mk_data lk) HMAY.out).mono ?_
        rintro e w6 ⟨g, rfl, hg, hrow, ok6, hb6⟩
        have HOK6 := hide ok6
        have HB6 : Hid (Below w.heap.size w w6) := hide (HBR.out.trans (hb6.mono HBR.out.size))
        have HA6 := hide (HAR.out.below hb6)
        have hs3 := str_bytes (hrow.arg (head_len HMAY.out) (Nat.le_refl _))
        have hs4 := str_bytes HA6.out
        clear hg hrow ok6 hb6
        cases eq
        · go_wp2_with fail
          go_roundw
          case rel =>
            refine ⟨k + 1, by omega, by omega, by go_num, hide fun j h1 h2 => ?_, HOK6, HB6, HA6⟩
            by_cases e : j < k
            · exact hno.out j h1 e
            · obtain rfl : j = k := by omega
              exact HF1.out
          case measure => simp [intOf]; omega
        · go_wp2_with fail
          (try simp only [Exit.inBlock, Exit.then]); refine bodyPost_ret (results_tmp5 rfl _ _ _) rfl ?_
          rw [HSOME.out k HF1.out]
          exact ⟨rfl, HOK6.out, HB6.out⟩
      · have hf0 : mayH nm k m lk = false := by cases h : mayH nm k m lk <;> simp_all
        have HNO := hide hf0
        have HF1 := hide (HFIT.out k)
        rw [hf0, Bool.false_and] at HF1
        clear hmay hf0
        go_wp2_with fail
        refine (rlay_bad (mk nm) (mk lk) nm lk k m w0 wr HOKR.out (mk_data nm) (mk_data lk) HNS.out HLS.out hmz HNO.out).mono ?_
        rintro e w6 ⟨rfl, ok6, hb6⟩
        have HOK6 := hide ok6
        have HB6 : Hid (Below w.heap.size w w6) := hide (HBR.out.trans (hb6.mono HBR.out.size))
        have HA6 := hide (HAR.out.below hb6)
        clear ok6 hb6
        go_wp2_with fail
        go_roundw
        case rel =>
          refine ⟨k + 1, by omega, by omega, by go_num, hide fun j h1 h2 => ?_, HOK6, HB6, HA6⟩
          by_cases e : j < k
          · exact hno.out j h1 e
          · obtain rfl : j = k := by omega
            exact HF1.out
        case measure => simp [intOf]; omega
    · obtain rfl : k = 6 := by omega
      have HE := hide (read_none (c := l) fun j h1 h2 => hno.out j h1 (by omega))
      clear hlt
      go_wp2_with fail
      (try simp only [Exit.inBlock, Exit.then]); refine bodyPost_ret (results_tmp5 rfl _ _ _) rfl ?_
      rw [HE.out]
      exact ⟨rfl, HOKR.out, HBR.out⟩
theorem rread_ok (ao : Option Addr) (n c : Nat) (l : List UInt8) (r : Option (List UInt8 × Int × Int × List UInt8)) (w0 w : World) (hok : Ok w0 w) (h : ArgB w ao n c l) (hr : readH l = r) :
    Calls Tryz.prog 23 #[.slice ao n c] w fun e w' => e = .returned (outR r) ∧ Ok w0 w' ∧ Below w.heap.size w w' := by
  subst hr
  by_cases hn : n = 512
  · subst hn
    obtain ⟨b, o, rfl, _⟩ := h.plain (by omega)
    exact rread_full b o c l w0 w hok h
  · refine (rread_short ao n c l w h hn).mono ?_
    rintro e w1 ⟨rfl, rfl⟩
    exact ⟨rfl, hok, Below.refl _ _⟩
end Go.Proofs.YtecjkkipglldlaaGreatDoor
