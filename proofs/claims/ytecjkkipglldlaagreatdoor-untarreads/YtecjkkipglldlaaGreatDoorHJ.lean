/- The walks of the document's field, of bytes.Equal, and of head's Read. -/
import Derived.Test.YtecjkkipglldlaaGreatDoorHI
namespace Go.Proofs.YtecjkkipglldlaaGreatDoor
open Go.RowKit Hog

theorem ArgB.part {w : World} {b o n c : Nat} {l : List UInt8} (h : ArgB w (some ⟨b, o, Option.none⟩) n c l) (r m : Nat) (hr : r + m ≤ n) (hm : 0 < m) : ArgB w (some ⟨b, o + r, Option.none⟩) m (c - r) ((l.drop r).take m) := by
  have hc := h.cap
  have h1 := h.drop (r := r) (by omega)
  have e : cutAt (some ⟨b, o, Option.none⟩) c r = some ⟨b, o + r, Option.none⟩ := by
    unfold cutAt
    rw [Option.map_some, if_neg (by omega), addB_plain]
  rw [e] at h1
  exact h1.take (by omega)
theorem laterH_below {w w' : World} (h : ∃ p : Later w, w' = p.w1) : Below w.heap.size w w' := by
  obtain ⟨p, rfl⟩ := h
  exact p.below
theorem while_to {l : List UInt8} {k : Nat} (h1 : ∀ j : Nat, j < k → l[j]? ≠ some 0) (h2 : l[k]? = none ∨ l[k]? = some 0) : l.takeWhile (· != 0) = l.take k := by
  rcases h2 with h2 | h2
  · have hl : l.length ≤ k := List.getElem?_eq_none_iff.1 h2
    rw [List.take_of_length_le hl]
    refine while_all fun j hj => ?_
    exact h1 j (by have := (List.getElem?_eq_some_iff.1 hj).1; omega) hj
  · exact while_at h2 h1
set_option maxHeartbeats 800000 in
theorem rfield_any (b o n c : Nat) (l r : List UInt8) (w : World) (h : ArgB w (some ⟨b, o, none⟩) n c l) (hn : n < 1000000) (hr : l.takeWhile (· != 0) = r) :
    Calls Tryz.prog 31 #[.slice (some ⟨b, o, none⟩) n c] w fun e w' => e = .returned (.string (mk r)) ∧ w' = w := by
  have HA := hide h
  have HLEN := hide h.len
  have HR := hide hr
  have hcap := h.cap
  clear h hr
  go_enter Tryz.func31, Tryz.ntmps31
  go_wp2_with fail
  go_loopw [3] (fun i wr => ∃ k : Nat, k ≤ n ∧ i = .int .i64 k ∧ Hid (∀ j : Nat, j < k → l[j]? ≠ some 0) ∧ wr = w) (fun i _ => n - (intOf i).toNat)
  case atStart => exact ⟨0, Nat.zero_le _, rfl, fun j hj => by omega, rfl⟩
  case round =>
    obtain ⟨k, hk, rfl, hno, rfl⟩ := hrel
    have hk0 : (0 : Int) ≤ (k : Int) := by omega
    have hkc : (k : Int) ≤ (c : Int) := by omega
    by_cases hlt : k < n
    · obtain ⟨x, hx⟩ : ∃ x, l[k]? = some x := ⟨l[k]'(by have := HLEN.out; omega), List.getElem?_eq_some_iff.2 ⟨_, rfl⟩⟩
      have g1 := HA.out.at hx
      have hki : (k : Int) < (n : Int) := by omega
      have HX := hide hx
      clear hx
      by_cases h0 : x = 0
      · have c1 : ((x.toNat : Int) != 0) = false := by rw [h0]; rfl
        have hs := str_bytes (HA.out.take hk)
        have HE : Hid (l.take k = r) := by rw [← HR.out, while_to hno.out (.inr (by rw [HX.out, h0]))]; exact hide rfl
        rw [HE.out] at hs
        clear h0
        go_wp2_with fail
        go_ret
        exact ⟨rfl, rfl⟩
      · have c1 : ((x.toNat : Int) != 0) = true := by
          rw [bne_iff_ne]
          intro e
          apply h0
          apply UInt8.toNat_inj.1
          rw [show (0 : UInt8).toNat = 0 by rfl]
          omega
        have HN := hide h0
        clear h0
        go_wp2_with fail
        go_roundw
        case rel =>
          refine ⟨k + 1, by omega, by go_num, hide fun j hj => ?_, trivial⟩
          by_cases e : j < k
          · exact hno.out j e
          · obtain rfl : j = k := by omega
            rw [HX.out]
            exact fun e => HN.out (Option.some.inj e)
        case measure => simp [intOf]; omega
    · have ek : k = n := by omega
      have hki : ¬ ((k : Int) < (n : Int)) := by omega
      have hs := str_bytes (HA.out.take hk)
      have HE : Hid (l.take k = r) := by rw [← HR.out, while_to hno.out (.inl (List.getElem?_eq_none_iff.2 (by rw [HLEN.out]; omega)))]; exact hide rfl
      rw [HE.out] at hs
      clear ek
      go_wp2_with fail
      go_ret
      exact ⟨rfl, rfl⟩
theorem equalB_any (ao bo : Option Addr) (n c m d : Nat) (xs ys : List UInt8) (r : Bool) (w : World) (hx : ArgB w ao n c xs) (hy : ArgB w bo m d ys) (hr : decide (xs = ys) = r) :
    Calls Tryz.prog 22 #[.slice ao n c, .slice bo m d] w fun e w' => e = .returned (.bool r) ∧ w' = w := by
  have h1 := str_bytes hx
  have h2 := str_bytes hy
  have h3 : ((mk xs).toList == (mk ys).toList) = r := by
    rw [mk_toList, mk_toList, ← hr, Bool.eq_iff_iff, beq_iff_eq, decide_eq_true_eq]
  go_enter Tryz.func22, Tryz.ntmps22
  go_wp2_with fail
  go_ret
  exact ⟨rfl, rfl⟩

theorem below_mono_refl {w wa : World} (h : Below w.heap.size w wa) : Below w.heap.size wa wa := (Below.refl wa.heap.size wa).mono h.size
/-- What Read tells. -/
def outR : Option (List UInt8 × Int × Int × List UInt8) → Value
  | some (nm, k, sz, lk) => .tuple #[.string (mk nm), .int .i64 k, .int .i64 sz, .string (mk lk), .bool true]
  | none => .tuple #[.string (mk []), .int .i64 0, .int .i64 0, .string (mk []), .bool false]
theorem results_tmp5 {fn : Func} {t1 t2 t3 t4 t5 : Tmp} (h : fn.results = #[.tmp t1, .tmp t2, .tmp t3, .tmp t4, .tmp t5]) (tmps : Array Value) (P : Program) (w : World) :
    (results fn tmps).run P w = .ok (.tuple #[tmps.getD t1 undef, tmps.getD t2 undef, tmps.getD t3 undef, tmps.getD t4 undef, tmps.getD t5 undef]) w := by
  simp [results, h]
set_option maxHeartbeats 400000 in
theorem read_short (ao : Option Addr) (n c : Nat) (l : List UInt8) (w : World) (h : ArgB w ao n c l) (hn : n ≠ 512) :
    Calls Tryz.prog 63 #[.slice ao n c] w fun e w' => e = .returned (outR (readH l)) ∧ w' = w := by
  have HR := hide (read_len (c := l) (by rw [h.len]; exact hn))
  have c1 : ((n : Int) != 512) = true := by rw [bne_iff_ne]; omega
  clear h hn
  go_enter Tryz.func63, Tryz.ntmps63
  go_wp2_with fail
  (try simp only [Exit.inBlock, Exit.then]); refine bodyPost_ret (results_tmp5 rfl _ _ _) rfl ?_
  rw [HR.out]
  exact ⟨rfl, rfl⟩
set_option maxRecDepth 100000 in
set_option maxHeartbeats 2000000 in
theorem read_full (b o c : Nat) (l : List UInt8) (w0 w : World) (hok : Ok w0 w) (h : ArgB w (some ⟨b, o, none⟩) 512 c l) :
    Calls Tryz.prog 63 #[.slice (some ⟨b, o, none⟩) 512 c] w fun e w' => e = .returned (outR (readH l)) ∧ Ok w0 w' ∧ Below w.heap.size w w' := by
  obtain ⟨nm, hnm⟩ : ∃ nm, nameF l = nm := ⟨_, rfl⟩
  obtain ⟨lk, hlk⟩ : ∃ lk, linkF l = lk := ⟨_, rfl⟩
  obtain ⟨md, hmd⟩ : ∃ md, modeF l = md := ⟨_, rfl⟩
  obtain ⟨sg, hsg⟩ : ∃ sg, signF l = sg := ⟨_, rfl⟩
  obtain ⟨k, hk⟩ : ∃ k, kindF l = k := ⟨_, rfl⟩
  obtain ⟨z, hz⟩ : ∃ z, sizeF l = z := ⟨_, rfl⟩
  obtain ⟨m, hm⟩ : ∃ m, ofT z = m := ⟨_, rfl⟩
  obtain ⟨f, hf⟩ : ∃ f, ofR z = f := ⟨_, rfl⟩
  have hcap : (512 : Int) ≤ (c : Int) := by have := h.cap; omega
  have HA := hide h
  have HC1 : Hid (∀ p : Later w, Calls Tryz.prog 77 #[.slice (some ⟨b, o, none⟩) 512 c] p.w1 fun e w' => e = .returned (.string (mk nm)) ∧ Below p.w1.heap.size p.w1 w') := by
    intro p
    exact filled_any b o 512 c l nm p.w1 (HA.out.below p.below) (by omega) (by omega) hnm
  have HC2 : Hid (∀ p : Later w, Calls Tryz.prog 77 #[.slice (some ⟨b, o + 157, none⟩) 355 (c - 157)] p.w1 fun e w' => e = .returned (.string (mk lk)) ∧ Below p.w1.heap.size p.w1 w') := by
    intro p
    have h2 := (HA.out.below p.below).part 157 355 (by omega) (by omega)
    refine filled_any b (o + 157) 355 (c - 157) _ lk p.w1 h2 (by omega) (by omega) ?_
    rw [← hlk]
    unfold linkF
    rw [List.take_take]
    rfl
  go_enter Tryz.func63, Tryz.ntmps63
  go_wp2_with fail
  have hne := later_one w
  have HA0 := hide h
  clear h
  refine wp_region_later (by kernel_rfl) (by kernel_rfl) ?_
  repeat (first
    | go_big_quiet_step ((first
      | (go_at_call 77; with_reducible exact Calls.later_of (HC1.out _))
      | (go_at_call 77; with_reducible exact Calls.later_of (HC2.out _))))
    | quiet_step ((first
      | (go_at_call 77; with_reducible exact Calls.later_of (HC1.out _))
      | (go_at_call 77; with_reducible exact Calls.later_of (HC2.out _)))))
  refine wpQuiet_nil ?_
  intro wa hw'
  have HBA := hide (laterH_below hw')
  clear hw' hne HC1 HC2
  have HAA := hide (HA0.out.below HBA.out)
  have g156 : wa.cell? ⟨b, o + 156, none⟩ = some (.int .u8 sg.toNat) := by
    refine HAA.out.at ?_
    rw [← hsg]
    unfold signF
    have : 156 < l.length := by rw [HAA.out.len]; omega
    rw [List.getD_eq_getElem?_getD, List.getElem?_eq_getElem this]; rfl
  have hs1 : ∀ q, (convert 22 9 (.slice (some ⟨b, o + 100, none⟩) 8 (c - 100))).run Tryz.prog (wa.drewN q) = .ok (.string (mk md)) (wa.drewN q) := by
    intro q
    have h2 := str_bytes (((HAA.out.below (below_drewN (Below.refl _ wa) q)).part 100 8 (by omega) (by omega)))
    rw [← hmd]
    exact h2
  have HKD : Hid (∀ q, Calls Tryz.prog 78 #[.string (mk md), .int .u8 sg.toNat] (wa.drewN q) fun e w' => e = .returned (.int .i64 k) ∧ w' = wa.drewN q) := by
    refine hide fun q => kindof_ok (mk md) md sg k (wa.drewN q) (mk_data md) ?_
    rw [← hmd, ← hsg, ← hk]
    rfl
  have hc1 : (108 : Int) ≤ (c : Int) := by omega
  have hc2 : (135 : Int) ≤ (c : Int) := by omega
  go_wp2_with fail
  go_quiet ((go_at_call 78; exact Calls.quiet_of_same (HKD.out _)))
  obtain ⟨V, hV⟩ : ∃ V, wa.drewN nq = V := ⟨_, rfl⟩
  have HBV : Hid (Below w.heap.size w V) := by rw [← hV]; exact hide (HBA.out.trans (below_drewN (below_mono_refl HBA.out) nq))
  rw [hV]
  have HOKV := hide (hok.next HBV.out)
  have HAV := hide (HA0.out.below HBV.out)
  have hs2 : (convert 22 9 (.slice (some ⟨b, o + 124, none⟩) 11 (c - 124))).run Tryz.prog V = .ok (.string (mk z)) V := by
    have h2 := str_bytes (HAV.out.part 124 11 (by omega) (by omega))
    rw [← hz]
    exact h2
  have HMV := hide hm
  have HFV := hide hf
  have HM : Hid (May nm k m lk → readH l = if decide (headH nm k m lk = l) = true then some (nm, k, (m : Int), lk) else none) := by
    refine hide fun hmay => ?_
    have e : fits l (kindF l) = decide (headH nm k m lk = l) := by
      unfold fits
      rw [hnm, hlk, hk, hz, hm, mayH_true hmay, Bool.true_and]
    unfold readH
    rw [e, HAV.out.len, hnm, hlk, hk, hz, hm]
    simp
  have HN : Hid (mayH nm k m lk = false → readH l = none) := by
    refine hide fun hmay => ?_
    have e : fits l (kindF l) = false := by
      unfold fits
      rw [hnm, hlk, hk, hz, hm, hmay, Bool.false_and]
    unfold readH
    rw [e, if_neg (fun h => by cases h.2)]
  have hmz : (m : Int) < 9223372036854775808 := by have := ofT_lt z; omega
  clear hV HKD hs1 g156 HAA HBA HA HA0 hok hnm hlk hmd hsg hk hz hm hf
  go_wp2_with fail
  refine (ofoctal_ok (mk z) z m f V (mk_data z) HMV.out HFV.out).mono ?_
  rintro e w5 ⟨rfl, rfl⟩
  go_wp2_with fail
  by_cases hmay : mayH nm k m lk = true
  · have HMAY := hide (mayH_of hmay)
    clear hmay HN
    refine (lay_good (mk nm) (mk lk) nm lk k m w0 w5 HOKV.out (mk_data nm) (mk_data lk) HMAY.out).mono ?_
    rintro e w6 ⟨g, rfl, hg, hrow, ok6, hb6⟩
    have HROW := hide hrow
    have HOK6 := hide ok6
    have HB6 : Hid (Below w.heap.size w w6) := hide (HBV.out.trans (hb6.mono HBV.out.size))
    have HA6 := hide (HAV.out.below hb6)
    have HAR := hide (HROW.out.arg (head_len HMAY.out) (Nat.le_refl _))
    obtain ⟨eq, heq⟩ : ∃ eq, decide (headH nm k m lk = l) = eq := ⟨_, rfl⟩
    have HEQ := hide heq
    have HRD := hide (HM.out HMAY.out)
    rw [heq] at HRD
    clear hg hrow ok6 hb6 heq HROW HM
    go_wp2_with fail
    refine (equalB_any (some ⟨g, 0, none⟩) (some ⟨b, o, none⟩) 512 512 512 c _ _ eq w6 HAR.out HA6.out HEQ.out).mono ?_
    rintro e w7 ⟨rfl, rfl⟩
    cases eq
    · go_wp2_with fail
      (try simp only [Exit.inBlock, Exit.then]); refine bodyPost_ret (results_tmp5 rfl _ _ _) rfl ?_
      rw [HRD.out]
      exact ⟨rfl, HOK6.out, HB6.out⟩
    · go_wp2_with fail
      (try simp only [Exit.inBlock, Exit.then]); refine bodyPost_ret (results_tmp5 rfl _ _ _) rfl ?_
      rw [HRD.out]
      exact ⟨rfl, HOK6.out, HB6.out⟩
  · have hno : mayH nm k m lk = false := by cases h : mayH nm k m lk <;> simp_all
    have HNO := hide hno
    clear hmay hno HM
    refine (lay_bad (mk nm) (mk lk) nm lk k m w0 w5 HOKV.out (mk_data nm) (mk_data lk) hmz HNO.out).mono ?_
    rintro e w6 ⟨rfl, ok6, hb6⟩
    have HB6 : Hid (Below w.heap.size w w6) := hide (HBV.out.trans (hb6.mono HBV.out.size))
    have HOK6 := hide ok6
    clear ok6 hb6
    go_wp2_with fail
    (try simp only [Exit.inBlock, Exit.then]); refine bodyPost_ret (results_tmp5 rfl _ _ _) rfl ?_
    rw [HN.out HNO.out]
    exact ⟨rfl, HOK6.out, HB6.out⟩
theorem read_ok (ao : Option Addr) (n c : Nat) (l : List UInt8) (r : Option (List UInt8 × Int × Int × List UInt8)) (w0 w : World) (hok : Ok w0 w) (h : ArgB w ao n c l) (hr : readH l = r) :
    Calls Tryz.prog 63 #[.slice ao n c] w fun e w' => e = .returned (outR r) ∧ Ok w0 w' ∧ Below w.heap.size w w' := by
  subst hr
  by_cases hn : n = 512
  · subst hn
    obtain ⟨b, o, rfl, _⟩ := h.plain (by omega)
    exact read_full b o c l w0 w hok h
  · refine (read_short ao n c l w h hn).mono ?_
    rintro e w1 ⟨rfl, rfl⟩
    exact ⟨rfl, hok, Below.refl _ _⟩
end Go.Proofs.YtecjkkipglldlaaGreatDoor
