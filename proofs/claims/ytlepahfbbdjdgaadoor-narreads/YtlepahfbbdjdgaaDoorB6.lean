/- The walks of package nar: the reader: text, node. -/
import Derived.Test.YtlepahfbbdjdgaaDoorB5
import Derived.Laws.BytesArg
namespace Go.Proofs.YtlepahfbbdjdgaaDoor
open Go.RowKit

theorem setN_from {l : List UInt8} {k : Nat} {b : UInt8} (h : l[k]? = some b) (hb : (b != 0) = true) : setN l = true := List.any_eq_true.2 ⟨b, List.mem_of_getElem? h, hb⟩
theorem setN_step {l : List UInt8} {k : Nat} {b : UInt8} (h : l[k]? = some b) (hb : (b != 0) = false) (hk : setN (l.take k) = false) : setN (l.take (k + 1)) = false := by
  obtain ⟨hl, rfl⟩ := List.getElem?_eq_some_iff.1 h
  rw [List.take_succ_eq_append_getElem hl]
  unfold setN at hk ⊢
  rw [List.any_append, hk]
  simpa using hb
set_option maxRecDepth 100000 in
set_option maxHeartbeats 1000000 in
theorem indexB_ok (b : Option Addr) (n c : Nat) (l : List UInt8) (w : World) (h : ArgB w b n c l) (hn : n < 1000000) :
    Calls Tryd.prog 51 #[.slice b n c, .func (.func 43) #[] #[]] w fun e w' => ∃ r : Int, e = .returned (.int .i64 r) ∧ decide (0 ≤ r) = setN l ∧ w' = w := by
  have HA := hide h
  have HL := hide h.len
  clear h
  go_enter Tryd.func51, Tryd.ntmps51
  go_wp2
  go_loopw [5, 8] (fun _ i wr => ∃ k : Nat, k ≤ n ∧ i = .int .i64 k ∧ Hid (setN (l.take k) = false) ∧ wr = w) (fun _ i _ => n - (intOf i).toNat)
  case atStart => exact ⟨0, by omega, rfl, hide rfl, rfl⟩
  case round =>
    obtain ⟨k, hk, rfl, HS, rfl⟩ := hrel
    by_cases hlt : k < n
    · have hki : (k : Int) < (n : Int) := by omega
      obtain ⟨bb, o, eb, _⟩ := HA.out.plain (show 0 < n by omega)
      subst eb
      obtain ⟨z, hz⟩ : ∃ z, l[k]? = some z := ⟨l[k]'(by have := HL.out; omega), List.getElem?_eq_some_iff.2 ⟨_, rfl⟩⟩
      have hc := HA.out.at hz
      have HZ := hide hz
      obtain ⟨y, hy⟩ : ∃ y, y = (z != 0) := ⟨_, rfl⟩
      have HY := hide hy
      clear hz hy
      go_wp2_with fail
      refine (isSet_ok z _).mono ?_
      rintro e w1 ⟨rfl, rfl⟩
      rw [← HY.out]
      cases y with
      | true =>
        go_wp2
        go_ret
        exact ⟨_, rfl, by rw [setN_from HZ.out HY.out.symm]; simp, rfl⟩
      | false =>
        go_wp2
        go_roundw
        case rel => exact ⟨k + 1, by omega, by go_num, hide (setN_step HZ.out HY.out.symm HS.out), trivial⟩
        case measure => simp [intOf]; omega
    · have e : k = n := by omega
      have hs : setN l = false := by have h := HS.out; rw [e, ← HL.out, List.take_length] at h; exact h
      have HS' := hide hs
      clear hs
      go_wp2
      go_ret
      exact ⟨-1, rfl, by rw [HS'.out]; rfl, rfl⟩
set_option maxHeartbeats 800000 in
theorem containsB_ok (b : Option Addr) (n c : Nat) (l : List UInt8) (y : Bool) (w : World) (h : ArgB w b n c l) (hn : n < 1000000) (hy : setN l = y) :
    Calls Tryd.prog 42 #[.slice b n c, .func (.func 43) #[] #[]] w fun e w' => e = .returned (.bool y) ∧ w' = w := by
  have HA := hide h
  have HY := hide hy
  clear h hy
  go_enter Tryd.func42, Tryd.ntmps42
  go_wp2_with fail
  refine (indexB_ok b n c l w HA.out hn).mono ?_
  rintro e w1 ⟨r, rfl, hr, rfl⟩
  have HR := hide hr
  clear hr
  go_wp2
  go_ret
  exact ⟨ret_bool (by rw [HR.out, HY.out]), rfl⟩

theorem str_nums (l : List UInt8) : strOfNums (l.map fun x => (x.toNat : Int)) = Hog.mk l := by
  unfold strOfNums Hog.mk
  rw [List.map_map]
  have e : (l.map ((fun n : Int => UInt8.ofNat n.toNat) ∘ fun x : UInt8 => (x.toNat : Int))) = l := by
    conv => rhs; rw [← List.map_id l]
    apply List.map_congr_left
    intro x _
    simp
  rw [e]
theorem str_bytes {w : World} {ao : Option Addr} {n c : Nat} {l : List UInt8} (h : ArgB w ao n c l) : (convert 22 9 (.slice ao n c)).run Tryd.prog w = .ok (.string (Hog.mk l)) w := by
  by_cases hn : 0 < n
  · obtain ⟨b, o, rfl, _⟩ := h.plain hn
    have hr := run_convert_bytes_arg (P := Tryd.prog) w 22 5 Tryd.underlying22 Tryd.underlying5 b o n c (l.map fun x => (x.toNat : Int)) (by rw [List.length_map]; exact h.len) (fun i hi => by
      have hi' : i < l.length := by rw [h.len]; exact hi
      rw [h.at (List.getElem?_eq_getElem hi')]
      simp [List.getD, hi']) 9 Tryd.underlying9
    rw [hr, str_nums]
  · have h0 : n = 0 := by omega
    subst h0
    have hl : l = [] := List.eq_nil_of_length_eq_zero h.len
    subst hl
    cases ao with
    | none => exact run_convert_bytes_nil (P := Tryd.prog) w 22 5 Tryd.underlying22 Tryd.underlying5 0 c 9 Tryd.underlying9
    | some ad =>
      rw [run_convert_bytes_string w 22 9 5 _ 0 c Tryd.underlying22 Tryd.underlying5 Tryd.underlying9]
      exact run_bytesToString w ad 0 c [] (run_loadCells_list w ad [] (fun j v hj => by simp at hj))

theorem textR_parts (s : RS) (n : Int) (s1 : RS) (x : List UInt8) (s2 : RS) (y : List UInt8) (s3 : RS) (h1 : numR s = (n, s1)) (h2 : takeR n s1 = (x, s2)) (h3 : takeR (fillN x.length) s2 = (y, s3)) :
    textR s = (if (failIf (setN y) s3).2 = true then [] else x, failIf (setN y) s3) := by
  unfold textR textR3
  simp only [h1, h2, h3]
theorem takeR_le {n : Int} {s s' : RS} {x : List UInt8} (h : takeR n s = (x, s')) : x.length ≤ s.1.length ∧ s'.1.length ≤ s.1.length := by
  unfold takeR at h
  split at h
  · cases h; simp
  · cases h; simp; omega
theorem takeR_fill {k : Nat} {s s' : RS} {x : List UInt8} (h : takeR k s = (x, s')) : x.length ≤ k := by
  unfold takeR at h
  split at h
  · cases h; simp
  · cases h; simp; omega

set_option maxRecDepth 100000 in
set_option maxHeartbeats 1000000 in
theorem text_ok (g : Nat) (s : RS) (z : List UInt8) (s' : RS) (w : World) (h : RdAt w g s) (hv : textR s = (z, s')) :
    Calls Tryd.prog 31 #[.pointer (some ⟨g, 0, none⟩)] w fun e w' => e = .returned (.string (Hog.mk z)) ∧ RdAt w' g s' ∧ w.grownBy w' (some g) := by
  obtain ⟨n, s1, h1⟩ : ∃ n s1, numR s = (n, s1) := ⟨_, _, rfl⟩
  obtain ⟨x, s2, h2⟩ : ∃ x s2, takeR n s1 = (x, s2) := ⟨_, _, rfl⟩
  obtain ⟨y, s3, h3⟩ : ∃ y s3, takeR (fillN x.length) s2 = (y, s3) := ⟨_, _, rfl⟩
  rw [textR_parts s n s1 x s2 y s3 h1 h2 h3] at hv
  obtain ⟨t, ht⟩ : ∃ t, setN y = t := ⟨_, rfl⟩
  rw [ht] at hv
  have hy8 : y.length < 8 := by have := takeR_fill h3; have := fillN_lt x.length; omega
  obtain ⟨m, hm⟩ : ∃ m, m = x.length := ⟨_, rfl⟩
  rw [← hm] at h3
  have HH := hide h
  have H1 := hide h1
  have H2 := hide h2
  have H3 := hide h3
  have HT := hide ht
  have HM := hide hm
  have HV := hide hv
  clear h h1 h2 h3 ht hm hv
  go_enter Tryd.func31, Tryd.ntmps31
  go_wp2_with fail
  refine (num_ok g s n s1 w HH.out H1.out).mono ?_
  rintro e w1 ⟨rfl, hr1, hg1⟩
  have HR1 := hide hr1
  have HG1 := hide hg1
  clear hr1 hg1
  go_wp2_with fail
  refine (take_ok g n s1 x s2 w1 HR1.out H2.out).mono ?_
  rintro e w2 ⟨b2, c2, rfl, ha2, hr2, hg2⟩
  rw [← HM.out] at ha2 ⊢
  have HA2 := hide ha2
  have HR2 := hide hr2
  have HG2 := hide (grown_trans HG1.out hg2)
  clear ha2 hr2 hg2
  go_wp2_with fail
  refine (filling_ok m w2).mono ?_
  rintro e w3 ⟨rfl, rfl⟩
  go_wp2_with fail
  refine (take_ok g (fillN m : Nat) s2 y s3 w3 HR2.out H3.out).mono ?_
  rintro e w4 ⟨b4, c4, rfl, ha4, hr4, hg4⟩
  have HA4 := hide ha4
  have HR4 := hide hr4
  have HX4 := hide (HA2.out.grown hg4)
  have HG4 := hide (grown_trans HG2.out hg4)
  clear ha4 hr4 hg4
  go_wp2_with fail
  refine (containsB_ok b4 y.length c4 y t w4 HA4.out.arg (by omega) HT.out).mono ?_
  rintro e w5 ⟨rfl, rfl⟩
  cases t with
  | true =>
    go_wp2_with fail
    refine (fail_ok g s3 w5 HR4.out).mono ?_
    rintro e w6 ⟨rfl, hr6, hg6⟩
    obtain ⟨ao, n6, c6, hcell, _⟩ := id hr6
    obtain ⟨e0, e1, _, _⟩ := reader_cells hcell
    have HR6 := hide hr6
    have HG6 := hide (grown_trans HG4.out hg6)
    clear hr6 hg6 hcell e0
    go_wp2
    go_ret
    have hv := HV.out
    simp [failIf] at hv
    obtain ⟨rfl, rfl⟩ := hv
    exact ⟨rfl, HR6.out, HG6.out⟩
  | false =>
    obtain ⟨ao, n6, c6, hcell, _⟩ := id HR4.out
    obtain ⟨e0, e1, _, _⟩ := reader_cells hcell
    have hv := HV.out
    simp only [failIf, Bool.false_eq_true, if_false] at hv
    obtain ⟨l3, f3⟩ := s3
    clear hcell e0
    cases f3 with
    | true =>
      simp only [if_true, Prod.mk.injEq] at hv
      obtain ⟨rfl, rfl⟩ := hv
      go_wp2
      go_ret
      exact ⟨rfl, HR4.out, HG4.out⟩
    | false =>
      simp only [Bool.false_eq_true, if_false, Prod.mk.injEq] at hv
      obtain ⟨rfl, rfl⟩ := hv
      have hstr := str_bytes HX4.out.arg
      go_wp2
      go_ret
      exact ⟨rfl, HR4.out, HG4.out⟩
end Go.Proofs.YtlepahfbbdjdgaaDoor
