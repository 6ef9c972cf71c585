/- The walks of package closure: referring, Validate. -/
import Derived.Test.YtinjbijigjfdfaaGreatDoorKD
import Derived.Deep.RegionHeld
import Derived.RegionTactic
namespace Go.Proofs.YtinjbijigjfdfaaGreatDoor
open Go.RowKit

theorem refers_step {names : List ByteArray} {is : List It} {k : Nat} {i : It} (hi : is[k]? = some i) (h : i.2.1 = tellI names i.2.2) (ha : refersB names (is.take k) = true) : refersB names (is.take (k + 1)) = true := by
  obtain ⟨hk, rfl⟩ := List.getElem?_eq_some_iff.1 hi
  unfold refersB at ha ⊢
  rw [List.take_succ_eq_append_getElem hk, List.all_append, ha]
  simpa using h
theorem refers_fall {names : List ByteArray} {is : List It} {k : Nat} {i : It} (hi : is[k]? = some i) (h : ¬ i.2.1 = tellI names i.2.2) : refersB names is = false := by
  unfold refersB
  rw [List.all_eq_false]
  exact ⟨i, List.mem_of_getElem? hi, by simpa using h⟩

set_option maxRecDepth 100000 in
set_option maxHeartbeats 4000000 in
theorem referring_some (b o c n : Nat) (is : List It) (q : Int) (w : World) (hn : n = is.length) (h8 : n ≤ 8) (hr : RunI w b o is) (hc : n ≤ c) (hf : ∀ i ∈ is, Fair i) (hv : (if refersB (namesI is) is = true then (0 : Int) else 8) = q) :
    Calls Tryz.prog 31 #[.slice (some ⟨b, o, none⟩) n c] w fun e w' => e = .returned (.int .i64 q) ∧ Below w.heap.size w w' := by
  have HR := hide hr
  have HN := hide hn
  have HF := hide hf
  have HV := hide hv
  have HITS : Hid (Its w (.slice (some ⟨b, o, none⟩) n c) is) := .inr ⟨b, o, c, by rw [← hn], by omega, hr⟩
  obtain ⟨names, hnames⟩ : ∃ l, namesI is = l := ⟨_, rfl⟩
  have HNM := hide hnames
  have HZN : Hid (∀ x ∈ names, x.size ≤ maxLen) := by
    rw [← hnames]
    intro x hx
    obtain ⟨i, hi, rfl⟩ := List.mem_map.1 hx
    have := (hf i hi).name
    unfold maxLen; omega
  have HLN : Hid (names.length = n) := by rw [← hnames, hn]; unfold namesI; exact hide (List.length_map _)
  rw [hnames] at HV
  clear hr hn hf hv hnames
  go_enter Tryz.func31, Tryz.ntmps31
  go_wp2_with fail
  refine (names_ok _ is names w HITS.out (by have := HN.out; omega) HNM.out).mono ?_
  rintro e w1 ⟨na, nc, rfl, ho1, hb1⟩
  have HNA : Hid (Own w.heap.size w1 (.slice na n nc) names) := by rw [HN.out]; exact hide ho1
  have HB1 := hide hb1
  rw [← HN.out]
  clear ho1 hb1
  go_wp2
  go_loopw [10] (fun i wr => ∃ k : Nat, k ≤ n ∧ i = .int .i64 k ∧ Hid (refersB names (is.take k) = true) ∧ Hid (Below w1.heap.size w1 wr)) (fun i _ => n - (intOf i).toNat)
  case atStart => exact ⟨0, Nat.zero_le _, rfl, rfl, Below.refl _ _⟩
  case round =>
    obtain ⟨k, hk, rfl, ha, hbl⟩ := hrel
    by_cases hlt : k < n
    · obtain ⟨i, hi⟩ : ∃ i, is[k]? = some i := ⟨is[k]'(by have := HN.out; omega), List.getElem?_eq_some_iff.2 ⟨_, rfl⟩⟩
      have HBW := hide (below_two HB1.out hbl.out)
      obtain ⟨ra, rn, rc, ta, tn, tc, q0, q1, q2, q3, q4⟩ := (HR.out.2 k i hi).below HBW.out
      have HFI := hide (HF.out i (List.mem_of_getElem? hi))
      have HI := hide hi
      have hki : (k : Int) < (n : Int) := by omega
      obtain ⟨W, hW⟩ : ∃ W, W = wr.alloc (.cells #[.string i.1, .slice ra rn rc, .slice ta tn tc] 29) := ⟨_, rfl⟩
      have HB0 : Hid (Below wr.heap.size wr W) := by rw [hW]; exact below_box _ _
      have c1 : W.cell? ⟨wr.heap.size, 1, none⟩ = some (.slice ra rn rc) := by rw [hW]; simp
      have c2 : W.cell? ⟨wr.heap.size, 2, none⟩ = some (.slice ta tn tc) := by rw [hW]; simp
      have hsz : wr.heap.size < W.heap.size := by rw [hW]; simp
      have HW := hide hW.symm
      have Q3 := hide (q3.below HB0.out)
      have Q4 := hide (q4.below HB0.out)
      have QN := hide (HNA.out.txt.below (below_two hbl.out HB0.out))
      clear hi q3 q4 hW
      obtain ⟨R, hR⟩ : ∃ R, tellI names i.2.2 = R := ⟨_, rfl⟩
      have HRR := hide hR
      clear hR
      obtain ⟨z, hz⟩ : ∃ z, decide (i.2.1 = R) = z := ⟨_, rfl⟩
      have HZ := hide hz
      clear hz
      go_wp2_with fail
      rw [HW.out]
      have hS0 : Below W.heap.size W W.drew := (Below.refl _ W).drew
      refine wp_region_held (S := fun w' => Below W.heap.size W w') (by kernel_rfl) ?_
      change wpAnyH _ _ _ _ _ _ _ _ (World.drew _)
      refine wpAnyH_take (i := 0) (v := (.pointer (some ⟨wr.heap.size, 1, none⟩))) rfl (by kernel_rfl) (by kernel_rfl) (by kernel_rfl) (fun _ _ _ h => h) (Or.inl ⟨by kernel_rfl, ?_⟩) hS0 ?_
      · intro w' hw'
        go_simp
      refine wpAnyH_take (i := 1) (v := (.slice ra rn rc)) rfl (by kernel_rfl) (by kernel_rfl) (by kernel_rfl) (fun _ _ _ h => h) (Or.inl ⟨by kernel_rfl, ?_⟩) hS0 ?_
      · intro w' hw'
        have c9 := (hw'.cell (p := ⟨wr.heap.size, 1, none⟩) hsz).trans c1
        go_simp
      refine wpAnyH_take (i := 2) (v := (.pointer (some ⟨wr.heap.size, 2, none⟩))) rfl (by kernel_rfl) (by kernel_rfl) (by kernel_rfl) (fun _ _ _ h => h) (Or.inl ⟨by kernel_rfl, ?_⟩) hS0 ?_
      · intro w' hw'
        go_simp
      refine wpAnyH_take (i := 3) (v := (.slice ta tn tc)) rfl (by kernel_rfl) (by kernel_rfl) (by kernel_rfl) (fun _ _ _ h => h) (Or.inl ⟨by kernel_rfl, ?_⟩) hS0 ?_
      · intro w' hw'
        have c9 := (hw'.cell (p := ⟨wr.heap.size, 2, none⟩) hsz).trans c2
        go_simp
      refine wpAnyH_take (i := 4) (v := (.slice na n nc)) rfl (by kernel_rfl) (by kernel_rfl) (by kernel_rfl) (fun _ _ _ h => h) (Or.inl ⟨by kernel_rfl, ?_⟩) hS0 ?_
      · intro w' hw'
        go_simp
      refine wpAnyH_ready (rs := [5]) (by kernel_rfl) (by simp) (AllReadyH.cons rfl (fun K hK => ?_) AllReadyH.nil)
      go_simp
      refine (tree_ok _ i.2.2 _ names R W.drew (Q4.out.below hS0) (by have := HFI.out.tree; omega) (fun x hx => by have := (HFI.out.path x hx).2; omega) (QN.out.below hS0) (by have := HLN.out; omega) HZN.out HRR.out).mono ?_
      rintro e w4 ⟨a4, c4, rfl, ho4, hb4⟩
      have HO4 := hide ho4.txt
      have hS4 : Below W.heap.size W w4 := below_two hS0 hb4
      clear ho4 hb4
      refine hK.out _ _ hS4 (fun _ => ?_)
      clear hK K
      refine wpAnyH_ready (rs := [6]) (by kernel_rfl) (by simp) (AllReadyH.cons rfl (fun K hK => ?_) AllReadyH.nil)
      go_simp
      refine (eqT_any _ _ i.2.1 R w4 (Q3.out.below hS4) HO4.out (by have := HFI.out.refs; omega)).mono ?_
      rintro e w5 ⟨rfl, hb5⟩
      have hS5 : Below W.heap.size W w5 := below_two hS4 hb5
      rw [HZ.out]
      clear hb5
      refine hK.out _ _ hS5 (fun _ => ?_)
      clear hK K
      refine wpAnyH_ready (rs := [7]) (by kernel_rfl) (by simp) (AllReadyH.cons rfl (fun K hK => ?_) AllReadyH.nil)
      go_simp
      refine hK.out _ _ hS5 (fun _ => ?_)
      clear hK K
      refine wpAnyH_done (by kernel_rfl) ?_ _
      have HB5 := hide (below_two hbl.out (below_two HB0.out hS5))
      clear hS0 hS4 hS5 c1 c2
      cases z with
      | false =>
        have HE : Hid (q = 8) := by
          rw [← HV.out, refers_fall HI.out (by rw [HRR.out]; exact of_decide_eq_false HZ.out)]; exact if_neg (by decide)
        go_wp2
        go_ret
        exact ⟨by rw [HE.out]; rfl, below_two HB1.out HB5.out⟩
      | true =>
        have HE := hide (refers_step HI.out (by rw [HRR.out]; exact of_decide_eq_true HZ.out) ha.out)
        go_wp2
        go_roundw
        case rel => exact ⟨k + 1, by omega, by go_num, HE, HB5⟩
        case measure => simp [intOf]; omega
    · have hki : (n : Int) ≤ (k : Int) := by omega
      have HE : Hid (q = 0) := by
        have h1 := ha.out
        rw [List.take_of_length_le (by have := HN.out; omega)] at h1
        rw [← HV.out, h1]; exact if_pos rfl
      go_wp2
      go_ret
      exact ⟨by rw [HE.out]; rfl, below_two HB1.out hbl.out⟩

set_option maxRecDepth 100000 in
set_option maxHeartbeats 400000 in
theorem referring_none (a : Option Addr) (c : Nat) (w : World) :
    Calls Tryz.prog 31 #[.slice a 0 c] w fun e w' => e = .returned (.int .i64 0) ∧ Below w.heap.size w w' := by
  go_enter Tryz.func31, Tryz.ntmps31
  go_wp2_with fail
  refine (names_none a c w).mono ?_
  rintro e w1 ⟨na, nc, rfl, _, hb1⟩
  go_wp2
  go_loop [10] (fun i => i = .int .i64 0) (fun _ => 0)
  case atStart => rfl
  case round =>
    subst hrel
    go_wp2
    go_ret
    exact ⟨rfl, hb1⟩
set_option maxRecDepth 100000 in
set_option maxHeartbeats 400000 in
theorem standing9_none (a : Option Addr) (c : Nat) (w : World) :
    Calls Tryz.prog 30 #[.slice a 0 c] w fun e w' => e = .returned (.int .i64 0) ∧ w' = w := by
  go_enter Tryz.func30, Tryz.ntmps30
  go_wp2
  go_loop [3, 9] (fun u i => u = .string ⟨#[]⟩ ∧ i = .int .i64 0) (fun _ _ => 0)
  case atStart => exact ⟨rfl, rfl⟩
  case round =>
    obtain ⟨rfl, rfl⟩ := hrel
    go_wp2
    go_ret
    exact ⟨rfl, rfl⟩
theorem refers_nil : refersB (namesI []) [] = true := rfl
theorem standing9_ok (v : Value) (is : List It) (r : Int) (w0 w : World) (hok : Ok w0 w) (h : Its w v is) (h8 : is.length ≤ 8) (hf : ∀ i ∈ is, Fair i) (hv : standV [] is = r) :
    Calls Tryz.prog 30 #[v] w fun e w' => e = .returned (.int .i64 r) ∧ Ok w0 w' ∧ Below w.heap.size w w' := by
  rcases h with ⟨rfl, a, c, rfl⟩ | ⟨b, o, c, rfl, hc, hr⟩
  · have : r = 0 := hv.symm
    subst this
    refine (standing9_none a c w).mono ?_
    rintro e w' ⟨rfl, rfl⟩
    exact ⟨rfl, hok, Below.refl _ _⟩
  · exact standing9_some b o c is.length is r w0 w hok rfl h8 hr hf hv
theorem referring_ok (v : Value) (is : List It) (q : Int) (w : World) (h : Its w v is) (h8 : is.length ≤ 8) (hf : ∀ i ∈ is, Fair i) (hv : (if refersB (namesI is) is = true then (0 : Int) else 8) = q) :
    Calls Tryz.prog 31 #[v] w fun e w' => e = .returned (.int .i64 q) ∧ Below w.heap.size w w' := by
  rcases h with ⟨rfl, a, c, rfl⟩ | ⟨b, o, c, rfl, hc, hr⟩
  · have : q = 0 := by rw [← hv, refers_nil]; rfl
    subst this
    exact referring_none a c w
  · exact referring_some b o c is.length is q w rfl h8 hr hc hf hv

set_option maxRecDepth 100000 in
set_option maxHeartbeats 1000000 in
theorem validate_ok (p : ByteArray) (v : Value) (is : List It) (r : Int) (w0 w : World) (hok : Ok w0 w) (h : Its w v is) (hp : p.size ≤ 9223372036854775807) (hm : is.length ≤ maxLen) (hf : ∀ i ∈ is, Fair i) (hv : valV p is = r) :
    Calls Tryz.prog 16 #[.string p, v] w fun e w' => e = .returned (.int .i64 r) ∧ Ok w0 w' ∧ Below w.heap.size w w' := by
  have HI := hide h
  have HV := hide hv
  have HF := hide hf
  have HOK := hide hok
  obtain ⟨a, c, rfl⟩ := h.form
  obtain ⟨n, hn⟩ : ∃ n, n = is.length := ⟨_, rfl⟩
  rw [← hn] at HI hm ⊢
  have HN := hide hn
  unfold maxLen at hm
  clear h hv hf hok hn
  cases h1 : prefB p with
  | false =>
    have H1 := hide h1
    clear h1
    have HE : Hid (r = 11) := by rw [← HV.out]; exact val_pref.2 H1.out
    go_enter Tryz.func16, Tryz.ntmps16
    go_wp2_with fail
    refine (prefix_ok p false w hp H1.out).mono ?_
    rintro e w1 ⟨rfl, hw⟩
    obtain rfl := hw
    go_wp2
    go_ret
    exact ⟨by rw [HE.out]; rfl, HOK.out, Below.refl _ _⟩
  | true =>
    have H1 := hide h1
    clear h1
    go_enter Tryz.func16, Tryz.ntmps16
    go_wp2_with fail
    refine (prefix_ok p true w hp H1.out).mono ?_
    rintro e w1 ⟨rfl, hw⟩
    obtain rfl := hw
    by_cases h8 : n ≤ 8
    case neg =>
      have h8i : (8 : Int) < (n : Int) := by omega
      have HE : Hid (r = 3) := by
        rw [← HV.out]; unfold valV; rw [if_pos H1.out, if_neg (by rw [← HN.out]; exact h8)]; exact hide rfl
      go_wp2
      go_ret
      exact ⟨by rw [HE.out]; rfl, HOK.out, Below.refl _ _⟩
    have h8i : (n : Int) ≤ 8 := by omega
    have HVE : Hid (valV p is = if standV [] is = 0 then (if refersB (namesI is) is = true then 0 else 8) else standV [] is) := by
      unfold valV; rw [if_pos H1.out, if_pos (by rw [← HN.out]; exact h8)]; exact hide rfl
    obtain ⟨s, hs⟩ : ∃ s, standV [] is = s := ⟨_, rfl⟩
    rw [hs] at HVE
    have HS := hide hs
    clear hs
    go_wp2_with fail
    refine (standing9_ok _ is s w0 _ HOK.out HI.out (by have := HN.out; omega) HF.out HS.out).mono ?_
    rintro e w2 ⟨rfl, ok2, hb2⟩
    have HB2 := hide hb2
    have OK2 := hide ok2
    clear hb2 ok2
    by_cases h0 : s = 0
    case neg =>
      have hb : (s != 0) = true := by rw [bne_iff_ne]; exact h0
      have HE : Hid (r = s) := by rw [← HV.out, HVE.out, if_neg h0]; exact hide rfl
      clear h0
      go_wp2
      go_ret
      exact ⟨by rw [HE.out]; rfl, OK2.out, HB2.out⟩
    have hb : (s != 0) = false := by rw [h0]; rfl
    have HE : Hid ((if refersB (namesI is) is = true then (0 : Int) else 8) = r) := by rw [← HV.out, HVE.out, if_pos h0]; exact hide rfl
    clear h0
    go_wp2_with fail
    refine (referring_ok _ is r _ (HI.out.below HB2.out) (by have := HN.out; omega) HF.out HE.out).mono ?_
    rintro e w3 ⟨rfl, hb3⟩
    go_wp2
    go_ret
    exact ⟨rfl, OK2.out.next hb3, below_two HB2.out hb3⟩
end Go.Proofs.YtinjbijigjfdfaaGreatDoor
