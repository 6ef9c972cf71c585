/- The walk of the statements' own awake, chapter 9. -/
import Derived.Test.YtinjbijigjfdfaaGreatDoorKE
import Derived.Test.YtinjbijigjfdfaaGreatDoorKF
import Derived.Test.YtinjbijigjfdfaaGreatDoorKI
namespace Go.Proofs.YtinjbijigjfdfaaGreatDoor
open Go.RowKit

theorem tld_of {act : ByteArray → Bool} {xs R : List ByteArray} (h1 : Hog.rise (plainT R)) (h2 : ∀ x, x ∈ plainT R ↔ x ∈ plainT (seenT act xs)) : toldT act xs = R := by
  unfold toldT
  rw [Hog.pick_one h1 h2, mk_plain]
theorem tld_one {act : ByteArray → Bool} {xs : List ByteArray} {x : ByteArray} (h : seenT act xs = [x]) : toldT act xs = [x] :=
  tld_of (List.pairwise_singleton _ _) (fun y => by rw [h])
theorem tld_none {act : ByteArray → Bool} {xs : List ByteArray} (h : seenT act xs = []) : toldT act xs = [] :=
  tld_of List.Pairwise.nil (fun y => by rw [h])

def kA : ByteArray := ⟨#[48, 49, 50, 51, 52, 53, 54, 97, 45, 120]⟩
def kB : ByteArray := ⟨#[49, 49, 50, 51, 52, 53, 54, 97, 45, 121]⟩
def kH : ByteArray := ⟨#[49, 49, 50, 51, 52, 53, 54, 97]⟩
def kG : ByteArray := ⟨#[47, 103, 110, 117]⟩
def itA : It := (kA, [kB], [(⟨#[]⟩, 2, kH)])
def itB : It := (kB, [], [(⟨#[]⟩, 1, ⟨#[]⟩)])
def twoI : List It := [itA, itB]
theorem two_stood : Stood [] twoI := stand_iff.1 (by decide +kernel)
theorem two_names : namesI twoI = [kA, kB] := rfl
theorem two_refs : ∀ i ∈ twoI, i.2.1 = tellI (namesI twoI) i.2.2 := by
  intro i hi
  rw [two_names]
  unfold twoI at hi
  rcases List.mem_cons.1 hi with rfl | hi
  · exact (tld_one (by decide +kernel)).symm
  · rw [List.mem_singleton.1 hi]
    exact (tld_none (by decide +kernel)).symm
theorem two_clos : Clos twoI := ⟨by decide, two_stood, two_refs⟩
theorem pref_gnu : prefB kG = true := by decide +kernel
theorem pref_ab : prefB ⟨#[47, 97, 47, 98]⟩ = false := by decide +kernel
theorem two_val : valV kG twoI = 0 := val_iff.2 ⟨pref_gnu, two_clos⟩
theorem one_val : valV kG [itA] = 8 := by
  refine val_refs pref_gnu (by decide) (two_stood.sub (by unfold twoI; exact List.cons_sublist_cons.2 (List.nil_sublist _))) fun h => ?_
  have := h itA List.mem_cons_self
  rw [show tellI (namesI [itA]) itA.2.2 = [] from tld_none (by decide +kernel)] at this
  exact absurd this (by decide +kernel)
theorem two_rise : Hog.rise (plainT [kA, kB]) := by
  unfold Hog.rise plainT Hog.lt
  refine List.pairwise_cons.2 ⟨fun y hy => ?_, List.pairwise_singleton _ _⟩
  rw [List.mem_singleton.1 hy]; decide +kernel
theorem two_get : Hog.getK twoI kB = some itB := by decide +kernel
theorem two_getA : Hog.getK twoI kA = some itA := by decide +kernel
theorem two_reach : RchIs twoI [kA] [kA, kB] := by
  refine ⟨two_rise, fun x => ⟨fun hx => ?_, fun hx => hx.there⟩⟩
  have hA : Hog.Rch twoI [kA] kA := .start List.mem_cons_self (by show kA ∈ [kA, kB]; exact List.mem_cons_self)
  rcases List.mem_cons.1 hx with rfl | hx
  · exact hA
  · rw [List.mem_singleton.1 hx]
    exact .step hA two_getA (by show kB ∈ [kB]; exact List.mem_cons_self) (by show kB ∈ [kA, kB]; exact List.mem_cons_of_mem _ List.mem_cons_self)
theorem two_fair : ∀ i ∈ twoI, Fair i := by
  intro i hi
  unfold twoI at hi
  rcases List.mem_cons.1 hi with rfl | hi
  · refine ⟨by decide, by decide, fun x hx => ?_, by decide, fun n hn => ?_⟩
    · rw [List.mem_singleton.1 hx]; decide
    · rw [List.mem_singleton.1 hn]; decide
  · rw [List.mem_singleton.1 hi]
    refine ⟨by decide, by decide, fun x hx => absurd hx (by simp [itB]), by decide, fun n hn => ?_⟩
    rw [List.mem_singleton.1 hn]; decide

set_option maxRecDepth 100000 in
set_option maxHeartbeats 1000000 in
theorem two_ok (w : World) :
    Calls Tryz.prog 21 #[] w fun e w' => ∃ (b : Nat) (ps : List Pr), e = .returned (.slice (some ⟨b, 0, none⟩) 2 2) ∧ ArgS w' (some ⟨b, 0, none⟩) 2 2 ps ∧ itsOf ps = twoI ∧ Below w.heap.size w w' := by
  obtain ⟨W1, h1⟩ : ∃ W, W = w.alloc (.cells #[.string kB] 9) := ⟨_, rfl⟩
  obtain ⟨W2, h2⟩ : ∃ W, W = W1.alloc (.cells #[.string ⟨#[]⟩, .int .i64 2, .string kH] 62) := ⟨_, rfl⟩
  obtain ⟨W3, h3⟩ : ∃ W, W = W2.alloc (.cells #[.string ⟨#[]⟩, .int .i64 1, .string ⟨#[]⟩] 62) := ⟨_, rfl⟩
  have s1 : W1.heap.size = w.heap.size + 1 := by rw [h1]; simp
  have s2 : W2.heap.size = w.heap.size + 2 := by rw [h2]; simp [s1]
  have s3 : W3.heap.size = w.heap.size + 3 := by rw [h3]; simp [s2]
  have b1 : Below w.heap.size w W1 := by rw [h1]; exact below_box _ _
  have b2 : Below W1.heap.size W1 W2 := by rw [h2]; exact below_box _ _
  have b3 : Below W2.heap.size W2 W3 := by rw [h3]; exact below_box _ _
  have a1 : Arg W1 (some ⟨w.heap.size, 0, none⟩) 1 1 [kB] := by rw [h1]; exact arg_one w kB
  have a2 : ArgN W2 (some ⟨w.heap.size + 1, 0, none⟩) 1 1 [(⟨#[]⟩, 2, kH)] := by
    obtain ⟨ao, c, e, ha⟩ := (OwnN.made W1 [((⟨#[]⟩ : ByteArray), 2, kH)] (by unfold maxLen; simp)).arg
    rw [h2, ← s1]
    injection e with e1 e2 e3
    subst e1; subst e3
    exact ha
  have a3 : ArgN W3 (some ⟨w.heap.size + 2, 0, none⟩) 1 1 [(⟨#[]⟩, 1, ⟨#[]⟩)] := by
    obtain ⟨ao, c, e, ha⟩ := (OwnN.made W2 [((⟨#[]⟩ : ByteArray), 1, (⟨#[]⟩ : ByteArray))] (by unfold maxLen; simp)).arg
    rw [h3, ← s2]
    injection e with e1 e2 e3
    subst e1; subst e3
    exact ha
  obtain ⟨ps, hps⟩ : ∃ ps : List Pr, ps = [((kA, (some ⟨w.heap.size, 0, none⟩, 1, 1), (some ⟨w.heap.size + 1, 0, none⟩, 1, 1)), itA), ((kB, (none, 0, 0), (some ⟨w.heap.size + 2, 0, none⟩, 1, 1)), itB)] := ⟨_, rfl⟩
  have hl : ps.length = 2 := by rw [hps]; rfl
  have hO := OwnS.made W3 ps (by rw [hl]; unfold maxLen; omega)
  have he : ∀ p ∈ ps, IsI (W3.alloc (.cells (rflat ps).toArray 29)) p := by
    intro p hp
    have b4 := below_box W3 (.cells (rflat ps).toArray 29)
    rw [hps] at hp
    rcases List.mem_cons.1 hp with e | hp
    · rw [e]; exact ⟨rfl, ((a1.below b2).below b3).below b4, (a2.below b3).below b4⟩
    · rw [List.mem_singleton.1 hp]
      exact ⟨rfl, ⟨rfl, fun _ => ⟨rfl, rfl⟩, Nat.le_refl _, fun ad e => by cases e⟩, a3.below b4⟩
  obtain ⟨ao, c, e, hA⟩ := hO.arg he
  rw [hl] at e hA
  injection e with e1 e2 e3
  subst e1; subst e3
  have HB : Hid (Below w.heap.size w (W3.alloc (.cells (rflat ps).toArray 29))) := below_two b1 (below_two b2 (below_two b3 (below_box _ _)))
  have HI : Hid (itsOf ps = twoI) := by rw [hps]; exact hide rfl
  have HA : Hid (ArgS (W3.alloc (.cells (rflat ps).toArray 29)) (some ⟨w.heap.size + 3, 0, none⟩) 2 2 ps) := by rw [← s3]; exact hide hA
  have HW : Hid (W3.alloc (.cells (rflat ps).toArray 29) = (((w.alloc (.cells #[.string kB] 9)).alloc (.cells #[.string ⟨#[]⟩, .int .i64 2, .string kH] 62)).alloc (.cells #[.string ⟨#[]⟩, .int .i64 1, .string ⟨#[]⟩] 62)).alloc (.cells #[.string kA, .slice (some ⟨w.heap.size, 0, none⟩) 1 1, .slice (some ⟨w.heap.size + 1, 0, none⟩) 1 1, .string kB, .slice none 0 0, .slice (some ⟨w.heap.size + 2, 0, none⟩) 1 1] 29)) := by
    rw [h3, h2, h1, hps]; exact hide rfl
  rw [HW.out] at HB HA
  clear hA hO he a1 a2 a3 b1 b2 b3 s1 s2 s3 h1 h2 h3 hps hl HW
  go_enter Tryz.func21, Tryz.ntmps21
  go_wp2
  go_ret
  exact ⟨w.heap.size + 3, rfl, ps, HA.out, HI.out, HB.out⟩

theorem two_len {ps : List Pr} (h : itsOf ps = twoI) : ps.length = 2 := by rw [← its_len, h]; rfl
theorem two_one {ps : List Pr} (h : itsOf ps = twoI) : itsOf (ps.take 1) = [itA] := by
  unfold itsOf at h ⊢
  rw [List.map_take, h]; rfl
theorem two_pair {ps : List Pr} (h : itsOf ps = twoI) : ∀ i ∈ itsOf ps, i.2.1.length < 900000 ∧ i.2.2.length < 900000 := by
  rw [h]; exact fun i hi => ⟨(two_fair i hi).refs, (two_fair i hi).tree⟩

set_option maxRecDepth 100000 in
set_option maxHeartbeats 4000000 in
theorem awake9_ok (w0 w : World) (hok : Ok w0 w) :
    Calls Tryz.prog 6 #[] w fun e w' => e = .returned (.bool true) ∧ Ok w0 w' ∧ Below w.heap.size w w' := by
  have HOK := hide hok
  clear hok
  go_enter Tryz.func6, Tryz.ntmps6
  go_wp2_with fail
  refine (two_ok w).mono ?_
  rintro e w1 ⟨b1, ps1, rfl, ha1, hi1, hb1⟩
  have HA1 := hide ha1
  have HB1 := hide hb1
  have HI1 := hide hi1
  clear ha1 hb1 hi1
  go_wp2_with fail
  refine (get_hit _ ps1 kB itB w1 HA1.out.sls (by rw [two_len HI1.out]; decide) (two_pair HI1.out) (by rw [HI1.out]; exact two_get)).mono ?_
  rintro e w2 ⟨ra, rc, ta, tc, base, rfl, _, _, _, _, _, hb2⟩
  have HB2 := hide (below_two HB1.out hb2)
  have HX := hide (BoxI.made w2 kB (.slice ra 0 rc) (.slice ta 1 tc))
  obtain ⟨W2, hW2⟩ : ∃ W, W = w2.alloc (.cells #[.string kB, .slice ra 0 rc, .slice ta 1 tc] 29) := ⟨_, rfl⟩
  rw [← hW2] at HX
  have HB22 : Hid (Below w.heap.size w W2) := by rw [hW2]; exact below_two HB2.out (below_box _ _)
  have HW := hide hW2.symm
  clear hb2 HB2 HA1 HB1 HI1 hW2
  go_wp2_with fail
  rw [show (w2.alloc (.cells #[.string itB.1, .slice ra itB.2.1.length rc, .slice ta itB.2.2.length tc] 29)) = W2 from HW.out]
  clear HW
  refine (prefix_ok kG true W2 (by decide) pref_gnu).mono ?_
  rintro e w3 ⟨rfl, hw3⟩
  obtain rfl := hw3
  go_wp2_with fail
  refine (prefix_ok _ false w3 (by decide) pref_ab).mono ?_
  rintro e w4 ⟨rfl, hw4⟩
  obtain rfl := hw4
  go_wp2_with fail
  refine (two_ok w4).mono ?_
  rintro e w5 ⟨b5, ps5, rfl, ha5, hi5, hb5⟩
  have HI5 : Hid (Its w5 (.slice (some ⟨b5, 0, none⟩) 2 2) twoI) := by rw [← hi5]; exact ha5.sls.its
  have HB5 := hide (below_two HB22.out hb5)
  have HX5 := hide (HX.out.below hb5)
  clear ha5 hb5 hi5 HB22 HX
  go_wp2_with fail
  refine (validate_ok kG _ twoI 0 w0 w5 (HOK.out.next HB5.out) HI5.out (by decide) (by unfold maxLen; decide) two_fair two_val).mono ?_
  rintro e w6 ⟨rfl, ok6, hb6⟩
  have HB6 := hide (below_two HB5.out hb6)
  have HX6 := hide (HX5.out.below hb6)
  clear hb6 HB5 HX5 HI5 ok6
  go_wp2_with fail
  refine (two_ok w6).mono ?_
  rintro e w7 ⟨b7, ps7, rfl, ha7, hi7, hb7⟩
  have HI7 : Hid (Its w7 (.slice (some ⟨b7, 0, none⟩) 1 2) [itA]) := by rw [← two_one hi7]; exact (ha7.take (k := 1) (by omega)).sls.its
  have HB7 := hide (below_two HB6.out hb7)
  have HX7 := hide (HX6.out.below hb7)
  clear ha7 hb7 hi7 HB6 HX6
  go_wp2_with fail
  refine (validate_ok kG _ [itA] 8 w0 w7 (HOK.out.next HB7.out) HI7.out (by decide) (by unfold maxLen; decide) (fun i hi => two_fair i (by rw [List.mem_singleton.1 hi]; exact List.mem_cons_self)) one_val).mono ?_
  rintro e w8 ⟨rfl, ok8, hb8⟩
  have HB8 := hide (below_two HB7.out hb8)
  have HX8 := hide (HX7.out.below hb8)
  obtain ⟨⟨x0, x1, x2⟩, _, hx⟩ := HX8.out.facts
  have hq : (kB.toList == [49, 49, 50, 51, 52, 53, 54, 97, 45, 121]) = true := by rw [Lib.toList_data]; rfl
  clear hb8 HB7 HX7 HI7 ok8
  go_wp2_with fail
  refine (two_ok w8).mono ?_
  rintro e w9 ⟨b9, ps9, rfl, ha9, hi9, hb9⟩
  have HI9 : Hid (Its w9 (.slice (some ⟨b9, 0, none⟩) 2 2) twoI) := by rw [← hi9]; exact ha9.sls.its
  have HB9 := hide (below_two HB8.out hb9)
  have HI10 := hide (HI9.out.below (below_box w9 (.cells #[.string kA] 9)))
  have HU10 := hide (arg_one w9 kA).txt
  have HB10 := hide (below_two HB9.out (below_box w9 (.cells #[.string kA] 9)))
  clear ha9 hb9 hi9 HB8 HX8 x0 x1 x2 hx hq HI9 HB9
  go_wp2_with fail
  refine (reach_ok _ _ twoI [kA] [kA, kB] _ HI10.out (by decide) HU10.out (by decide) (fun i hi => (two_fair i hi).refs) two_reach).mono ?_
  rintro e w11 ⟨a11, c11, rfl, ho11, hb11⟩
  have HO12 := hide (ho11.alloc (.cells #[.string kA, .string kB] 9))
  have HT12 := hide (Txt.two w11 kA kB)
  have HB12 := hide (below_two (below_two HB10.out hb11) (below_box w11 (.cells #[.string kA, .string kB] 9)))
  clear ho11 hb11 HI10 HU10 HB10
  go_wp2_with fail
  refine (same_any _ _ [kA, kB] [kA, kB] _ HO12.out.txt HT12.out (by decide)).mono ?_
  rintro e w13 ⟨rfl, hb13⟩
  rw [decide_eq_true rfl]
  have HB13 := hide (below_two HB12.out hb13)
  clear hb13
  go_wp2
  go_ret
  exact ⟨rfl, HOK.out.next HB13.out, HB13.out⟩
end Go.Proofs.YtinjbijigjfdfaaGreatDoor
