/- The walks of package closure: sign, Prefix; item's May, by an item's fields. -/
import Derived.Test.YtmlkknbndglgaaaGreatDoorKYa
import Derived.Test.YtmlkknbndglgaaaGreatDoorJ14
namespace Go.Proofs.YtmlkknbndglgaaaGreatDoor
open Go.RowKit

set_option maxRecDepth 100000 in
theorem sign_any (c : UInt8) (w : World) :
    Calls Tryz.prog 48 #[.int .u8 c.toNat] w fun e w' => e = .returned (.bool (signB c)) ∧ w' = w := by
  go_enter Tryz.func48, Tryz.ntmps48
  by_cases h1 : 97 ≤ c.toNat
  · have h1i : (97 : Int) ≤ (c.toNat : Int) := by omega
    by_cases h2 : c.toNat ≤ 122
    · have h2i : (c.toNat : Int) ≤ 122 := by omega
      go_wp2
      go_ret
      exact ⟨ret_bool (by unfold signB; rw [decide_eq_true h1, decide_eq_true h2]; rfl), rfl⟩
    · have h2i : (122 : Int) < (c.toNat : Int) := by omega
      have h3 : ¬ c.toNat ≤ 57 := by omega
      have h3i : (57 : Int) < (c.toNat : Int) := by omega
      have h4i : (48 : Int) ≤ (c.toNat : Int) := by omega
      go_wp2
      go_ret
      exact ⟨ret_bool (by unfold signB; rw [decide_eq_false h2, decide_eq_false h3]; simp; omega), rfl⟩
  · have h1i : (c.toNat : Int) < 97 := by omega
    by_cases h2 : 48 ≤ c.toNat
    · have h2i : (48 : Int) ≤ (c.toNat : Int) := by omega
      by_cases h3 : c.toNat ≤ 57
      · have h3i : (c.toNat : Int) ≤ 57 := by omega
        go_wp2
        go_ret
        exact ⟨ret_bool (by unfold signB; rw [decide_eq_false h1, decide_eq_true h2, decide_eq_true h3]; rfl), rfl⟩
      · have h3i : (57 : Int) < (c.toNat : Int) := by omega
        go_wp2
        go_ret
        exact ⟨ret_bool (by unfold signB; rw [decide_eq_false h1, decide_eq_true h2, decide_eq_false h3]; simp; omega), rfl⟩
    · have h2i : (c.toNat : Int) < 48 := by omega
      go_wp2
      go_ret
      exact ⟨ret_bool (by unfold signB; rw [decide_eq_false h1, decide_eq_false h2]; rfl), rfl⟩
theorem sign_ok (c : UInt8) (b : Bool) (w : World) (hv : signB c = b) :
    Calls Tryz.prog 48 #[.int .u8 c.toNat] w fun e w' => e = .returned (.bool b) ∧ w' = w := by
  subst hv; exact sign_any c w

theorem pref_short {p : ByteArray} (h : ¬ 4 ≤ p.size) : prefB p = false := by unfold prefB; rw [decide_eq_false h]; rfl
theorem pref_long {p : ByteArray} (h : ¬ p.size ≤ 16) : prefB p = false := by unfold prefB; rw [decide_eq_false h]; simp
theorem pref_first {p : ByteArray} (h : p.data.toList[0]? ≠ some 47) : prefB p = false := by unfold prefB; rw [decide_eq_false h]; simp
theorem pref_sign {p : ByteArray} {k : Nat} {c : UInt8} (hk : 1 ≤ k) (hc : p.data.toList[k]? = some c) (h : signB c = false) : prefB p = false := by
  have : (p.data.toList.drop 1).all signB = false := by
    rw [List.all_eq_false]
    refine ⟨c, List.mem_of_getElem? (i := k - 1) ?_, by rw [h]; decide⟩
    rw [List.getElem?_drop, show 1 + (k - 1) = k by omega]; exact hc
  unfold prefB; rw [this]; simp
theorem pref_full {p : ByteArray} (h1 : 4 ≤ p.size) (h2 : p.size ≤ 16) (h3 : p.data.toList[0]? = some 47) (h4 : ((p.data.toList.drop 1).take (p.size - 1)).all signB = true) : prefB p = true := by
  unfold prefB
  have : (p.data.toList.drop 1).take (p.size - 1) = p.data.toList.drop 1 := List.take_of_length_le (by rw [List.length_drop, ← Hog.size_len]; omega)
  rw [this] at h4
  rw [decide_eq_true h1, decide_eq_true h2, decide_eq_true h3, h4]; rfl
theorem sign_step {p : ByteArray} {k : Nat} {c : UInt8} (hk : 1 ≤ k) (hc : p.data.toList[k]? = some c) (h : signB c = true) (ha : ((p.data.toList.drop 1).take (k - 1)).all signB = true) : ((p.data.toList.drop 1).take (k + 1 - 1)).all signB = true := by
  have e : k + 1 - 1 = k - 1 + 1 := by omega
  have hd : (p.data.toList.drop 1)[k - 1]? = some c := by rw [List.getElem?_drop, show 1 + (k - 1) = k by omega]; exact hc
  rw [e, List.take_add_one, hd, Option.toList_some, List.all_append, ha]
  simpa using h

set_option maxRecDepth 100000 in
set_option maxHeartbeats 1000000 in
theorem prefix_any (p : ByteArray) (w : World) (hp : p.size ≤ 9223372036854775807) :
    Calls Tryz.prog 25 #[.string p] w fun e w' => e = .returned (.bool (prefB p)) ∧ w' = w := by
  have hpi : (p.size : Int) ≤ 9223372036854775807 := by omega
  go_enter Tryz.func25, Tryz.ntmps25
  by_cases h4 : 4 ≤ p.size
  case neg =>
    have h4i : (p.size : Int) < 4 := by omega
    go_wp2
    go_ret
    exact ⟨ret_bool (pref_short h4).symm, rfl⟩
  have h4i : (4 : Int) ≤ (p.size : Int) := by omega
  by_cases h16 : p.size ≤ 16
  case neg =>
    have h16i : (16 : Int) < (p.size : Int) := by omega
    go_wp2
    go_ret
    exact ⟨ret_bool (pref_long h16).symm, rfl⟩
  have h16i : (p.size : Int) ≤ 16 := by omega
  have h0 : 0 < p.size := by omega
  have h0i : (0 : Int) < (p.size : Int) := by omega
  have HAT := hide (at_byte p 0 h0)
  by_cases hf : p[0] = 47
  case neg =>
    have hb : ((p[0].toNat : Int) != 47) = true := by
      rw [bne_iff_ne]
      intro e
      exact hf (UInt8.toNat_inj.1 (by show p[0].toNat = 47; omega))
    have HF := hide hf
    clear hf
    go_wp2
    go_ret
    exact ⟨ret_bool (pref_first (by rw [HAT.out]; intro e; exact HF.out (Option.some.inj e))).symm, rfl⟩
  have hb : ((p[0].toNat : Int) != 47) = false := by rw [hf]; rfl
  have HF := hide hf
  clear hf
  go_wp2
  go_loop [3] (fun i => ∃ k : Nat, 1 ≤ k ∧ k ≤ p.size ∧ i = .int .i64 k ∧ Hid (((p.data.toList.drop 1).take (k - 1)).all signB = true)) (fun i => p.size - (intOf i).toNat)
  case atStart => exact ⟨1, Nat.le_refl _, by omega, rfl, by simp [Hid]⟩
  case round =>
    obtain ⟨k, hk1, hk, rfl, ha⟩ := hrel
    by_cases hlt : k < p.size
    · have hki : (k : Int) < (p.size : Int) := by omega
      have HAK := hide (at_byte p k hlt)
      cases hs : signB p[k] with
      | false =>
        have HS := hide hs
        clear hs
        go_wp2_with fail
        refine (sign_ok p[k] false w HS.out).mono ?_
        rintro e w1 ⟨rfl, hw⟩
        obtain rfl := hw
        go_wp2
        go_ret
        exact ⟨ret_bool (pref_sign hk1 HAK.out HS.out).symm, rfl⟩
      | true =>
        have HS := hide hs
        clear hs
        go_wp2_with fail
        refine (sign_ok p[k] true w HS.out).mono ?_
        rintro e w1 ⟨rfl, hw⟩
        obtain rfl := hw
        go_wp2
        go_round
        case rel => exact ⟨k + 1, by omega, by omega, by go_num, sign_step hk1 HAK.out HS.out ha.out⟩
        case measure => simp [intOf]; omega
    · have hki : (p.size : Int) ≤ (k : Int) := by omega
      have HE : Hid (k = p.size) := by show k = p.size; omega
      go_wp2
      go_ret
      refine ⟨ret_bool (pref_full h4 h16 (by rw [HAT.out, HF.out]) ?_).symm, rfl⟩
      have := ha.out
      rw [HE.out] at this
      exact this
theorem prefix_ok (p : ByteArray) (b : Bool) (w : World) (hp : p.size ≤ 9223372036854775807) (hv : prefB p = b) :
    Calls Tryz.prog 25 #[.string p] w fun e w' => e = .returned (.bool b) ∧ w' = w := by
  subst hv; exact prefix_any p w hp

theorem mayK_ok (nm : ByteArray) (rs : List ByteArray) (ns : List Nd) (ra : Option Addr) (rn rc : Nat) (ta : Option Addr) (tn tc : Nat) (r : Bool) (w0 w : World) (hok : Ok w0 w) (hf : Fair (nm, rs, ns)) (hr : Txt w (.slice ra rn rc) rs) (ht : Nods w (.slice ta tn tc) ns) (hv : mayI (nm, rs, ns) = r) :
    Calls Tryz.prog 63 #[.agg #[.string nm, .slice ra rn rc, .slice ta tn tc]] w fun e w' => e = .returned (.bool r) ∧ Ok w0 w' ∧ Below w.heap.size w w' := mayI_ok (nm, rs, ns) ra rn rc ta tn tc r w0 w hok hf hr ht hv

end Go.Proofs.YtmlkknbndglgaaaGreatDoor
