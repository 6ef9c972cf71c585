/- The walks of the document's own answer, chapter 9: Prefix, Names. -/
import Derived.Test.YtmlkknbndglgaaaGreatDoorKY
import Derived.Test.YtmlkknbndglgaaaGreatDoorJ14
import Derived.Test.YtmlkknbndglgaaaGreatDoorXF
import Derived.Test.YtmlkknbndglgaaaGreatDoorXD
namespace Go.Proofs.YtmlkknbndglgaaaGreatDoor
open Go.RowKit

def signG : ByteArray := ⟨#[97, 98, 99, 100, 101, 102, 103, 104, 105, 106, 107, 108, 109, 110, 111, 112, 113, 114, 115, 116, 117, 118, 119, 120, 121, 122, 48, 49, 50, 51, 52, 53, 54, 55, 56, 57]⟩
theorem sign_in (c : UInt8) : decide (c ∈ signG.data.toList) = signB c := by
  have h : ∀ n : Fin 256, decide (UInt8.ofNat n.val ∈ signG.data.toList) = signB (UInt8.ofNat n.val) := by decide +kernel
  have := h ⟨c.toNat, c.toNat_lt⟩
  rw [show UInt8.ofNat (⟨c.toNat, c.toNat_lt⟩ : Fin 256).val = c from UInt8.ofNat_toNat] at this
  exact this

set_option maxRecDepth 100000 in
set_option maxHeartbeats 1000000 in
theorem rprefix_any (p : ByteArray) (w : World) (hp : p.size ≤ 9223372036854775807) :
    Calls Tryz.prog 29 #[.string p] w fun e w' => e = .returned (.bool (prefB p)) ∧ w' = w := by
  have hpi : (p.size : Int) ≤ 9223372036854775807 := by omega
  go_enter Tryz.func29, Tryz.ntmps29
  by_cases h4 : 4 ≤ p.size
  case neg =>
    have h4i : (p.size : Int) < 4 := by omega
    go_wp2
    go_ret
    exact ⟨ret_bool (pref_short h4).symm, rfl⟩
  have h4i : (4 : Int) ≤ (p.size : Int) := by omega
  by_cases h16 : p.size ≤ 16
  case neg =>
    have h16i : (16 : Int) < (p.size : Int) := by omega
    go_wp2
    go_ret
    exact ⟨ret_bool (pref_long h16).symm, rfl⟩
  have h16i : (p.size : Int) ≤ 16 := by omega
  have h0 : 0 < p.size := by omega
  have h0i : (0 : Int) < (p.size : Int) := by omega
  have HAT := hide (at_byte p 0 h0)
  by_cases hf : p[0] = 47
  case neg =>
    have hb : ((p[0].toNat : Int) != 47) = true := by
      rw [bne_iff_ne]
      intro e
      exact hf (UInt8.toNat_inj.1 (by show p[0].toNat = 47; omega))
    have HF := hide hf
    clear hf
    go_wp2
    go_ret
    exact ⟨ret_bool (pref_first (by rw [HAT.out]; intro e; exact HF.out (Option.some.inj e))).symm, rfl⟩
  have hb : ((p[0].toNat : Int) != 47) = false := by rw [hf]; rfl
  have HF := hide hf
  clear hf
  go_wp2
  go_loop [3] (fun i => ∃ k : Nat, 1 ≤ k ∧ k ≤ p.size ∧ i = .int .i64 k ∧ Hid (((p.data.toList.drop 1).take (k - 1)).all signB = true)) (fun i => p.size - (intOf i).toNat)
  case atStart => exact ⟨1, Nat.le_refl _, by omega, rfl, by simp [Hid]⟩
  case round =>
    obtain ⟨k, hk1, hk, rfl, ha⟩ := hrel
    by_cases hlt : k < p.size
    · have hki : (k : Int) < (p.size : Int) := by omega
      have HAK := hide (at_byte p k hlt)
      cases hs : signB p[k] with
      | false =>
        have HS := hide hs
        clear hs
        go_wp2_with fail
        refine (rin_ok signG p[k] false w (by decide) ((sign_in _).trans HS.out)).mono ?_
        rintro e w1 ⟨rfl, hw⟩
        obtain rfl := hw
        go_wp2
        go_ret
        exact ⟨ret_bool (pref_sign hk1 HAK.out HS.out).symm, rfl⟩
      | true =>
        have HS := hide hs
        clear hs
        go_wp2_with fail
        refine (rin_ok signG p[k] true w (by decide) ((sign_in _).trans HS.out)).mono ?_
        rintro e w1 ⟨rfl, hw⟩
        obtain rfl := hw
        go_wp2
        go_round
        case rel => exact ⟨k + 1, by omega, by omega, by go_num, sign_step hk1 HAK.out HS.out ha.out⟩
        case measure => simp [intOf]; omega
    · have hki : (p.size : Int) ≤ (k : Int) := by omega
      have HE : Hid (k = p.size) := by show k = p.size; omega
      go_wp2
      go_ret
      refine ⟨ret_bool (pref_full h4 h16 (by rw [HAT.out, HF.out]) ?_).symm, rfl⟩
      have := ha.out
      rw [HE.out] at this
      exact this
theorem rprefix_ok (p : ByteArray) (b : Bool) (w : World) (hp : p.size ≤ 9223372036854775807) (hv : prefB p = b) :
    Calls Tryz.prog 29 #[.string p] w fun e w' => e = .returned (.bool b) ∧ w' = w := by
  subst hv; exact rprefix_any p w hp

set_option maxRecDepth 100000 in
set_option maxHeartbeats 1000000 in
theorem rnames9_some (b o c n : Nat) (is : List It) (w : World) (hn : n = is.length) (h1 : n < 900000) (hr : RunI w b o is) :
    Calls Tryz.prog 31 #[.slice (some ⟨b, o, none⟩) n c] w fun e w' => ∃ a' c', e = .returned (.slice a' n c') ∧ Own w.heap.size w' (.slice a' n c') (namesI is) ∧ Below w.heap.size w w' := by
  have HN := hide hn
  have HR := hide hr
  clear hn hr
  go_enter Tryz.func31, Tryz.ntmps31
  go_wp2
  go_loopw [3, 4] (fun v i wr => ∃ (k : Nat) (a' : Option Addr) (c' : Nat), k ≤ n ∧ i = .int .i64 k ∧ v = .slice a' k c' ∧ Hid (Own w.heap.size wr (.slice a' k c') (namesI (is.take k))) ∧ Hid (Below w.heap.size w wr)) (fun _ i _ => n - (intOf i).toNat)
  case atStart => exact ⟨0, none, 0, Nat.zero_le _, rfl, rfl, Own.nil _ _, Below.refl _ _⟩
  case round =>
    obtain ⟨k, a', c', hk, rfl, rfl, HO, HB⟩ := hrel
    by_cases hlt : k < n
    · obtain ⟨i, hi⟩ : ∃ i, is[k]? = some i := ⟨is[k]'(by have := HN.out; omega), List.getElem?_eq_some_iff.2 ⟨_, rfl⟩⟩
      obtain ⟨ra, rn, rc, ta, tn, tc, q0, _, _, _, _⟩ := (HR.out.2 k i hi).below HB.out
      have hki : (k : Int) < (n : Int) := by omega
      have hbs : w.heap.size ≤ wr.heap.size := HB.out.size
      have HOA := hide (HO.out.alloc (.cells #[.string i.1] 9))
      have HA := hide (arg_one wr i.1)
      have HNL : Hid ((namesI (is.take k)).length = k) := by unfold namesI; rw [List.length_map, List.length_take, ← HN.out]; exact Nat.min_eq_left hk
      have HST : Hid (namesI (is.take k) ++ [i.1] = namesI (is.take (k + 1))) := by
        obtain ⟨hk', rfl⟩ := List.getElem?_eq_some_iff.1 hi
        unfold namesI
        rw [List.take_succ_eq_append_getElem hk', List.map_append]; exact rfl
      have HBA := hide (HB.out.alloc hbs (.cells #[.string i.1] 9))
      clear hi
      go_wp2_with (at_builtin; refine wpList_append_one rfl _ _ rfl w.heap.size _ _ rfl HOA.out _ i.1 rfl HA.out k HNL.out _ HST.out ?d1 ?d2 ?_)
      case d1 => omega
      case d2 => simp; omega
      intro b2 c2 w2 ho2 hg2
      have HO2 := hide ho2
      have HB2 := hide (HBA.out.grown hg2 HBA.out.size (fun t e => (HOA.out.lt t e).1))
      clear ho2 hg2
      go_wp2
      go_roundw
      case rel => exact ⟨k + 1, b2, c2, by omega, by go_num, rfl, HO2, HB2⟩
      case measure => simp [intOf]; omega
    · obtain rfl : k = n := by omega
      have hkd : (k : Int) ≤ (k : Int) := Int.le_refl _
      have HE : Hid (is.take k = is) := List.take_of_length_le (by rw [← HN.out]; exact Nat.le_refl _)
      go_wp2
      go_ret
      have h3 := HO.out
      rw [HE.out] at h3
      exact ⟨a', c', rfl, h3, HB.out⟩
set_option maxRecDepth 100000 in
set_option maxHeartbeats 400000 in
theorem rnames9_none (a : Option Addr) (c : Nat) (w : World) :
    Calls Tryz.prog 31 #[.slice a 0 c] w fun e w' => ∃ a' c', e = .returned (.slice a' 0 c') ∧ Own w.heap.size w' (.slice a' 0 c') [] ∧ Below w.heap.size w w' := by
  go_enter Tryz.func31, Tryz.ntmps31
  go_wp2
  go_loop [3, 4] (fun v i => i = .int .i64 0 ∧ v = .slice none 0 0) (fun _ _ => 0)
  case atStart => exact ⟨rfl, rfl⟩
  case round =>
    obtain ⟨rfl, rfl⟩ := hrel
    go_wp2
    go_ret
    exact ⟨none, 0, rfl, Own.nil _ _, Below.refl _ _⟩
theorem rnames9_ok (v : Value) (is : List It) (l : List ByteArray) (w : World) (h : Its w v is) (h1 : is.length < 900000) (hl : namesI is = l) :
    Calls Tryz.prog 31 #[v] w fun e w' => ∃ a' c', e = .returned (.slice a' is.length c') ∧ Own w.heap.size w' (.slice a' is.length c') l ∧ Below w.heap.size w w' := by
  subst hl
  rcases h with ⟨rfl, a, c, rfl⟩ | ⟨b, o, c, rfl, _, hr⟩
  · exact rnames9_none a c w
  · exact rnames9_some b o c is.length is w rfl h1 hr
end Go.Proofs.YtmlkknbndglgaaaGreatDoor
