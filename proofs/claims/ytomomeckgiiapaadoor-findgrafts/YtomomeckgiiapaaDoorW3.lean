/- The walks of package path: allParts. -/
import Derived.Test.YtomomeckgiiapaaDoorW2
namespace Go.Proofs.YtomomeckgiiapaaDoor
open Go.RowKit

def parts (xs : List ByteArray) : List (List UInt8) := xs.map (·.data.toList)
theorem parts_mk (l : List (List UInt8)) : parts (l.map Hog.mk) = l := mk_map l
theorem parts_len (xs : List ByteArray) : (parts xs).length = xs.length := by simp [parts]

theorem all_step (xs : List ByteArray) (k : Nat) (x : ByteArray) (hx : xs[k]? = some x) (h : (parts (xs.take k)).all Hog.partL = true) (hp : Hog.partL x.data.toList = true) : (parts (xs.take (k + 1))).all Hog.partL = true := by
  obtain ⟨hk, rfl⟩ := List.getElem?_eq_some_iff.1 hx
  rw [List.take_succ_eq_append_getElem hk]
  unfold parts at *
  rw [List.map_append, List.all_append, h]
  simpa using hp
theorem all_fall (xs : List ByteArray) (k : Nat) (x : ByteArray) (hx : xs[k]? = some x) (hp : Hog.partL x.data.toList = false) : Hog.allP (parts xs) = false := by
  have hm : x ∈ xs := List.mem_of_getElem? hx
  unfold Hog.allP
  have : (parts xs).all Hog.partL = false := by
    rw [List.all_eq_false]
    exact ⟨x.data.toList, List.mem_map.2 ⟨x, hm, rfl⟩, by simp [hp]⟩
  rw [this, Bool.and_false]

theorem parts_none (a : Option Addr) (c : Nat) (w : World) :
    Calls Tryd.prog 48 #[.slice a 0 c] w fun e w' => e = .returned (.bool true) ∧ w' = w := by
  go_enter Tryd.func48, Tryd.ntmps48
  go_wp2
  go_loop [10] (fun i => i = .int .i64 0) (fun _ => 0)
  case atStart => rfl
  case round =>
    subst hrel
    go_wp2
    go_ret
    exact ⟨rfl, rfl⟩

theorem parts_many (a : Option Addr) (n c : Nat) (w : World) (hn : 10 < n) (hm : n < 1000000) :
    Calls Tryd.prog 48 #[.slice a n c] w fun e w' => e = .returned (.bool false) ∧ w' = w := by
  have h : (10 : Int) < (n : Int) := by omega
  go_enter Tryd.func48, Tryd.ntmps48
  go_wp2
  go_ret
  exact ⟨rfl, rfl⟩

set_option maxHeartbeats 400000 in
theorem parts_some (b o c : Nat) (xs : List ByteArray) (w : World) (h10 : xs.length ≤ 10) (hcell : ∀ (j : Nat) x, xs[j]? = some x → w.cell? ⟨b, o + j, none⟩ = some (.string x)) (hsz : ∀ x ∈ xs, x.size < 1000000) :
    Calls Tryd.prog 48 #[.slice (some ⟨b, o, none⟩) xs.length c] w fun e w' => e = .returned (.bool (Hog.allP (parts xs))) ∧ w' = w := by
  obtain ⟨n, hn⟩ : ∃ n, n = xs.length := ⟨_, rfl⟩
  have HC : Hid (∀ (j : Nat) x, xs[j]? = some x → w.cell? ⟨b, o + j, none⟩ = some (.string x)) := hcell
  have HZ : Hid (∀ x ∈ xs, x.size < 1000000) := hsz
  have HN : Hid (n = xs.length) := hn
  rw [← hn] at h10 ⊢
  clear hcell hsz hn
  have h10' : (n : Int) ≤ 10 := by omega
  go_enter Tryd.func48, Tryd.ntmps48
  go_wp2
  go_loop [10] (fun i => ∃ k : Nat, k ≤ n ∧ i = .int .i64 k ∧ Hid ((parts (xs.take k)).all Hog.partL = true)) (fun i => n - (intOf i).toNat)
  case atStart => exact ⟨0, Nat.zero_le _, rfl, rfl⟩
  case round =>
    obtain ⟨k, hk, rfl, hall⟩ := hrel
    by_cases hlt : k < n
    · obtain ⟨x, hx⟩ : ∃ x, xs[k]? = some x := ⟨xs[k]'(by have := HN.out; omega), List.getElem?_eq_some_iff.2 ⟨_, rfl⟩⟩
      have hc := HC.out k x hx
      have hxz := HZ.out x (List.mem_of_getElem? hx)
      have HX : Hid (xs[k]? = some x) := hx
      clear hx
      cases hp : Hog.partL x.data.toList with
      | true =>
        have HP : Hid (Hog.partL x.data.toList = true) := hp
        go_wp2_with (go_at_call 63; refine (part_any x _ hxz).mono ?_; rintro e w' ⟨rfl, rfl⟩)
        go_round
        case rel => exact ⟨k + 1, by omega, by go_num, all_step xs k x HX.out hall.out HP.out⟩
        case measure => simp [intOf]; omega
      | false =>
        have HP : Hid (Hog.partL x.data.toList = false) := hp
        go_wp2_with (go_at_call 63; refine (part_any x _ hxz).mono ?_; rintro e w' ⟨rfl, rfl⟩)
        go_ret
        exact ⟨ret_bool (all_fall xs k x HX.out HP.out).symm, rfl⟩
    · go_wp2
      go_ret
      refine ⟨ret_bool ?_, rfl⟩
      have e : k = xs.length := by have := HN.out; omega
      have h1 := hall.out
      rw [e, List.take_length] at h1
      unfold Hog.allP
      rw [h1, parts_len, ← HN.out]
      simp; omega

theorem parts_any (v : Value) (xs : List ByteArray) (w : World) (ht : Txt w v xs) (hl : xs.length < 1000000) (hsz : ∀ x ∈ xs, x.size < 1000000) :
    Calls Tryd.prog 48 #[v] w fun e w' => e = .returned (.bool (Hog.allP (parts xs))) ∧ w' = w := by
  rcases ht with ⟨rfl, a, c, rfl⟩ | ⟨b, o, c, rfl, _, _, hcell⟩
  · exact parts_none a c w
  · by_cases h : xs.length ≤ 10
    · exact parts_some b o c xs w h hcell hsz
    · refine (parts_many (some ⟨b, o, none⟩) xs.length c w (by omega) hl).mono ?_
      rintro e w' ⟨rfl, rfl⟩
      refine ⟨ret_bool ?_, rfl⟩
      unfold Hog.allP
      rw [parts_len]
      simp; omega

end Go.Proofs.YtomomeckgiiapaaDoor
