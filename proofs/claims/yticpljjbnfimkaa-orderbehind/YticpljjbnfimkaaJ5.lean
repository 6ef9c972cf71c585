/- Texts that stand together, joined: R7. -/
import Derived.Test.YticpljjbnfimkaaK8
import Derived.Test.YticpljjbnfimkaaJ2
/- The walk of the statements' own OverTexts: what was answered is written over, and beyond. -/
namespace Go.Proofs.Yticpljjbnfimkaa
open Go.RowKit

theorem Own.stored {base : Nat} {w : World} {g cap : Nat} {xs : List ByteArray} (h : Own base w (.slice (some ⟨g, 0, none⟩) xs.length cap) xs) (j : Nat) (x : ByteArray) :
    Own base (w.setCell ⟨g, j, none⟩ (.string x)) (.slice (some ⟨g, 0, none⟩) (xs.set j x).length cap) (xs.set j x) := by
  have h2 := World.ownsRow.stored h j (.string x)
  unfold Own
  rw [List.map_set, List.length_set]
  exact h2.1

set_option maxRecDepth 100000 in
set_option maxHeartbeats 800000 in
theorem over_none (base : Nat) (w : World) (hb : base ≤ w.heap.size) :
    Calls Try.prog 13 #[.slice none 0 0] w fun e w' => e = .returned (.tuple #[]) ∧ Below base w w' := by
  go_enter Try.func13, Try.ntmps13
  go_wp2
  go_loop [2] (fun i => i = .int .i64 0) (fun _ => 0)
  case atStart => rfl
  case round =>
    subst hrel
    go_wp2_with (at_builtin; refine wpList_append_texts rfl _ _ rfl base w.heap.size _ _ [] [⟨#[111, 118, 101, 114]⟩] rfl (Own.nil _ _) rfl (Own.one w _) (by simp) (by simp; omega) ?_)
    intro b c w1 _ hb1
    go_wp2
    go_end0
    exact ⟨rfl, ((Below.refl _ _).alloc hb _).trans hb1⟩
set_option maxRecDepth 100000 in
set_option maxHeartbeats 800000 in
theorem over_some (base g cap : Nat) (xs : List ByteArray) (w : World) (hb : base ≤ w.heap.size) (h : Own base w (.slice (some ⟨g, 0, none⟩) xs.length cap) xs) (hl : xs.length < 900000) :
    Calls Try.prog 13 #[.slice (some ⟨g, 0, none⟩) xs.length cap] w fun e w' => e = .returned (.tuple #[]) ∧ Below base w w' := by
  have hg : base ≤ g := (h.lt g rfl).1
  obtain ⟨n, hn⟩ : ∃ n, n = xs.length := ⟨_, rfl⟩
  have HO := hide h
  have HN := hide hn
  rw [← hn] at hl ⊢
  clear h hn
  go_enter Try.func13, Try.ntmps13
  go_wp2
  go_loopw [2] (fun i wr => ∃ k : Nat, k ≤ n ∧ i = .int .i64 k ∧ Hid (∃ ys : List ByteArray, ys.length = n ∧ Own base wr (.slice (some ⟨g, 0, none⟩) ys.length cap) ys) ∧ Below base w wr) (fun i _ => n - (intOf i).toNat)
  case atStart => exact ⟨0, Nat.zero_le _, rfl, ⟨xs, HN.out.symm, HO.out⟩, Below.refl _ _⟩
  case round =>
    obtain ⟨k, hk, rfl, hys, hbl⟩ := hrel
    obtain ⟨ys, hyn, hown⟩ := hys.out
    have HO2 := hide hown
    have HY := hide hyn
    clear hys hown hyn
    have hbs := hbl.size
    by_cases hlt : k < n
    · have hf : wr.frozen? ⟨g, k, none⟩ = false := World.ownsRow.frozenAt HO2.out k
      obtain ⟨y, hy⟩ : ∃ y, ys[k]? = some y := ⟨ys[k]'(by have := HY.out; omega), List.getElem?_eq_some_iff.2 ⟨_, rfl⟩⟩
      have hc : wr.cell? ⟨g, k, none⟩ = some (.string y) := by
        have h1 := World.ownsRow.cellAt HO2.out k (by have := HY.out; omega)
        rw [h1]; simp [hy]
      clear hy
      go_wp2
      go_roundw
      case rel =>
        refine ⟨k + 1, by omega, by go_num, ⟨ys.set k ⟨#[111, 118, 101, 114]⟩, by rw [List.length_set]; exact HY.out, HO2.out.stored k _⟩, hbl.setCell hg _⟩
      case measure => simp [intOf]; omega
    · have HO3 := hide (HO2.out.alloc (.cells #[.string ⟨#[111, 118, 101, 114]⟩] 9))
      rw [HY.out] at HO3
      go_wp2_with (at_builtin; refine wpList_append_texts rfl _ _ rfl base wr.heap.size _ _ ys [⟨#[111, 118, 101, 114]⟩] rfl HO3.out rfl (Own.one wr _) (by simp; have := HY.out; omega) (by simp; omega) ?_)
      intro b c w1 _ hb1
      go_wp2
      go_end0
      exact ⟨rfl, hbl.trans (((Below.refl _ _).alloc (by omega) _).trans hb1)⟩
theorem over_ok (v : Value) (xs : List ByteArray) (base : Nat) (w0 w : World) (h : Ok w0 w) (ho : Own base w v xs) (hb : w0.heap.size ≤ base) (hl : xs.length < 900000) :
    Calls Try.prog 13 #[v] w fun e w' => e = .returned (.tuple #[]) ∧ Ok w0 w' := by
  have ho' := ho.base hb
  obtain ⟨_, h2⟩ := id ho'
  rcases h2 with ⟨rfl, _⟩ | ⟨g, cap, cur, rfl, _⟩
  · refine (over_none w0.heap.size w h.size).mono ?_
    rintro e w' ⟨rfl, hb1⟩
    exact ⟨rfl, h.step hb1⟩
  · refine (over_some w0.heap.size g cap xs w h.size ho' hl).mono ?_
    rintro e w' ⟨rfl, hb1⟩
    exact ⟨rfl, h.step hb1⟩
end Go.Proofs.Yticpljjbnfimkaa
