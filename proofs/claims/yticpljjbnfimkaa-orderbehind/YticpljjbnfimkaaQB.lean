/- The walks of the heap's own Swap, Push and Pop. -/
import Derived.Test.YticpljjbnfimkaaQA
namespace Go.Proofs.Yticpljjbnfimkaa
open Go.RowKit
variable {H : Nat}

theorem nums_set (L : List Nat) (i x : Nat) : numK (L.set i x) = (numK L).set i (x : Int) := by unfold numK; rw [List.map_set]
theorem nums_swp (L : List Nat) (i j x y : Nat) : numK (Hog.swp L i j x y) = ((numK L).set i (y : Int)).set j (x : Int) := by unfold Hog.swp; rw [nums_set, nums_set]
theorem OwnZ.stored2 {base : Nat} {w : World} {g cap n : Nat} {xs : List Int} (h : OwnZ base w (.slice (some ⟨g, 0, none⟩) n cap) xs) (hn : n = xs.length) (j : Nat) (x : Int) :
    OwnZ base (w.setCell ⟨g, j, none⟩ (.int .i64 x)) (.slice (some ⟨g, 0, none⟩) n cap) (xs.set j x) := by
  subst hn
  have := h.stored j x
  rw [List.length_set] at this
  exact this
/-- The heap behind an exchange. -/
theorem Rdy.swapped {w : World} {g b : Nat} {ns : List ByteArray} {L : List Nat} {c i j x y : Nat} (h : Rdy H w g ns L (some ⟨b, 0, none⟩) c) (hgb : g < b) (hx : L[i]? = some x) (hy : L[j]? = some y) :
    Rdy H ((w.setCell ⟨b, i, none⟩ (.int .i64 y)).setCell ⟨b, j, none⟩ (.int .i64 x)) g ns (Hog.swp L i j x y) (some ⟨b, 0, none⟩) c := by
  obtain ⟨na, nc, hb, hn⟩ := h.ex
  have hl : (Hog.swp L i j x y).length = L.length := Hog.swp_len _ _ _ _ _
  have hg : w.grownBy ((w.setCell ⟨b, i, none⟩ (.int .i64 y)).setCell ⟨b, j, none⟩ (.int .i64 x)) (some b) := grown_trans (grown_setCell w b i _) (grown_setCell _ b j _)
  refine ⟨⟨na, nc, ?_, fun k z hz => ?_⟩, ?_, fun z hz => h.low z ((Hog.swp_perm hx hy).mem_iff.1 hz), h.hH⟩
  · rw [hl]
    exact hb.same (hg.block g h.lt (fun e => by cases e; omega))
  · obtain ⟨nb, no, e, h1, h2⟩ := hn k z hz
    refine ⟨nb, no, e, h1, ?_⟩
    have hH := h.hH
    rw [World.cell?_of_block (hg.block nb (by have := h.lt; omega) (fun e => by cases e; omega))]
    exact h2
  · rw [nums_swp, hl]
    have h2 := h.own
    exact (h2.stored2 (nums_len L).symm i y).stored2 (by rw [List.length_set, nums_len]) j x
set_option maxRecDepth 100000 in
set_option maxHeartbeats 4000000 in
theorem swapQ_ok (w : World) (g : Nat) (ns : List ByteArray) (L : List Nat) (a : Option Addr) (c i j x y : Nat) (h : Rdy H w g ns L a c) (hx : L[i]? = some x) (hy : L[j]? = some y) :
    Calls Try.prog 53 #[.pointer (some ⟨g, 0, none⟩), .int .i64 i, .int .i64 j] w fun e w' => e = .returned (.tuple #[]) ∧ Rdy H w' g ns (Hog.swp L i j x y) a c ∧ Ke g (Value.slice a L.length c).ownBlock w w' := by
  obtain ⟨na, nc, hb, hnm⟩ := h.ex
  obtain ⟨h0, h1, _, _, hg⟩ := hb.facts
  obtain ⟨b, rfl, hgb, hcx, hfx⟩ := h.place hx
  obtain ⟨b', e, _, hcy, hfy⟩ := h.place hy
  cases e
  have hil : i < L.length := (List.getElem?_eq_some_iff.1 hx).1
  have hjl : j < L.length := (List.getElem?_eq_some_iff.1 hy).1
  have hii : (i : Int) < (L.length : Int) := by omega
  have hji : (j : Int) < (L.length : Int) := by omega
  have HF : Hid (Rdy H ((w.drew.setCell ⟨b, i, none⟩ (.int .i64 y)).setCell ⟨b, j, none⟩ (.int .i64 x)) g ns (Hog.swp L i j x y) (some ⟨b, 0, none⟩) c) := by
    have hbd : BoxQ w.drew g (.slice na ns.length nc) (.slice (some ⟨b, 0, none⟩) L.length c) := hb
    have : Rdy H w.drew g ns L (some ⟨b, 0, none⟩) c := ⟨⟨na, nc, hbd, hnm⟩, h.own.below (Below.refl _ _).drew, h.low, h.hH⟩
    exact this.swapped hgb hx hy
  have HK : Hid (Ke g (some b) w ((w.drew.setCell ⟨b, i, none⟩ (.int .i64 y)).setCell ⟨b, j, none⟩ (.int .i64 x))) :=
    (Ke.ofBelow (Below.refl _ _).drew).trans (.inl rfl) (Ke.grown (grown_trans (grown_setCell w.drew b i _) (grown_setCell _ b j _)))
  by_cases e : i = j
  · subst e
    rw [hx] at hy
    cases hy
    clear h hb hnm hx hil hjl
    go_enter Try.func53, Try.ntmps53
    go_wp2
    go_region
    all_goals
      go_wp2
      go_end0
      exact ⟨rfl, HF.out, HK.out⟩
  have hij : ¬ j = i := fun k => e k.symm
  clear h hb hnm hx hy hil hjl
  go_enter Try.func53, Try.ntmps53
  go_wp2
  go_region
  all_goals
    go_wp2
    go_end0
    exact ⟨rfl, HF.out, HK.out⟩
end Go.Proofs.Yticpljjbnfimkaa
