/- The walk of item's Own. -/
import Derived.Test.YtinjbijigjfdfaaDoorX7
import Derived.Deep.RegionHeld
import Derived.RegionTactic
namespace Go.Proofs.YtinjbijigjfdfaaDoor
open Go.RowKit

theorem cloneN_ok (ao : Option Addr) (n c : Nat) (ns : List Nd) (w : World) (h : ArgN w ao n c ns) (hn : n < 900000) :
    Calls Tryd.prog 42 #[.slice ao n c] w fun e w' => ∃ a' c', e = .returned (.slice a' n c') ∧ OwnN w.heap.size w' (.slice a' n c') ns ∧ Below w.heap.size w w' := by
  refine (clone_ok ao n c ns w h hn).mono ?_
  rintro e w' ⟨v, rfl, ho, hb⟩
  obtain ⟨a', c', e⟩ := ho.form
  rw [h.len] at e
  subst e
  exact ⟨a', c', rfl, ho, hb⟩

theorem Own.far {base g : Nat} {w w' : World} {v : Value} {xs : List ByteArray} (h : Own base w v xs) (hg : w.grownBy w' (some g)) (hlt : g < base) : Own base w' v xs :=
  World.ownsRow.kept h hg (.inr fun e => by have := (h.lt g e).1; omega)
theorem OwnN.far {base g : Nat} {w w' : World} {v : Value} {ns : List Nd} (h : OwnN base w v ns) (hg : w.grownBy w' (some g)) (hlt : g < base) : OwnN base w' v ns :=
  World.ownsRow.kept h hg (.inr fun e => by have := (h.lt g e).1; omega)
theorem struct_item : Tryd.prog.underlying 33 = some (.struct (Tryd.prog.fieldsOf 33)) := by kernel_rfl
theorem size_of_item : (Tryd.prog.info? 33).map (·.size) = some 3 := by kernel_rfl

set_option maxRecDepth 100000 in
set_option maxHeartbeats 1000000 in
theorem ownI_ok (nm : ByteArray) (rs : List ByteArray) (ns : List Nd) (ra : Option Addr) (rn rc : Nat) (ta : Option Addr) (tn tc : Nat) (w : World) (hr : Arg w ra rn rc rs) (ht : ArgN w ta tn tc ns) (h1 : rn < 900000) (h2 : tn < 900000) :
    Calls Tryd.prog 32 #[.agg #[.string nm, .slice ra rn rc, .slice ta tn tc]] w fun e w' => ∃ ra' rc' ta' tc' base, e = .returned (.agg #[.string nm, .slice ra' rn rc', .slice ta' tn tc']) ∧
      Own w.heap.size w' (.slice ra' rn rc') rs ∧ OwnN base w' (.slice ta' tn tc') ns ∧ w.heap.size ≤ base ∧ base ≤ w'.heap.size ∧ (∀ k, (Value.slice ra' rn rc').ownBlock = some k → k < base) ∧ Below w.heap.size w w' := by
  have HR := hide hr
  have HT := hide ht
  obtain ⟨W, hW⟩ : ∃ W, W = (w.alloc (.cells #[.string nm, .slice ra rn rc, .slice ta tn tc] 33)).alloc (.cells #[.string ⟨#[]⟩, .slice none 0 0, .slice none 0 0] 33) := ⟨_, rfl⟩
  have HB0 : Hid (Below w.heap.size w W) := by rw [hW]; exact below_two (below_box _ _) (below_box _ _)
  have c0 : W.cell? ⟨w.heap.size, 0, none⟩ = some (.string nm) := by rw [hW]; simp
  have c1 : W.cell? ⟨w.heap.size, 1, none⟩ = some (.slice ra rn rc) := by rw [hW]; simp
  have c2 : W.cell? ⟨w.heap.size, 2, none⟩ = some (.slice ta tn tc) := by rw [hW]; simp
  have hbox : W.heap[w.heap.size + 1]? = some (.cells #[.string ⟨#[]⟩, .slice none 0 0, .slice none 0 0] 33) := by
    rw [hW]
    have h3 := heap_alloc_new (w.alloc (.cells #[.string nm, .slice ra rn rc, .slice ta tn tc] 33)) (.cells #[.string ⟨#[]⟩, .slice none 0 0, .slice none 0 0] 33)
    rw [show (w.alloc (.cells #[.string nm, .slice ra rn rc, .slice ta tn tc] 33)).heap.size = w.heap.size + 1 by simp] at h3
    exact h3
  have HBX := hide hbox
  have hsz : W.heap.size = w.heap.size + 2 := by rw [hW]; simp
  have HW := hide hW.symm
  clear hr ht hbox hW
  go_enter Tryd.func32, Tryd.ntmps32
  go_wp2_with fail
  rw [HW.out]
  have hb1 : w.heap.size < w.heap.size + 1 := by omega
  have hS0 : Below (w.heap.size + 1) W W.drew := (Below.refl _ W).drew
  refine wp_region_held (S := fun w' => Below (w.heap.size + 1) W w') (by kernel_rfl) ?_
  change wpAnyH _ _ _ _ _ _ _ _ (World.drew _)
  refine wpAnyH_take (i := 0) (v := (.pointer (some ⟨w.heap.size, 0, none⟩))) rfl (by kernel_rfl) (by kernel_rfl) (by kernel_rfl) (fun _ _ _ h => h) (Or.inl ⟨by rfl, ?_⟩) hS0 ?_
  · intro w' hw'
    go_simp
  refine wpAnyH_take (i := 1) (v := (.string nm)) rfl (by kernel_rfl) (by kernel_rfl) (by kernel_rfl) (fun _ _ _ h => h) (Or.inl ⟨by rfl, ?_⟩) hS0 ?_
  · intro w' hw'
    have c9 := hw'.cell (p := ⟨w.heap.size, 0, none⟩) hb1
    rw [c0] at c9
    go_simp
  refine wpAnyH_take (i := 2) (v := (.pointer (some ⟨w.heap.size, 1, none⟩))) rfl (by kernel_rfl) (by kernel_rfl) (by kernel_rfl) (fun _ _ _ h => h) (Or.inl ⟨by rfl, ?_⟩) hS0 ?_
  · intro w' hw'
    go_simp
  refine wpAnyH_take (i := 3) (v := (.slice ra rn rc)) rfl (by kernel_rfl) (by kernel_rfl) (by kernel_rfl) (fun _ _ _ h => h) (Or.inl ⟨by rfl, ?_⟩) hS0 ?_
  · intro w' hw'
    have c9 := hw'.cell (p := ⟨w.heap.size, 1, none⟩) hb1
    rw [c1] at c9
    go_simp
  refine wpAnyH_take (i := 5) (v := (.pointer (some ⟨w.heap.size, 2, none⟩))) rfl (by kernel_rfl) (by kernel_rfl) (by kernel_rfl) (fun _ _ _ h => h) (Or.inl ⟨by rfl, ?_⟩) hS0 ?_
  · intro w' hw'
    go_simp
  refine wpAnyH_take (i := 6) (v := (.slice ta tn tc)) rfl (by kernel_rfl) (by kernel_rfl) (by kernel_rfl) (fun _ _ _ h => h) (Or.inl ⟨by rfl, ?_⟩) hS0 ?_
  · intro w' hw'
    have c9 := hw'.cell (p := ⟨w.heap.size, 2, none⟩) hb1
    rw [c2] at c9
    go_simp
  have HBD : Hid (Below W.heap.size W W.drew) := (Below.refl _ W).drew
  have HRD := hide (HR.out.below (below_two HB0.out HBD.out))
  refine wpAnyH_ready (rs := [4]) (by kernel_rfl) (by simp) (AllReadyH.cons rfl (fun K hK => ?_) AllReadyH.nil)
  go_simp
  refine (cloneT_ok ra rn rc rs W.drew HRD.out h1).mono ?_
  rintro e w4 ⟨a4, c4, rfl, ho4, hb4⟩
  have HO4 := hide ho4
  have HB4 : Hid (Below W.heap.size W w4) := below_two HBD.out hb4
  have hS4 : Below (w.heap.size + 1) W w4 := HB4.out.mono (by omega)
  have HBK : Hid (∀ k, (Value.slice a4 rn c4).ownBlock = some k → k < w4.heap.size) := fun k hk => (ho4.lt k hk).2
  clear ho4 hb4
  refine hK.out _ _ hS4 (fun _ => ?_)
  clear hK K
  have HT4 := hide (HT.out.below (below_two HB0.out HB4.out))
  refine wpAnyH_ready (rs := [7]) (by kernel_rfl) (by simp) (AllReadyH.cons rfl (fun K hK => ?_) AllReadyH.nil)
  go_simp
  refine (cloneN_ok ta tn tc ns w4 HT4.out h2).mono ?_
  rintro e w5 ⟨a5, c5, rfl, ho5, hb5⟩
  have HO5 := hide ho5
  have HB5 : Hid (Below W.heap.size W w5) := below_two HB4.out hb5
  have HO45 := hide (HO4.out.below hb5)
  have hS5 : Below (w.heap.size + 1) W w5 := HB5.out.mono (by omega)
  clear ho5
  refine hK.out _ _ hS5 (fun _ => ?_)
  clear hK K
  refine wpAnyH_ready (rs := [8]) (by kernel_rfl) (by simp) (AllReadyH.cons rfl (fun K hK => ?_) AllReadyH.nil)
  go_simp
  refine hK.out _ _ hS5 (fun _ => ?_)
  clear hK K
  have hbox5 : w5.heap[w.heap.size + 1]? = some (.cells #[.string ⟨#[]⟩, .slice none 0 0, .slice none 0 0] 33) := by
    rw [HB5.out.block (w.heap.size + 1) (by omega)]; exact HBX.out
  have k0 := (cell_of_row w5 (w.heap.size + 1) 0 _ _ (0, 0) hbox5)
  have k1 := (cell_of_row w5 (w.heap.size + 1) 1 _ _ (0, 0) hbox5)
  have k2 := (cell_of_row w5 (w.heap.size + 1) 2 _ _ (0, 0) hbox5)
  have l0 := frozen_of_row w5 (w.heap.size + 1) 0 _ _ hbox5
  have l1 := frozen_of_row w5 (w.heap.size + 1) 1 _ _ hbox5
  have l2 := frozen_of_row w5 (w.heap.size + 1) 2 _ _ hbox5
  refine wpAnyH_ready (rs := [9]) (by kernel_rfl) (by simp) (AllReadyH.cons rfl (fun K hK => ?_) AllReadyH.nil)
  go_simp
  have hg6 := grown_trans (grown_setCell w5 (w.heap.size + 1) 0 (.string nm)) (grown_trans (grown_setCell _ (w.heap.size + 1) 1 (.slice a4 rn c4)) (grown_setCell _ (w.heap.size + 1) 2 (.slice a5 tn c5)))
  have hbx6 : (((w5.setCell ⟨w.heap.size + 1, 0, none⟩ (.string nm)).setCell ⟨w.heap.size + 1, 1, none⟩ (.slice a4 rn c4)).setCell ⟨w.heap.size + 1, 2, none⟩ (.slice a5 tn c5)).heap[w.heap.size + 1]? = some (.cells #[.string nm, .slice a4 rn c4, .slice a5 tn c5] 33) := by
    have q1 := heap_setCell_same w5 (w.heap.size + 1) 0 _ _ (.string nm) hbox5
    have q2 := heap_setCell_same _ (w.heap.size + 1) 1 _ _ (.slice a4 rn c4) q1
    have q3 := heap_setCell_same _ (w.heap.size + 1) 2 _ _ (.slice a5 tn c5) q2
    rw [q3]; rfl
  have hS6 : Below (w.heap.size + 1) W (((w5.setCell ⟨w.heap.size + 1, 0, none⟩ (.string nm)).setCell ⟨w.heap.size + 1, 1, none⟩ (.slice a4 rn c4)).setCell ⟨w.heap.size + 1, 2, none⟩ (.slice a5 tn c5)) :=
    ((hS5.setCell (p := ⟨w.heap.size + 1, 0, none⟩) (Nat.le_refl _) _).setCell (p := ⟨w.heap.size + 1, 1, none⟩) (Nat.le_refl _) _).setCell (p := ⟨w.heap.size + 1, 2, none⟩) (Nat.le_refl _) _
  have h4s : W.heap.size ≤ w4.heap.size := HB4.out.size
  have HO6 := hide (Own.far HO45.out hg6 (show w.heap.size + 1 < W.drew.heap.size by show w.heap.size + 1 < W.heap.size; omega))
  have HN6 := hide (OwnN.far HO5.out hg6 (show w.heap.size + 1 < w4.heap.size by omega))
  have HB6 := hide (HB0.out.trans (hS6.mono (show w.heap.size ≤ w.heap.size + 1 by omega)))
  refine hK.out _ _ hS6 (fun _ => ?_)
  have hsz6 : w4.heap.size ≤ (((w5.setCell ⟨w.heap.size + 1, 0, none⟩ (.string nm)).setCell ⟨w.heap.size + 1, 1, none⟩ (.slice a4 rn c4)).setCell ⟨w.heap.size + 1, 2, none⟩ (.slice a5 tn c5)).heap.size := Nat.le_trans hb5.size hg6.size
  clear hK K k0 k1 k2 l0 l1 l2 hg6
  refine wpAnyH_done (by kernel_rfl) ?_ _
  go_wp2
  try simp only [Exit.inBlock, Exit.then]
  refine bodyPost_ret (results_cell_row rfl _ _ (w.heap.size + 1) 33 _ (0, 0) _ rfl hbx6 struct_item rfl size_of_item) rfl ?_
  exact ⟨a4, c4, a5, c5, w4.heap.size, rfl, HO6.out.base (show w.heap.size ≤ W.heap.size by omega), HN6.out, by omega, hsz6, HBK.out, HB6.out⟩
end Go.Proofs.YtinjbijigjfdfaaDoor
