/- The walk of ItemTells. -/
import Derived.Test.YtggojmimodpfaaaDoorXE
import Derived.Test.YtggojmimodpfaaaDoorRdI
import Derived.Test.YtggojmimodpfaaaDoorO5
namespace Go.Proofs.YtggojmimodpfaaaDoor
open Go.RowKit

theorem wpAnyH_of_quiet {P : Program} {md : Region.Mode} {ops : Array Oper} {C S : World → Prop} {Q : Act → Prop} {Q' : Exit → Act → World → Prop} (hS : ∀ w, C w → S w) (hQ : ∀ a w, C w → Q a → Q' .normal a w) :
    ∀ (fuel : Nat) (listed : Array Bool) (a : Act) (w : World), C w → wpAnyQ P md ops C Q fuel listed a → wpAnyH P md ops Q' S fuel listed a w
  | 0, _, _, _, hw, h => ⟨h.1, hQ _ _ hw h.2⟩
  | fuel + 1, _, _, _, hw, h => ⟨fun h0 => hQ _ _ hw (h.1 h0), fun i hi => wpOp_of_qOp hw (fun a' w' hw' k => ⟨hS w' hw', wpAnyH_of_quiet hS hQ fuel _ a' w' hw' k⟩) (h.2 i hi)⟩
/-- The rest of a region, behind its first eight operations, in the order of the text. -/
theorem wpAnyH_later8 {P : Program} {Q : Exit → Act → World → Prop} {S : World → Prop} {o0 o1 o2 o3 o4 o5 o6 o7 : Oper} {l : List Oper} {listed : Array Bool} {a : Act} {w : World} (hS : ∀ p : Later w, S p.w1)
    (hs : Region.noSelect (o0 :: o1 :: o2 :: o3 :: o4 :: o5 :: o6 :: o7 :: l).toArray = true) (hB : Region.lexFrom .any (o0 :: o1 :: o2 :: o3 :: o4 :: o5 :: o6 :: o7 :: l).toArray l.length 8 listed = true)
    (h : wpQuiet P (o0 :: o1 :: o2 :: o3 :: o4 :: o5 :: o6 :: o7 :: l).toArray (fun w' => ∃ p : Later w, w' = p.w1) (fun a' => ∀ w', (∃ p : Later w, w' = p.w1) → Q .normal a' w') l a) : wpAnyH P .any (o0 :: o1 :: o2 :: o3 :: o4 :: o5 :: o6 :: o7 :: l).toArray Q S l.length listed a w := by
  refine wpAnyH_of_quiet (C := fun w' => ∃ p : Later w, w' = p.w1) (Q := fun a' => ∀ w', (∃ p : Later w, w' = p.w1) → Q .normal a' w') (fun w' ⟨p, e⟩ => by rw [e]; exact hS p) (fun _ w' hw' h => h w' hw') _ _ _ _ ⟨⟨w, Below.refl _ _⟩, rfl⟩ ?_
  refine wpAnyQ_lex hs l 8 listed a (fun j => ?_) hB h
  rw [Nat.add_comm 8 j]
  simp

set_option maxRecDepth 100000 in
set_option maxHeartbeats 8000000 in
theorem tells7_main (s : ByteArray) (i : It) (ra : Option Addr) (rn rc : Nat) (ta : Option Addr) (tn tc : Nat) (i' : It) (sa : Option Addr) (sn sc : Nat) (ua : Option Addr) (un uc : Nat) (w : World) (hsh : w.ShapedOpen Tryd.prog)
    (hs : s.size ≤ 100) (hi : ItArg w i ra rn rc ta tn tc) (hi' : ItArg w i' sa sn sc ua un uc) (hg : bigI i = false) (hg' : bigI i' = false) :
    Calls Tryd.prog 3 #[.string s, .agg #[.string i.1, .slice ra rn rc, .slice ta tn tc], .agg #[.string i'.1, .slice sa sn sc, .slice ua un uc]] w fun e w' => e = .returned (.bool true) ∧ Below w.heap.size w w' := by
  have HSH := hide hsh
  have HI := hide hi
  have HI' := hide hi'
  have HFI := hide (bigI_fair hg)
  have HFI' := hide (bigI_fair hg')
  have HGI : Hid (greatI [i, i'] = false) := by unfold greatI; simp [hg, hg', Hid]
  have hrn : rn < 900000 := by have := (bigI_not hg).2.1; rw [hi.refs.len] at this; omega
  have htn : tn < 900000 := by have := (bigI_not hg).2.2.2.1; rw [hi.tree.len] at this; omega
  have HLR : Hid (i.2.1.length < 900000) := (bigI_fair hg).refs
  have HLT : Hid (i.2.2.length < 900000) := (bigI_fair hg).tree
  have hs' : (s.size : Int) ≤ 100 := by omega
  obtain ⟨W0, hW0⟩ : ∃ W0, W0 = (w.alloc (.cells #[.string i.1, .slice ra rn rc, .slice ta tn tc] 25)).alloc (.cells #[.string i'.1, .slice sa sn sc, .slice ua un uc] 25) := ⟨_, rfl⟩
  have HB0 : Hid (Below w.heap.size w W0) := by rw [hW0]; exact below_two (below_box _ _) (below_box _ _)
  have hsz0 : W0.heap.size = w.heap.size + 2 := by rw [hW0]; simp
  have a0 : W0.cell? ⟨w.heap.size, 0, none⟩ = some (.string i.1) := by rw [hW0]; simp
  have a1 : W0.cell? ⟨w.heap.size, 1, none⟩ = some (.slice ra rn rc) := by rw [hW0]; simp
  have a2 : W0.cell? ⟨w.heap.size, 2, none⟩ = some (.slice ta tn tc) := by rw [hW0]; simp
  have b0 : W0.cell? ⟨w.heap.size + 1, 0, none⟩ = some (.string i'.1) := by rw [hW0]; simp
  have b1 : W0.cell? ⟨w.heap.size + 1, 1, none⟩ = some (.slice sa sn sc) := by rw [hW0]; simp
  have b2 : W0.cell? ⟨w.heap.size + 1, 2, none⟩ = some (.slice ua un uc) := by rw [hW0]; simp
  have hA0 : w.heap.size < W0.heap.size := by omega
  have hA1 : w.heap.size + 1 < W0.heap.size := by omega
  have HA : Hid (∀ W', Below W0.heap.size W0 W' → W'.cell? ⟨w.heap.size, 0, none⟩ = some (.string i.1) ∧ W'.cell? ⟨w.heap.size, 1, none⟩ = some (.slice ra rn rc) ∧ W'.cell? ⟨w.heap.size, 2, none⟩ = some (.slice ta tn tc) ∧
      W'.cell? ⟨w.heap.size + 1, 0, none⟩ = some (.string i'.1) ∧ W'.cell? ⟨w.heap.size + 1, 1, none⟩ = some (.slice sa sn sc) ∧ W'.cell? ⟨w.heap.size + 1, 2, none⟩ = some (.slice ua un uc)) := fun W' hb =>
    ⟨(hb.cell (p := ⟨w.heap.size, 0, none⟩) hA0).trans a0, (hb.cell (p := ⟨w.heap.size, 1, none⟩) hA0).trans a1, (hb.cell (p := ⟨w.heap.size, 2, none⟩) hA0).trans a2,
      (hb.cell (p := ⟨w.heap.size + 1, 0, none⟩) hA1).trans b0, (hb.cell (p := ⟨w.heap.size + 1, 1, none⟩) hA1).trans b1, (hb.cell (p := ⟨w.heap.size + 1, 2, none⟩) hA1).trans b2⟩
  have HIT := hide (Its.two (i := i) (i' := i') (hi.below HB0.out).refs.txt (hi.below HB0.out).tree.nods (hi'.below HB0.out).refs.txt (hi'.below HB0.out).tree.nods)
  have HLN : Hid (Lens [i, i']) := fun x hx => by
    simp at hx
    rcases hx with rfl | rfl
    · exact ⟨by rw [hi.refs.len]; exact hi.rlen, by rw [hi.tree.len]; exact hi.tlen⟩
    · exact ⟨by rw [hi'.refs.len]; exact hi'.rlen, by rw [hi'.tree.len]; exact hi'.tlen⟩
  rw [hsz0] at HIT
  have HW0 := hide hW0.symm
  have HB1 := hide (below_box W0 (.cells #[.string i.1, .slice ra rn rc, .slice ta tn tc, .string i'.1, .slice sa sn sc, .slice ua un uc] 25))
  have HSZ0 := hide hsz0
  clear hi hi' hg hg' hsh hW0 hsz0
  go_enter Tryd.func3, Tryd.ntmps3
  go_wp2_with fail
  rw [HW0.out]
  refine (greatI_ok _ [i, i'] false _ HIT.out (by unfold maxLen; simp) HLN.out HGI.out).mono ?_
  rintro e w1 ⟨rfl, rfl⟩
  obtain ⟨W1, hW1⟩ : ∃ W1, W1 = W0.alloc (.cells #[.string i.1, .slice ra rn rc, .slice ta tn tc, .string i'.1, .slice sa sn sc, .slice ua un uc] 25) := ⟨_, rfl⟩
  rw [← hW1] at HB1 ⊢
  obtain ⟨c0, c1, c2, _, _, _⟩ := HA.out W1 HB1.out
  have HWB1 := hide (below_two HB0.out HB1.out)
  clear hW1 a0 a1 a2 b0 b1 b2 HIT
  go_wp2_with fail
  refine (ownI_ok i.1 i.2.1 i.2.2 ra rn rc ta tn tc W1 (HI.out.below HWB1.out).refs (HI.out.below HWB1.out).tree hrn htn).mono ?_
  rintro e w2 ⟨ra', rc', ta', tc', base, rfl, ho2, hn2, hbs, hbe, hbk, hb2⟩
  have HO2 := hide ho2
  have HN2 := hide hn2
  have HB12 := hide hb2
  clear ho2 hn2 hb2 c0 c1 c2
  obtain ⟨W3, hW3⟩ : ∃ W3, W3 = w2.alloc (.cells #[.string i.1, .slice ra' rn rc', .slice ta' tn tc'] 25) := ⟨_, rfl⟩
  have HBX3 : Hid (W3.heap[w2.heap.size]? = some (.cells #[.string i.1, .slice ra' rn rc', .slice ta' tn tc'] 25)) := by rw [hW3]; exact heap_alloc_new w2 _
  have HB23 : Hid (Below w2.heap.size w2 W3) := by rw [hW3]; exact below_box _ _
  have HW3 : Hid (w2.alloc (.cells #[.string i.1, .slice ra' rn rc', .slice ta' tn tc'] 25) = W3) := hW3.symm
  have hsz3 : W3.heap.size = w2.heap.size + 1 := by rw [hW3]; simp
  clear hW3
  obtain ⟨c0, c1, c2, _, _, _⟩ := HA.out w2 (below_two HB1.out HB12.out)
  have hA2 : w.heap.size < w2.heap.size := by have := HB12.out.size; have := HB1.out.size; omega
  have HIX := hide (Its.one (i := i) (HO2.out.txt.below HB23.out) (HN2.out.nods.below HB23.out))
  have HWB3 := hide (below_two (below_two HWB1.out HB12.out) HB23.out)
  have HB3X := hide (below_box W3 (.cells #[.string i.1, .slice ra' rn rc', .slice ta' tn tc'] 25))
  have HIA := hide (Its.one (i := i) (HI.out.below (below_two HWB3.out HB3X.out)).refs.txt (HI.out.below (below_two HWB3.out HB3X.out)).tree.nods)
  have HIX5 := hide (HIX.out.below (below_box _ (.cells #[.string i.1, .slice ra rn rc, .slice ta tn tc] 25)))
  rw [hsz3] at HIX5
  rw [show (W3.alloc (.cells #[.string i.1, .slice ra' rn rc', .slice ta' tn tc'] 25)).heap.size = w2.heap.size + 1 + 1 by rw [← hsz3]; simp] at HIA
  have HB34 := hide (below_two HB3X.out (below_box _ (.cells #[.string i.1, .slice ra rn rc, .slice ta tn tc] 25)))
  have HSZ3 := hide hsz3
  clear HIX hsz3
  go_wp2_with fail
  rw [HW3.out]
  refine (sameIs_ok _ _ [i] [i] true _ HIX5.out HIA.out (by simp) (fun x hx => by simp at hx; subst hx; exact HFI.out) (decide_eq_true rfl)).mono ?_
  rintro e w5 ⟨rfl, hb5⟩
  have HB35 := hide (below_two HB34.out hb5)
  have HB25 := hide (below_two HB23.out HB35.out)
  have HBX5 : Hid (w5.heap[w2.heap.size]? = some (.cells #[.string i.1, .slice ra' rn rc', .slice ta' tn tc'] 25)) := by rw [HB35.out.block w2.heap.size (by have := HSZ3.out; omega)]; exact HBX3.out
  have HO5 := hide (HO2.out.below HB25.out)
  have HN5 := hide (HN2.out.below HB25.out)
  obtain ⟨d0, d1, d2⟩ := box_cells HBX5.out
  clear hb5 HB34 HIA HIX5 c0 c1 c2 HB3X
  have hs15 : W1.heap.size ≤ w5.heap.size := by have := HB12.out.size; have := HB25.out.size; omega
  go_wp2_with fail
  refine (overT_ok _ i.2.1 W1.heap.size w5 HO5.out hs15 HLR.out).mono ?_
  rintro e w6 ⟨rfl, hg6⟩
  have hR : ∀ k, (Value.slice ra' rn rc').ownBlock = some k → W1.heap.size ≤ k ∧ k < w2.heap.size := HO2.out.lt
  have hT : ∀ k, (Value.slice ta' tn tc').ownBlock = some k → base ≤ k ∧ k < w2.heap.size := HN2.out.lt
  have HBX6 : Hid (w6.heap[w2.heap.size]? = some (.cells #[.string i.1, .slice ra' rn rc', .slice ta' tn tc'] 25)) := by
    rw [hg6.block w2.heap.size (Array.getElem?_eq_some_iff.1 HBX5.out).1 (fun e => by have := (hR _ e.symm).2; omega)]
    exact HBX5.out
  have HN6 : Hid (OwnN base w6 (.slice ta' tn tc') i.2.2) := World.ownsRow.kept HN5.out hg6 (by
    cases hk : (Value.slice ta' tn tc').ownBlock with
    | none => exact .inl rfl
    | some k => exact .inr fun e => by have h1 := (hT k hk).1; have h2 := hbk k e.symm; omega)
  have HB56 : Hid (Below W1.heap.size w5 w6) := (Below.refl _ w5).grown hg6 hs15 (fun k hk => (hR k hk).1)
  obtain ⟨x0, x1, x2⟩ := box_cells HBX6.out
  have hs6 : base ≤ w6.heap.size := by have := hg6.size; have := HB25.out.size; omega
  clear hg6 d0 d1 d2
  go_wp2_with fail
  refine (overN_ok _ i.2.2 base w6 HN6.out hs6 HLT.out).mono ?_
  rintro e w7 ⟨rfl, hg7⟩
  have HB67 : Hid (Below W1.heap.size w6 w7) := (Below.refl _ w6).grown hg7 (by omega) (fun k hk => by have := (hT k hk).1; omega)
  have HB17 := hide (HB12.out.trans ((HB25.out.mono (HB12.out.size)).trans (HB56.out.trans HB67.out)))
  have HB07 := hide (HB1.out.trans (HB17.out.mono HB1.out.size))
  have HWB7 := hide (HWB1.out.trans (HB17.out.mono HWB1.out.size))
  clear hg7 x0 x1 x2 hR hT HB56 HB67 HB12 HB25 HBX6 HBX5 HBX3 HN6 HN5 HN2 HO5 HO2 HB35 HB23 HW3 HWB3
  obtain ⟨c0, c1, c2, e0, e1, e2⟩ := HA.out w7 HB07.out
  have hA7 : w.heap.size < w7.heap.size := Nat.lt_of_lt_of_le hA0 HB07.out.size
  have hA7' : w.heap.size + 1 < w7.heap.size := Nat.lt_of_lt_of_le hA1 HB07.out.size
  go_wp2_with fail
  have hS0 : Below w7.heap.size w7 w7.drew := (Below.refl _ w7).drew
  refine wp_region_held (S := fun w' => Below w7.heap.size w7 w') (by kernel_rfl) ?_
  change wpAnyH _ _ _ _ _ _ _ _ (World.drew _)
  refine wpAnyH_take (i := 0) (v := (.bool true)) rfl (by kernel_rfl) (by kernel_rfl) (by kernel_rfl) (fun _ _ _ h => h) (Or.inl ⟨by rfl, ?_⟩) hS0 ?_
  · intro w' hw'
    go_simp
  refine wpAnyH_take (i := 1) (v := (.bool true)) rfl (by kernel_rfl) (by kernel_rfl) (by kernel_rfl) (fun _ _ _ h => h) (Or.inl ⟨by rfl, ?_⟩) hS0 ?_
  · intro w' hw'
    go_simp
  refine wpAnyH_take (i := 2) (v := (.agg #[.string i.1, .slice ra rn rc, .slice ta tn tc])) rfl (by kernel_rfl) (by kernel_rfl) (by kernel_rfl) (fun _ _ _ h => h) (Or.inl ⟨by rfl, ?_⟩) hS0 ?_
  · intro w' hw'
    have y0 := (hw'.cell (p := ⟨w.heap.size, 0, none⟩) hA7).trans c0
    have y1 := (hw'.cell (p := ⟨w.heap.size, 1, none⟩) hA7).trans c1
    have y2 := (hw'.cell (p := ⟨w.heap.size, 2, none⟩) hA7).trans c2
    go_simp
  refine wpAnyH_take (i := 5) (v := (.agg #[.string i.1, .slice ra rn rc, .slice ta tn tc])) rfl (by kernel_rfl) (by kernel_rfl) (by kernel_rfl) (fun _ _ _ h => h) (Or.inl ⟨by rfl, ?_⟩) hS0 ?_
  · intro w' hw'
    have y0 := (hw'.cell (p := ⟨w.heap.size, 0, none⟩) hA7).trans c0
    have y1 := (hw'.cell (p := ⟨w.heap.size, 1, none⟩) hA7).trans c1
    have y2 := (hw'.cell (p := ⟨w.heap.size, 2, none⟩) hA7).trans c2
    go_simp
  have HWD := hide (below_two HWB7.out hS0)
  refine wpAnyH_ready (rs := [3, 6]) (by kernel_rfl) (by simp) (AllReadyH.cons rfl (fun K hK => ?_) (AllReadyH.cons rfl (fun K hK => ?_) AllReadyH.nil))
  · go_simp
    refine (ownI_ok i.1 i.2.1 i.2.2 ra rn rc ta tn tc w7.drew (HI.out.below HWD.out).refs (HI.out.below HWD.out).tree hrn htn).mono ?_
    rintro e w8 ⟨ra8, rc8, ta8, tc8, base8, rfl, ho8, hn8, _, _, _, hb8⟩
    have HT8 := hide ho8.txt
    have HN8 := hide hn8.nods
    have hS8 : Below w7.heap.size w7 w8 := below_two hS0 hb8
    have HW8 := hide (below_two HWB7.out hS8)
    clear ho8 hn8 hb8
    refine hK.out _ _ hS8 (fun _ => ?_)
    clear hK K
    refine wpAnyH_ready (rs := [4, 6]) (by kernel_rfl) (by simp) (AllReadyH.cons rfl (fun K hK => ?_) (AllReadyH.cons rfl (fun K hK => ?_) AllReadyH.nil))
    · have HB8 := hide (below_box w8 (.cells #[.string i.1, .slice ra8 rn rc8, .slice ta8 tn tc8] 25))
      have HX := hide (Its.one (i := i) HT8.out HN8.out)
      have HAF := hide (Its.one (i := i) (HI.out.below (below_two HW8.out HB8.out)).refs.txt (HI.out.below (below_two HW8.out HB8.out)).tree.nods)
      rw [show (w8.alloc (.cells #[.string i.1, .slice ra8 rn rc8, .slice ta8 tn tc8] 25)).heap.size = w8.heap.size + 1 by simp] at HAF
      have HXF := hide (HX.out.below (below_box _ (.cells #[.string i.1, .slice ra rn rc, .slice ta tn tc] 25)))
      have hS8a := below_two hS8 HB8.out
      have HSF := hide (below_two hS8a (below_box _ (.cells #[.string i.1, .slice ra rn rc, .slice ta tn tc] 25)))
      go_simp
      refine hK.out _ _ hS8a (fun _ => ?_)
      clear hK K
      refine wpAnyH_ready (rs := [6]) (by kernel_rfl) (by simp) (AllReadyH.cons rfl (fun K hK => ?_) AllReadyH.nil)
      go_simp
      refine hK.out _ _ HSF.out (fun _ => ?_)
      clear hK K HX HT8 HN8
      refine wpAnyH_ready (rs := [7]) (by kernel_rfl) (by simp) (AllReadyH.cons rfl (fun K hK => ?_) AllReadyH.nil)
      go_simp
      refine (sameIs_ok _ _ [i] [i] true _ HXF.out HAF.out (by simp) (fun x hx => by simp at hx; subst hx; exact HFI.out) (decide_eq_true rfl)).mono ?_
      rintro e w9 ⟨rfl, hb9⟩
      have hS9 : Below w7.heap.size w7 w9 := below_two HSF.out hb9
      have HWB9 := hide (below_two HWB7.out hS9)
      have HP : Hid (∀ p : Later w9, Ok w p.w1 ∧ ItArg p.w1 i ra rn rc ta tn tc ∧ ItArg p.w1 i' sa sn sc ua un uc) := fun p => ⟨⟨HSH.out, below_two HWB9.out p.below⟩, HI.out.below (below_two HWB9.out p.below), HI'.out.below (below_two HWB9.out p.below)⟩
      have h9A : w.heap.size < w9.heap.size := Nat.lt_of_lt_of_le hA7 hS9.size
      have h9B : w.heap.size + 1 < w9.heap.size := Nat.lt_of_lt_of_le hA7' hS9.size
      have f0 : ∀ p : Later w9, p.w1.cell? ⟨w.heap.size, 0, none⟩ = some (.string i.1) := fun p => p.cell h9A ((hS9.cell (p := ⟨w.heap.size, 0, none⟩) hA7).trans c0)
      have f1 : ∀ p : Later w9, p.w1.cell? ⟨w.heap.size, 1, none⟩ = some (.slice ra rn rc) := fun p => p.cell h9A ((hS9.cell (p := ⟨w.heap.size, 1, none⟩) hA7).trans c1)
      have f2 : ∀ p : Later w9, p.w1.cell? ⟨w.heap.size, 2, none⟩ = some (.slice ta tn tc) := fun p => p.cell h9A ((hS9.cell (p := ⟨w.heap.size, 2, none⟩) hA7).trans c2)
      have k0 : ∀ p : Later w9, p.w1.cell? ⟨w.heap.size + 1, 0, none⟩ = some (.string i'.1) := fun p => p.cell h9B ((hS9.cell (p := ⟨w.heap.size + 1, 0, none⟩) hA7').trans e0)
      have k1 : ∀ p : Later w9, p.w1.cell? ⟨w.heap.size + 1, 1, none⟩ = some (.slice sa sn sc) := fun p => p.cell h9B ((hS9.cell (p := ⟨w.heap.size + 1, 1, none⟩) hA7').trans e1)
      have k2 : ∀ p : Later w9, p.w1.cell? ⟨w.heap.size + 1, 2, none⟩ = some (.slice ua un uc) := fun p => p.cell h9B ((hS9.cell (p := ⟨w.heap.size + 1, 2, none⟩) hA7').trans e2)
      have hne := later_one w9
      obtain ⟨bn, hbn⟩ : ∃ bn, Hog.nameL s.data.toList = bn := ⟨_, rfl⟩
      obtain ⟨th, hth⟩ : ∃ th, Hog.mk (Hog.hashL s.data.toList) = th := ⟨_, rfl⟩
      obtain ⟨bm, hbm⟩ : ∃ bm, mayI i = bm := ⟨_, rfl⟩
      obtain ⟨bq, hbq⟩ : ∃ bq, decide (i = i') = bq := ⟨_, rfl⟩
      have HC1 : Hid (∀ p : Later w9, Calls Tryd.prog 13 #[.string s] p.w1 fun e w' => e = .returned (.bool bn) ∧ Below p.w1.heap.size p.w1 w') := fun p => name_ok s bn p.w1 (by omega) hbn
      have HC2 : Hid (∀ p : Later w9, Calls Tryd.prog 14 #[.string s] p.w1 fun e w' => e = .returned (.bool bn) ∧ Below p.w1.heap.size p.w1 w') := fun p => (rname_ok s bn p.w1 (by omega) hbn).mono fun e w' ⟨q1, q2⟩ => ⟨q1, by rw [q2]; exact Below.refl _ _⟩
      have HC3 : Hid (∀ p : Later w9, Calls Tryd.prog 15 #[.string s] p.w1 fun e w' => e = .returned (.string th) ∧ Below p.w1.heap.size p.w1 w') := fun p => hash_ok s th p.w1 (by omega) hth
      have HC4 : Hid (∀ p : Later w9, Calls Tryd.prog 16 #[.string s] p.w1 fun e w' => e = .returned (.string th) ∧ Below p.w1.heap.size p.w1 w') := fun p => (rhash_ok s th p.w1 (by omega) hth).mono fun e w' ⟨q1, q2⟩ => ⟨q1, by rw [q2]; exact Below.refl _ _⟩
      have HC5 : Hid (∀ p : Later w9, Calls Tryd.prog 17 #[.agg #[.string i.1, .slice ra rn rc, .slice ta tn tc]] p.w1 fun e w' => e = .returned (.bool bm) ∧ Below p.w1.heap.size p.w1 w') := fun p =>
        (mayI_ok i ra rn rc ta tn tc bm w p.w1 (HP.out p).1 HFI.out (HP.out p).2.1.refs.txt (HP.out p).2.1.tree.nods hbm).mono fun e w' ⟨q1, _, q3⟩ => ⟨q1, q3⟩
      have HC6 : Hid (∀ p : Later w9, Calls Tryd.prog 18 #[.agg #[.string i.1, .slice ra rn rc, .slice ta tn tc]] p.w1 fun e w' => e = .returned (.bool bm) ∧ Below p.w1.heap.size p.w1 w') := fun p =>
        (rmayI_ok i ra rn rc ta tn tc bm w p.w1 (HP.out p).1 HFI.out (HP.out p).2.1.refs.txt (HP.out p).2.1.tree.nods hbm).mono fun e w' ⟨q1, _, q3⟩ => ⟨q1, q3⟩
      have HC7 : Hid (∀ p : Later w9, Calls Tryd.prog 19 #[.agg #[.string i.1, .slice ra rn rc, .slice ta tn tc], .agg #[.string i'.1, .slice sa sn sc, .slice ua un uc]] p.w1 fun e w' => e = .returned (.bool bq) ∧ Below p.w1.heap.size p.w1 w') := fun p =>
        sameI_ok i i' ra rn rc ta tn tc sa sn sc ua un uc bq p.w1 (HP.out p).2.1.refs.txt (HP.out p).2.1.tree.nods (HP.out p).2.2.refs.txt (HP.out p).2.2.tree.nods (by have := HLR.out; omega) (by have := HLT.out; omega) hbq
      have HC8 : Hid (∀ p : Later w9, Calls Tryd.prog 20 #[.agg #[.string i.1, .slice ra rn rc, .slice ta tn tc], .agg #[.string i'.1, .slice sa sn sc, .slice ua un uc]] p.w1 fun e w' => e = .returned (.bool bq) ∧ Below p.w1.heap.size p.w1 w') := fun p =>
        rsameI_ok i i' ra rn rc ta tn tc sa sn sc ua un uc bq p.w1 (HP.out p).2.1.refs.txt (HP.out p).2.1.tree.nods (HP.out p).2.2.refs.txt (HP.out p).2.2.tree.nods (by have := HLR.out; omega) (by have := HLT.out; omega) hbq
      have HC9 : Hid (∀ p : Later w9, Calls Tryd.prog 19 #[.agg #[.string i.1, .slice ra rn rc, .slice ta tn tc], .agg #[.string i.1, .slice ra rn rc, .slice ta tn tc]] p.w1 fun e w' => e = .returned (.bool true) ∧ Below p.w1.heap.size p.w1 w') := fun p =>
        sameI_ok i i ra rn rc ta tn tc ra rn rc ta tn tc true p.w1 (HP.out p).2.1.refs.txt (HP.out p).2.1.tree.nods (HP.out p).2.1.refs.txt (HP.out p).2.1.tree.nods (by have := HLR.out; omega) (by have := HLT.out; omega) (decide_eq_true rfl)
      have HCA : Hid (∀ p : Later w9, Calls Tryd.prog 8 #[] p.w1 fun e w' => e = .returned (.bool true) ∧ Below p.w1.heap.size p.w1 w') := fun p =>
        (awake7_ok w p.w1 (HP.out p).1).mono fun e w' ⟨q1, _, q3⟩ => ⟨q1, q3⟩
      have u1 : (bn == bn) = true := by simp
      have u2 : (bm == bm) = true := by simp
      have u3 : (bq == bq) = true := by simp
      clear hbn hth hbm hbq c0 c1 c2 e0 e1 e2 HXF HAF HSF hb9
      refine hK.out _ _ hS9 (fun _ => ?_)
      clear hK K
      refine wpAnyH_later8 (fun p => below_two hS9 p.below) (by kernel_rfl) (by kernel_rfl) ?_
      repeat (first
        | go_big_quiet_step ((first
          | (go_at_call 13; exact Calls.later_of (HC1.out _))
          | (go_at_call 14; exact Calls.later_of (HC2.out _))
          | (go_at_call 15; exact Calls.later_of (HC3.out _))
          | (go_at_call 16; exact Calls.later_of (HC4.out _))
          | (go_at_call 17; exact Calls.later_of (HC5.out _))
          | (go_at_call 18; exact Calls.later_of (HC6.out _))
          | (go_at_call 19; first | with_reducible exact Calls.later_of (HC7.out _) | with_reducible exact Calls.later_of (HC9.out _))
          | (go_at_call 20; exact Calls.later_of (HC8.out _))
          | (go_at_call 8; exact Calls.later_of (HCA.out _)))))
      refine wpQuiet_nil ?_
      intro W5 hw'
      have hbq := later_below hw'
      have HB5 := hide (below_two HWB9.out hbq)
      clear hw' hbq f0 f1 f2 k0 k1 k2 HC1 HC2 HC3 HC4 HC5 HC6 HC7 HC8 HC9 HCA HP u1 u2 u3
      go_wp2
      go_ret
      exact ⟨rfl, HB5.out⟩
    · have HB8 := hide (below_box w8 (.cells #[.string i.1, .slice ra rn rc, .slice ta tn tc] 25))
      have HA := hide (Its.one (i := i) (HI.out.below HW8.out).refs.txt (HI.out.below HW8.out).tree.nods)
      have HXF := hide (Its.one (i := i) (HT8.out.below HB8.out) (HN8.out.below HB8.out))
      rw [show (w8.alloc (.cells #[.string i.1, .slice ra rn rc, .slice ta tn tc] 25)).heap.size = w8.heap.size + 1 by simp] at HXF
      have HAF := hide (HA.out.below (below_box _ (.cells #[.string i.1, .slice ra8 rn rc8, .slice ta8 tn tc8] 25)))
      have hS8a := below_two hS8 HB8.out
      have HSF := hide (below_two hS8a (below_box _ (.cells #[.string i.1, .slice ra8 rn rc8, .slice ta8 tn tc8] 25)))
      go_simp
      refine hK.out _ _ hS8a (fun _ => ?_)
      clear hK K
      refine wpAnyH_ready (rs := [4]) (by kernel_rfl) (by simp) (AllReadyH.cons rfl (fun K hK => ?_) AllReadyH.nil)
      go_simp
      refine hK.out _ _ HSF.out (fun _ => ?_)
      clear hK K HA HT8 HN8
      refine wpAnyH_ready (rs := [7]) (by kernel_rfl) (by simp) (AllReadyH.cons rfl (fun K hK => ?_) AllReadyH.nil)
      go_simp
      refine (sameIs_ok _ _ [i] [i] true _ HXF.out HAF.out (by simp) (fun x hx => by simp at hx; subst hx; exact HFI.out) (decide_eq_true rfl)).mono ?_
      rintro e w9 ⟨rfl, hb9⟩
      have hS9 : Below w7.heap.size w7 w9 := below_two HSF.out hb9
      have HWB9 := hide (below_two HWB7.out hS9)
      have HP : Hid (∀ p : Later w9, Ok w p.w1 ∧ ItArg p.w1 i ra rn rc ta tn tc ∧ ItArg p.w1 i' sa sn sc ua un uc) := fun p => ⟨⟨HSH.out, below_two HWB9.out p.below⟩, HI.out.below (below_two HWB9.out p.below), HI'.out.below (below_two HWB9.out p.below)⟩
      have h9A : w.heap.size < w9.heap.size := Nat.lt_of_lt_of_le hA7 hS9.size
      have h9B : w.heap.size + 1 < w9.heap.size := Nat.lt_of_lt_of_le hA7' hS9.size
      have f0 : ∀ p : Later w9, p.w1.cell? ⟨w.heap.size, 0, none⟩ = some (.string i.1) := fun p => p.cell h9A ((hS9.cell (p := ⟨w.heap.size, 0, none⟩) hA7).trans c0)
      have f1 : ∀ p : Later w9, p.w1.cell? ⟨w.heap.size, 1, none⟩ = some (.slice ra rn rc) := fun p => p.cell h9A ((hS9.cell (p := ⟨w.heap.size, 1, none⟩) hA7).trans c1)
      have f2 : ∀ p : Later w9, p.w1.cell? ⟨w.heap.size, 2, none⟩ = some (.slice ta tn tc) := fun p => p.cell h9A ((hS9.cell (p := ⟨w.heap.size, 2, none⟩) hA7).trans c2)
      have k0 : ∀ p : Later w9, p.w1.cell? ⟨w.heap.size + 1, 0, none⟩ = some (.string i'.1) := fun p => p.cell h9B ((hS9.cell (p := ⟨w.heap.size + 1, 0, none⟩) hA7').trans e0)
      have k1 : ∀ p : Later w9, p.w1.cell? ⟨w.heap.size + 1, 1, none⟩ = some (.slice sa sn sc) := fun p => p.cell h9B ((hS9.cell (p := ⟨w.heap.size + 1, 1, none⟩) hA7').trans e1)
      have k2 : ∀ p : Later w9, p.w1.cell? ⟨w.heap.size + 1, 2, none⟩ = some (.slice ua un uc) := fun p => p.cell h9B ((hS9.cell (p := ⟨w.heap.size + 1, 2, none⟩) hA7').trans e2)
      have hne := later_one w9
      obtain ⟨bn, hbn⟩ : ∃ bn, Hog.nameL s.data.toList = bn := ⟨_, rfl⟩
      obtain ⟨th, hth⟩ : ∃ th, Hog.mk (Hog.hashL s.data.toList) = th := ⟨_, rfl⟩
      obtain ⟨bm, hbm⟩ : ∃ bm, mayI i = bm := ⟨_, rfl⟩
      obtain ⟨bq, hbq⟩ : ∃ bq, decide (i = i') = bq := ⟨_, rfl⟩
      have HC1 : Hid (∀ p : Later w9, Calls Tryd.prog 13 #[.string s] p.w1 fun e w' => e = .returned (.bool bn) ∧ Below p.w1.heap.size p.w1 w') := fun p => name_ok s bn p.w1 (by omega) hbn
      have HC2 : Hid (∀ p : Later w9, Calls Tryd.prog 14 #[.string s] p.w1 fun e w' => e = .returned (.bool bn) ∧ Below p.w1.heap.size p.w1 w') := fun p => (rname_ok s bn p.w1 (by omega) hbn).mono fun e w' ⟨q1, q2⟩ => ⟨q1, by rw [q2]; exact Below.refl _ _⟩
      have HC3 : Hid (∀ p : Later w9, Calls Tryd.prog 15 #[.string s] p.w1 fun e w' => e = .returned (.string th) ∧ Below p.w1.heap.size p.w1 w') := fun p => hash_ok s th p.w1 (by omega) hth
      have HC4 : Hid (∀ p : Later w9, Calls Tryd.prog 16 #[.string s] p.w1 fun e w' => e = .returned (.string th) ∧ Below p.w1.heap.size p.w1 w') := fun p => (rhash_ok s th p.w1 (by omega) hth).mono fun e w' ⟨q1, q2⟩ => ⟨q1, by rw [q2]; exact Below.refl _ _⟩
      have HC5 : Hid (∀ p : Later w9, Calls Tryd.prog 17 #[.agg #[.string i.1, .slice ra rn rc, .slice ta tn tc]] p.w1 fun e w' => e = .returned (.bool bm) ∧ Below p.w1.heap.size p.w1 w') := fun p =>
        (mayI_ok i ra rn rc ta tn tc bm w p.w1 (HP.out p).1 HFI.out (HP.out p).2.1.refs.txt (HP.out p).2.1.tree.nods hbm).mono fun e w' ⟨q1, _, q3⟩ => ⟨q1, q3⟩
      have HC6 : Hid (∀ p : Later w9, Calls Tryd.prog 18 #[.agg #[.string i.1, .slice ra rn rc, .slice ta tn tc]] p.w1 fun e w' => e = .returned (.bool bm) ∧ Below p.w1.heap.size p.w1 w') := fun p =>
        (rmayI_ok i ra rn rc ta tn tc bm w p.w1 (HP.out p).1 HFI.out (HP.out p).2.1.refs.txt (HP.out p).2.1.tree.nods hbm).mono fun e w' ⟨q1, _, q3⟩ => ⟨q1, q3⟩
      have HC7 : Hid (∀ p : Later w9, Calls Tryd.prog 19 #[.agg #[.string i.1, .slice ra rn rc, .slice ta tn tc], .agg #[.string i'.1, .slice sa sn sc, .slice ua un uc]] p.w1 fun e w' => e = .returned (.bool bq) ∧ Below p.w1.heap.size p.w1 w') := fun p =>
        sameI_ok i i' ra rn rc ta tn tc sa sn sc ua un uc bq p.w1 (HP.out p).2.1.refs.txt (HP.out p).2.1.tree.nods (HP.out p).2.2.refs.txt (HP.out p).2.2.tree.nods (by have := HLR.out; omega) (by have := HLT.out; omega) hbq
      have HC8 : Hid (∀ p : Later w9, Calls Tryd.prog 20 #[.agg #[.string i.1, .slice ra rn rc, .slice ta tn tc], .agg #[.string i'.1, .slice sa sn sc, .slice ua un uc]] p.w1 fun e w' => e = .returned (.bool bq) ∧ Below p.w1.heap.size p.w1 w') := fun p =>
        rsameI_ok i i' ra rn rc ta tn tc sa sn sc ua un uc bq p.w1 (HP.out p).2.1.refs.txt (HP.out p).2.1.tree.nods (HP.out p).2.2.refs.txt (HP.out p).2.2.tree.nods (by have := HLR.out; omega) (by have := HLT.out; omega) hbq
      have HC9 : Hid (∀ p : Later w9, Calls Tryd.prog 19 #[.agg #[.string i.1, .slice ra rn rc, .slice ta tn tc], .agg #[.string i.1, .slice ra rn rc, .slice ta tn tc]] p.w1 fun e w' => e = .returned (.bool true) ∧ Below p.w1.heap.size p.w1 w') := fun p =>
        sameI_ok i i ra rn rc ta tn tc ra rn rc ta tn tc true p.w1 (HP.out p).2.1.refs.txt (HP.out p).2.1.tree.nods (HP.out p).2.1.refs.txt (HP.out p).2.1.tree.nods (by have := HLR.out; omega) (by have := HLT.out; omega) (decide_eq_true rfl)
      have HCA : Hid (∀ p : Later w9, Calls Tryd.prog 8 #[] p.w1 fun e w' => e = .returned (.bool true) ∧ Below p.w1.heap.size p.w1 w') := fun p =>
        (awake7_ok w p.w1 (HP.out p).1).mono fun e w' ⟨q1, _, q3⟩ => ⟨q1, q3⟩
      have u1 : (bn == bn) = true := by simp
      have u2 : (bm == bm) = true := by simp
      have u3 : (bq == bq) = true := by simp
      clear hbn hth hbm hbq c0 c1 c2 e0 e1 e2 HXF HAF HSF hb9
      refine hK.out _ _ hS9 (fun _ => ?_)
      clear hK K
      refine wpAnyH_later8 (fun p => below_two hS9 p.below) (by kernel_rfl) (by kernel_rfl) ?_
      repeat (first
        | go_big_quiet_step ((first
          | (go_at_call 13; exact Calls.later_of (HC1.out _))
          | (go_at_call 14; exact Calls.later_of (HC2.out _))
          | (go_at_call 15; exact Calls.later_of (HC3.out _))
          | (go_at_call 16; exact Calls.later_of (HC4.out _))
          | (go_at_call 17; exact Calls.later_of (HC5.out _))
          | (go_at_call 18; exact Calls.later_of (HC6.out _))
          | (go_at_call 19; first | with_reducible exact Calls.later_of (HC7.out _) | with_reducible exact Calls.later_of (HC9.out _))
          | (go_at_call 20; exact Calls.later_of (HC8.out _))
          | (go_at_call 8; exact Calls.later_of (HCA.out _)))))
      refine wpQuiet_nil ?_
      intro W5 hw'
      have hbq := later_below hw'
      have HB5 := hide (below_two HWB9.out hbq)
      clear hw' hbq f0 f1 f2 k0 k1 k2 HC1 HC2 HC3 HC4 HC5 HC6 HC7 HC8 HC9 HCA HP u1 u2 u3
      go_wp2
      go_ret
      exact ⟨rfl, HB5.out⟩
  · have HA := hide (Its.one (i := i) (HI.out.below HWD.out).refs.txt (HI.out.below HWD.out).tree.nods)
    have HBD := hide (below_box w7.drew (.cells #[.string i.1, .slice ra rn rc, .slice ta tn tc] 25))
    have hS7 := below_two hS0 HBD.out
    have HW7 := hide (below_two HWD.out HBD.out)
    go_simp
    refine hK.out _ _ hS7 (fun _ => ?_)
    clear hK K
    refine wpAnyH_ready (rs := [3]) (by kernel_rfl) (by simp) (AllReadyH.cons rfl (fun K hK => ?_) AllReadyH.nil)
    go_simp
    refine (ownI_ok i.1 i.2.1 i.2.2 ra rn rc ta tn tc _ (HI.out.below HW7.out).refs (HI.out.below HW7.out).tree hrn htn).mono ?_
    rintro e w8 ⟨ra8, rc8, ta8, tc8, base8, rfl, ho8, hn8, _, _, _, hb8⟩
    have HT8 := hide ho8.txt
    have HN8 := hide hn8.nods
    have hS8 : Below w7.heap.size w7 w8 := below_two hS7 hb8
    have HA8 := hide (HA.out.below hb8)
    have HX := hide (Its.one (i := i) HT8.out HN8.out)
    have HXF := HX
    have HAF := hide (HA8.out.below (below_box w8 (.cells #[.string i.1, .slice ra8 rn rc8, .slice ta8 tn tc8] 25)))
    have HSF := hide (below_two hS8 (below_box w8 (.cells #[.string i.1, .slice ra8 rn rc8, .slice ta8 tn tc8] 25)))
    clear ho8 hn8 hb8
    refine hK.out _ _ hS8 (fun _ => ?_)
    clear hK K
    refine wpAnyH_ready (rs := [4]) (by kernel_rfl) (by simp) (AllReadyH.cons rfl (fun K hK => ?_) AllReadyH.nil)
    go_simp
    refine hK.out _ _ HSF.out (fun _ => ?_)
    clear hK K HX HA HA8 HT8 HN8
    refine wpAnyH_ready (rs := [7]) (by kernel_rfl) (by simp) (AllReadyH.cons rfl (fun K hK => ?_) AllReadyH.nil)
    go_simp
    refine (sameIs_ok _ _ [i] [i] true _ HXF.out HAF.out (by simp) (fun x hx => by simp at hx; subst hx; exact HFI.out) (decide_eq_true rfl)).mono ?_
    rintro e w9 ⟨rfl, hb9⟩
    have hS9 : Below w7.heap.size w7 w9 := below_two HSF.out hb9
    have HWB9 := hide (below_two HWB7.out hS9)
    have HP : Hid (∀ p : Later w9, Ok w p.w1 ∧ ItArg p.w1 i ra rn rc ta tn tc ∧ ItArg p.w1 i' sa sn sc ua un uc) := fun p => ⟨⟨HSH.out, below_two HWB9.out p.below⟩, HI.out.below (below_two HWB9.out p.below), HI'.out.below (below_two HWB9.out p.below)⟩
    have h9A : w.heap.size < w9.heap.size := Nat.lt_of_lt_of_le hA7 hS9.size
    have h9B : w.heap.size + 1 < w9.heap.size := Nat.lt_of_lt_of_le hA7' hS9.size
    have f0 : ∀ p : Later w9, p.w1.cell? ⟨w.heap.size, 0, none⟩ = some (.string i.1) := fun p => p.cell h9A ((hS9.cell (p := ⟨w.heap.size, 0, none⟩) hA7).trans c0)
    have f1 : ∀ p : Later w9, p.w1.cell? ⟨w.heap.size, 1, none⟩ = some (.slice ra rn rc) := fun p => p.cell h9A ((hS9.cell (p := ⟨w.heap.size, 1, none⟩) hA7).trans c1)
    have f2 : ∀ p : Later w9, p.w1.cell? ⟨w.heap.size, 2, none⟩ = some (.slice ta tn tc) := fun p => p.cell h9A ((hS9.cell (p := ⟨w.heap.size, 2, none⟩) hA7).trans c2)
    have k0 : ∀ p : Later w9, p.w1.cell? ⟨w.heap.size + 1, 0, none⟩ = some (.string i'.1) := fun p => p.cell h9B ((hS9.cell (p := ⟨w.heap.size + 1, 0, none⟩) hA7').trans e0)
    have k1 : ∀ p : Later w9, p.w1.cell? ⟨w.heap.size + 1, 1, none⟩ = some (.slice sa sn sc) := fun p => p.cell h9B ((hS9.cell (p := ⟨w.heap.size + 1, 1, none⟩) hA7').trans e1)
    have k2 : ∀ p : Later w9, p.w1.cell? ⟨w.heap.size + 1, 2, none⟩ = some (.slice ua un uc) := fun p => p.cell h9B ((hS9.cell (p := ⟨w.heap.size + 1, 2, none⟩) hA7').trans e2)
    have hne := later_one w9
    obtain ⟨bn, hbn⟩ : ∃ bn, Hog.nameL s.data.toList = bn := ⟨_, rfl⟩
    obtain ⟨th, hth⟩ : ∃ th, Hog.mk (Hog.hashL s.data.toList) = th := ⟨_, rfl⟩
    obtain ⟨bm, hbm⟩ : ∃ bm, mayI i = bm := ⟨_, rfl⟩
    obtain ⟨bq, hbq⟩ : ∃ bq, decide (i = i') = bq := ⟨_, rfl⟩
    have HC1 : Hid (∀ p : Later w9, Calls Tryd.prog 13 #[.string s] p.w1 fun e w' => e = .returned (.bool bn) ∧ Below p.w1.heap.size p.w1 w') := fun p => name_ok s bn p.w1 (by omega) hbn
    have HC2 : Hid (∀ p : Later w9, Calls Tryd.prog 14 #[.string s] p.w1 fun e w' => e = .returned (.bool bn) ∧ Below p.w1.heap.size p.w1 w') := fun p => (rname_ok s bn p.w1 (by omega) hbn).mono fun e w' ⟨q1, q2⟩ => ⟨q1, by rw [q2]; exact Below.refl _ _⟩
    have HC3 : Hid (∀ p : Later w9, Calls Tryd.prog 15 #[.string s] p.w1 fun e w' => e = .returned (.string th) ∧ Below p.w1.heap.size p.w1 w') := fun p => hash_ok s th p.w1 (by omega) hth
    have HC4 : Hid (∀ p : Later w9, Calls Tryd.prog 16 #[.string s] p.w1 fun e w' => e = .returned (.string th) ∧ Below p.w1.heap.size p.w1 w') := fun p => (rhash_ok s th p.w1 (by omega) hth).mono fun e w' ⟨q1, q2⟩ => ⟨q1, by rw [q2]; exact Below.refl _ _⟩
    have HC5 : Hid (∀ p : Later w9, Calls Tryd.prog 17 #[.agg #[.string i.1, .slice ra rn rc, .slice ta tn tc]] p.w1 fun e w' => e = .returned (.bool bm) ∧ Below p.w1.heap.size p.w1 w') := fun p =>
      (mayI_ok i ra rn rc ta tn tc bm w p.w1 (HP.out p).1 HFI.out (HP.out p).2.1.refs.txt (HP.out p).2.1.tree.nods hbm).mono fun e w' ⟨q1, _, q3⟩ => ⟨q1, q3⟩
    have HC6 : Hid (∀ p : Later w9, Calls Tryd.prog 18 #[.agg #[.string i.1, .slice ra rn rc, .slice ta tn tc]] p.w1 fun e w' => e = .returned (.bool bm) ∧ Below p.w1.heap.size p.w1 w') := fun p =>
      (rmayI_ok i ra rn rc ta tn tc bm w p.w1 (HP.out p).1 HFI.out (HP.out p).2.1.refs.txt (HP.out p).2.1.tree.nods hbm).mono fun e w' ⟨q1, _, q3⟩ => ⟨q1, q3⟩
    have HC7 : Hid (∀ p : Later w9, Calls Tryd.prog 19 #[.agg #[.string i.1, .slice ra rn rc, .slice ta tn tc], .agg #[.string i'.1, .slice sa sn sc, .slice ua un uc]] p.w1 fun e w' => e = .returned (.bool bq) ∧ Below p.w1.heap.size p.w1 w') := fun p =>
      sameI_ok i i' ra rn rc ta tn tc sa sn sc ua un uc bq p.w1 (HP.out p).2.1.refs.txt (HP.out p).2.1.tree.nods (HP.out p).2.2.refs.txt (HP.out p).2.2.tree.nods (by have := HLR.out; omega) (by have := HLT.out; omega) hbq
    have HC8 : Hid (∀ p : Later w9, Calls Tryd.prog 20 #[.agg #[.string i.1, .slice ra rn rc, .slice ta tn tc], .agg #[.string i'.1, .slice sa sn sc, .slice ua un uc]] p.w1 fun e w' => e = .returned (.bool bq) ∧ Below p.w1.heap.size p.w1 w') := fun p =>
      rsameI_ok i i' ra rn rc ta tn tc sa sn sc ua un uc bq p.w1 (HP.out p).2.1.refs.txt (HP.out p).2.1.tree.nods (HP.out p).2.2.refs.txt (HP.out p).2.2.tree.nods (by have := HLR.out; omega) (by have := HLT.out; omega) hbq
    have HC9 : Hid (∀ p : Later w9, Calls Tryd.prog 19 #[.agg #[.string i.1, .slice ra rn rc, .slice ta tn tc], .agg #[.string i.1, .slice ra rn rc, .slice ta tn tc]] p.w1 fun e w' => e = .returned (.bool true) ∧ Below p.w1.heap.size p.w1 w') := fun p =>
      sameI_ok i i ra rn rc ta tn tc ra rn rc ta tn tc true p.w1 (HP.out p).2.1.refs.txt (HP.out p).2.1.tree.nods (HP.out p).2.1.refs.txt (HP.out p).2.1.tree.nods (by have := HLR.out; omega) (by have := HLT.out; omega) (decide_eq_true rfl)
    have HCA : Hid (∀ p : Later w9, Calls Tryd.prog 8 #[] p.w1 fun e w' => e = .returned (.bool true) ∧ Below p.w1.heap.size p.w1 w') := fun p =>
      (awake7_ok w p.w1 (HP.out p).1).mono fun e w' ⟨q1, _, q3⟩ => ⟨q1, q3⟩
    have u1 : (bn == bn) = true := by simp
    have u2 : (bm == bm) = true := by simp
    have u3 : (bq == bq) = true := by simp
    clear hbn hth hbm hbq c0 c1 c2 e0 e1 e2 HXF HAF HSF hb9
    refine hK.out _ _ hS9 (fun _ => ?_)
    clear hK K
    refine wpAnyH_later8 (fun p => below_two hS9 p.below) (by kernel_rfl) (by kernel_rfl) ?_
    repeat (first
      | go_big_quiet_step ((first
        | (go_at_call 13; exact Calls.later_of (HC1.out _))
        | (go_at_call 14; exact Calls.later_of (HC2.out _))
        | (go_at_call 15; exact Calls.later_of (HC3.out _))
        | (go_at_call 16; exact Calls.later_of (HC4.out _))
        | (go_at_call 17; exact Calls.later_of (HC5.out _))
        | (go_at_call 18; exact Calls.later_of (HC6.out _))
        | (go_at_call 19; first | with_reducible exact Calls.later_of (HC7.out _) | with_reducible exact Calls.later_of (HC9.out _))
        | (go_at_call 20; exact Calls.later_of (HC8.out _))
        | (go_at_call 8; exact Calls.later_of (HCA.out _)))))
    refine wpQuiet_nil ?_
    intro W5 hw'
    have hbq := later_below hw'
    have HB5 := hide (below_two HWB9.out hbq)
    clear hw' hbq f0 f1 f2 k0 k1 k2 HC1 HC2 HC3 HC4 HC5 HC6 HC7 HC8 HC9 HCA HP u1 u2 u3
    go_wp2
    go_ret
    exact ⟨rfl, HB5.out⟩

set_option maxRecDepth 100000 in
set_option maxHeartbeats 1000000 in
theorem tells7_rest (s : ByteArray) (i : It) (ra : Option Addr) (rn rc : Nat) (ta : Option Addr) (tn tc : Nat) (i' : It) (sa : Option Addr) (sn sc : Nat) (ua : Option Addr) (un uc : Nat) (w : World) (hsh : w.ShapedOpen Tryd.prog)
    (hz : s.size ≤ maxLen) (hi : ItArg w i ra rn rc ta tn tc) (hi' : ItArg w i' sa sn sc ua un uc) (hg : 100 < s.size ∨ bigI i = true ∨ bigI i' = true) :
    Calls Tryd.prog 3 #[.string s, .agg #[.string i.1, .slice ra rn rc, .slice ta tn tc], .agg #[.string i'.1, .slice sa sn sc, .slice ua un uc]] w fun e w' => e = .returned (.bool true) ∧ Below w.heap.size w w' := by
  unfold maxLen at hz
  have HSH := hide hsh
  obtain ⟨W0, hW0⟩ : ∃ W0, W0 = (w.alloc (.cells #[.string i.1, .slice ra rn rc, .slice ta tn tc] 25)).alloc (.cells #[.string i'.1, .slice sa sn sc, .slice ua un uc] 25) := ⟨_, rfl⟩
  have HB0 : Hid (Below w.heap.size w W0) := by rw [hW0]; exact below_two (below_box _ _) (below_box _ _)
  have hsz0 : W0.heap.size = w.heap.size + 2 := by rw [hW0]; simp
  have HW0 := hide hW0.symm
  have HIT := hide (Its.two (i := i) (i' := i') (hi.below HB0.out).refs.txt (hi.below HB0.out).tree.nods (hi'.below HB0.out).refs.txt (hi'.below HB0.out).tree.nods)
  have HLN : Hid (Lens [i, i']) := fun x hx => by
    simp at hx
    rcases hx with rfl | rfl
    · exact ⟨by rw [hi.refs.len]; exact hi.rlen, by rw [hi.tree.len]; exact hi.tlen⟩
    · exact ⟨by rw [hi'.refs.len]; exact hi'.rlen, by rw [hi'.tree.len]; exact hi'.tlen⟩
  rw [hsz0] at HIT
  have HWB1 := hide (below_two HB0.out (below_box W0 (.cells #[.string i.1, .slice ra rn rc, .slice ta tn tc, .string i'.1, .slice sa sn sc, .slice ua un uc] 25)))
  clear hi hi' hsh hW0 hsz0
  by_cases hs : 100 < s.size
  · have hs' : (100 : Int) < (s.size : Int) := by omega
    clear hg
    go_enter Tryd.func3, Tryd.ntmps3
    go_wp2_with fail
    rw [HW0.out]
    refine (awake7_ok w W0 ⟨HSH.out, HB0.out⟩).mono ?_
    rintro e w8 ⟨rfl, ok8, _⟩
    go_wp2
    go_ret
    exact ⟨rfl, ok8.2⟩
  · have hs' : (s.size : Int) ≤ 100 := by omega
    have HGI : Hid (greatI [i, i'] = true) := by
      unfold greatI
      rcases hg with h | h | h
      · omega
      · simp [h, Hid]
      · simp [h, Hid]
    clear hg
    go_enter Tryd.func3, Tryd.ntmps3
    go_wp2_with fail
    rw [HW0.out]
    refine (greatI_ok _ [i, i'] true _ HIT.out (by unfold maxLen; simp) HLN.out HGI.out).mono ?_
    rintro e w1 ⟨rfl, rfl⟩
    go_wp2_with fail
    refine (awake7_ok w _ ⟨HSH.out, HWB1.out⟩).mono ?_
    rintro e w8 ⟨rfl, ok8, _⟩
    go_wp2
    go_ret
    exact ⟨rfl, ok8.2⟩

theorem tells7_walk (s : ByteArray) (i : It) (ra : Option Addr) (rn rc : Nat) (ta : Option Addr) (tn tc : Nat) (i' : It) (sa : Option Addr) (sn sc : Nat) (ua : Option Addr) (un uc : Nat) (w : World) (hsh : w.ShapedOpen Tryd.prog)
    (hz : s.size ≤ maxLen) (hi : ItArg w i ra rn rc ta tn tc) (hi' : ItArg w i' sa sn sc ua un uc) :
    Calls Tryd.prog 3 #[.string s, .agg #[.string i.1, .slice ra rn rc, .slice ta tn tc], .agg #[.string i'.1, .slice sa sn sc, .slice ua un uc]] w fun e w' => e = .returned (.bool true) ∧ Below w.heap.size w w' := by
  by_cases h0 : 100 < s.size
  · exact tells7_rest s i ra rn rc ta tn tc i' sa sn sc ua un uc w hsh hz hi hi' (.inl h0)
  · cases h1 : bigI i with
    | true => exact tells7_rest s i ra rn rc ta tn tc i' sa sn sc ua un uc w hsh hz hi hi' (.inr (.inl h1))
    | false =>
      cases h2 : bigI i' with
      | true => exact tells7_rest s i ra rn rc ta tn tc i' sa sn sc ua un uc w hsh hz hi hi' (.inr (.inr h2))
      | false => exact tells7_main s i ra rn rc ta tn tc i' sa sn sc ua un uc w hsh (by omega) hi hi' h1 h2
end Go.Proofs.YtggojmimodpfaaaDoor
