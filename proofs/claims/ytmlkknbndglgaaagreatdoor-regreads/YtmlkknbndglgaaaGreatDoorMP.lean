/- The walk of the statements' own bare: a pack without trees. -/
import Derived.Test.YtmlkknbndglgaaaGreatDoorMN
import Derived.Test.YtmlkknbndglgaaaGreatDoorMM
import Derived.Test.YtmlkknbndglgaaaGreatDoorKCb
import Derived.Deep.RegionLaw
import Derived.Deep.RegionHeld
namespace Go.Proofs.YtmlkknbndglgaaaGreatDoor
open Go.RowKit

theorem struct_pack' : Tryz.prog.underlying 25 = some (.struct (Tryz.prog.fieldsOf 25)) := by kernel_rfl
theorem size_of_pack' : (Tryz.prog.info? 25).map (·.size) = some 4 := by kernel_rfl
/-- An item's cells without its tree. -/
def strip (p : Pr) : Pr := ((p.2.1, p.1.2.1, (none, 0, 0)), (p.2.1, p.2.2.1, []))
theorem strip_is {w : World} {p : Pr} (h : IsI w p) : IsI w (strip p) := ⟨rfl, h.refs, ⟨rfl, fun _ => ⟨rfl, rfl⟩, Nat.le_refl _, fun _ e => by cases e⟩⟩
theorem strip_its (qs : List Pr) : itsOf (qs.map strip) = unI (rsI (itsOf qs)) := by
  unfold itsOf rsI unI
  simp only [List.map_map]
  rfl

set_option maxRecDepth 100000 in
set_option maxHeartbeats 4000000 in
theorem bare_ok (pre : ByteArray) (ia : Option Addr) (m ic : Nat) (qs : List Pr) (pa : Option Addr) (n pc : Nat) (pol : Int) (w : World) (hA : ArgS w ia m ic qs) (hm : m < 900000) :
    Calls Tryz.prog 11 #[.agg #[.string pre, .slice ia m ic, .slice pa n pc, .int .i64 pol]] w fun e w' => ∃ ua uc, e = .returned (.agg #[.string pre, .slice ua m uc, .slice pa n pc, .int .i64 pol]) ∧ Its w' (.slice ua m uc) (unI (rsI (itsOf qs))) ∧ Below w.heap.size w w' := by
  obtain ⟨g, hg⟩ : ∃ g, w.heap.size + 1 = g := ⟨_, rfl⟩
  obtain ⟨V1, hV1⟩ : ∃ V, w.alloc (.cells #[.string pre, .slice ia m ic, .slice pa n pc, .int .i64 pol] 25) = V := ⟨_, rfl⟩
  obtain ⟨V2, hV2⟩ : ∃ V, V1.alloc (.cells #[.string ⟨#[]⟩, .slice none 0 0, .slice none 0 0, .int .i64 0] 25) = V := ⟨_, rfl⟩
  obtain ⟨W, hW⟩ : ∃ V, V2.alloc (.cells #[.string pre, .slice none 0 0, .slice pa n pc, .int .i64 pol] 25) = V := ⟨_, rfl⟩
  have z1 : V1.heap.size = g := by rw [← hV1, World.size_alloc, hg]
  have z2 : V2.heap.size = g + 1 := by rw [← hV2, World.size_alloc, z1]
  have z3 : W.heap.size = g + 1 + 1 := by rw [← hW, World.size_alloc, z2]
  have y0 : Below w.heap.size w V1 := by rw [← hV1]; exact below_box _ _
  have y1 : Below V1.heap.size V1 V2 := by rw [← hV2]; exact below_box _ _
  have y2 : Below V2.heap.size V2 W := by rw [← hW]; exact below_box _ _
  have HB0 := hide (below_two y0 (below_two y1 y2))
  have HB1 : Hid (BoxP W w.heap.size 25 pre (.slice ia m ic) (.slice pa n pc) pol) := by
    have h : BoxP V1 w.heap.size 25 pre (.slice ia m ic) (.slice pa n pc) pol := by rw [← hV1]; exact BoxP.made _ _ _ _ _ _
    exact h.below (below_two y1 y2)
  have HB2 : Hid (BoxP W g 25 ⟨#[]⟩ (.slice none 0 0) (.slice none 0 0) 0) := by
    have h : BoxP V2 g 25 ⟨#[]⟩ (.slice none 0 0) (.slice none 0 0) 0 := by rw [← hV2, ← z1]; exact BoxP.made _ _ _ _ _ _
    exact h.below y2
  have HB3 : Hid (BoxP W (g + 1) 25 pre (.slice none 0 0) (.slice pa n pc) pol) := by rw [← hW, ← z2]; exact BoxP.made _ _ _ _ _ _
  have HW : Hid (((w.alloc (.cells #[.string pre, .slice ia m ic, .slice pa n pc, .int .i64 pol] 25)).alloc (.cells #[.string ⟨#[]⟩, .slice none 0 0, .slice none 0 0, .int .i64 0] 25)).alloc (.cells #[.string pre, .slice none 0 0, .slice pa n pc, .int .i64 pol] 25) = W) := by rw [hV1, hV2, hW]; exact rfl
  have HA := hide hA
  have HG := hide hg
  clear hA hV1 hV2 hW z1 z2 y0 y1 y2
  go_enter Tryz.func11, Tryz.ntmps11
  go_wp2
  have hwe := HW.out
  rw [hwe]
  clear hwe
  go_loopw [4] (fun i wr => ∃ (k : Nat) (ua : Option Addr) (uc : Nat), k ≤ m ∧ i = .int .i64 k ∧ Hid (BoxP wr (g + 1) 25 pre (.slice ua k uc) (.slice pa n pc) pol) ∧ Hid (OwnS (g + 1 + 1) wr (.slice ua k uc) ((qs.take k).map strip)) ∧ Hid (Below (g + 1) W wr)) (fun i _ => m - (intOf i).toNat)
  case atStart => exact ⟨0, none, 0, Nat.zero_le _, rfl, HB3, OwnS.nil _ _, Below.refl _ _⟩
  case round =>
    obtain ⟨k, ua, uc, hk, rfl, hbx, hown, hbl⟩ := hrel
    have hb1 : BoxP wr w.heap.size 25 pre (.slice ia m ic) (.slice pa n pc) pol := by
      have h := hbl.out.block w.heap.size (by omega)
      unfold BoxP; rw [h]; exact HB1.out
    obtain ⟨⟨_, a1, _⟩, _, hlt1⟩ := hb1.facts
    obtain ⟨⟨b0, b1, b2, b3⟩, ⟨f0, f1, f2, f3⟩, hlt3⟩ := hbx.out.facts
    have HAW : Hid (ArgS wr ia m ic qs) := by
      refine HA.out.below ((HB0.out.trans (hbl.out.mono (by omega))))
    by_cases hlt : k < m
    · have hql := HAW.out.len
      obtain ⟨p, hp⟩ : ∃ p, qs[k]? = some p := ⟨qs[k]'(by omega), List.getElem?_eq_some_iff.2 ⟨_, rfl⟩⟩
      have hki : (k : Int) < (m : Int) := by omega
      cases ia with
      | none => have := (HAW.out.none rfl).1; omega
      | some ad =>
        obtain ⟨e0, had⟩ := HAW.out.plain (by omega)
        obtain ⟨b, o, rfl⟩ : ∃ b o, ad = ⟨b, o, none⟩ := ⟨_, _, e0⟩
        have hbw := hide (show b < w.heap.size from (HA.out.plain (by omega)).2)
        obtain ⟨q0, q1, q2⟩ := rflat_get hp
        have c0 := HAW.out.cell _ rfl _ _ q0
        have c1 := HAW.out.cell _ rfl _ _ q1
        rw [add_plain] at c0 c1
        obtain ⟨ra, rn, rc, hrv⟩ : ∃ ra rn rc, refsV p.1 = .slice ra rn rc := ⟨_, _, _, rfl⟩
        rw [hrv] at c1
        rw [← Nat.add_assoc] at c1
        have hip := HAW.out.each p (List.mem_of_getElem? hp)
        rw [hip.name] at c0
        have hre : p.1.2.1 = (ra, rn, rc) := by
          unfold refsV at hrv
          obtain ⟨e1, e2, e3⟩ : p.1.2.1.1 = ra ∧ p.1.2.1.2.1 = rn ∧ p.1.2.1.2.2 = rc := by simpa using hrv
          rw [← e1, ← e2, ← e3]
        have HIP := hide (strip_is hip)
        have HBD : Hid (Below wr.heap.size wr (wr.drew.alloc (.cells #[.string p.2.1, .slice ra rn rc, .slice none 0 0] 47))) := hide ((Below.refl wr.heap.size wr).drew.alloc (Nat.le_refl _) _)
        have HX : Hid (ArgS (wr.drew.alloc (.cells #[.string p.2.1, .slice ra rn rc, .slice none 0 0] 47)) (some ⟨wr.heap.size, 0, none⟩) 1 1 [strip p]) := by
          have h := argS_one (w := wr.drew) (q := strip p) (strip_is (hip.below ((Below.refl _ wr).drew)))
          have e : (strip p).1.2.1 = (ra, rn, rc) := hre
          rw [e] at h
          exact h
        have HO : Hid (OwnS (g + 1 + 1) (wr.drew.alloc (.cells #[.string p.2.1, .slice ra rn rc, .slice none 0 0] 47)) (.slice ua k uc) ((qs.take k).map strip)) := hown.out.below HBD.out
        have HQ1 : Hid (((qs.take k).map strip).length + [strip p].length = k + 1) := by
          rw [List.length_map, List.length_take, List.length_singleton, Nat.min_eq_left (by omega)]; exact rfl
        have HQ2 : Hid ((qs.take k).map strip ++ [strip p] = (qs.take (k + 1)).map strip) := by
          obtain ⟨hk', rfl⟩ := List.getElem?_eq_some_iff.1 hp
          rw [List.take_succ_eq_append_getElem hk', List.map_append]; exact rfl
        have HLOW : Hid (g + 1 + 1 ≤ wr.heap.size + 1) := hide (by omega)
        have HVB : Hid (∀ w2, Below (g + 1 + 1) (wr.drew.alloc (.cells #[.string p.2.1, .slice ra rn rc, .slice none 0 0] 47)) w2 → BoxP w2 (g + 1) 25 pre (.slice ua k uc) (.slice pa n pc) pol) := fun w2 h2 => by
          have h1 := hbx.out.below HBD.out
          have h3 := h2.block (g + 1) (by omega)
          unfold BoxP; rw [h3]; exact h1
        clear hp hre hrv hip q0 q1 q2 e0 HAW
        go_wp2_with fail
        have hS0 : Below (g + 1) wr wr.drew := (Below.refl _ wr).drew
        refine wp_region_held (S := fun w' => Below (g + 1) wr w') (by kernel_rfl) ?_
        change wpAnyH _ _ _ _ _ _ _ _ (World.drew _)
        refine wpAnyH_take (i := 0) (v := (.pointer (some ⟨g + 1, 1, none⟩))) rfl (by kernel_rfl) (by kernel_rfl) (by kernel_rfl) (fun _ _ _ h => h) (Or.inl ⟨by kernel_rfl, ?_⟩) hS0 ?_
        · intro w' hw'
          go_simp
        refine wpAnyH_take (i := 2) (v := (.pointer (some ⟨w.heap.size, 1, none⟩))) rfl (by kernel_rfl) (by kernel_rfl) (by kernel_rfl) (fun _ _ _ h => h) (Or.inl ⟨by kernel_rfl, ?_⟩) hS0 ?_
        · intro w' hw'
          go_simp
        refine wpAnyH_take (i := 3) (v := (.slice (some ⟨b, o, none⟩) m ic)) rfl (by kernel_rfl) (by kernel_rfl) (by kernel_rfl) (fun _ _ _ h => h) (Or.inl ⟨by kernel_rfl, ?_⟩) hS0 ?_
        · intro w' hw'
          have y1 := (hw'.cell (p := ⟨w.heap.size, 1, none⟩) (by show w.heap.size < g + 1; omega)).trans a1
          go_simp
        refine wpAnyH_take (i := 4) (v := (.int .i64 k)) rfl (by kernel_rfl) (by kernel_rfl) (by kernel_rfl) (fun _ _ _ h => h) (Or.inl ⟨by kernel_rfl, ?_⟩) hS0 ?_
        · intro w' hw'
          go_simp
        refine wpAnyH_take (i := 5) (v := (.pointer (some ⟨b, o + k * 3, none⟩))) rfl (by kernel_rfl) (by kernel_rfl) (by kernel_rfl) (fun _ _ _ h => h) (Or.inl ⟨by kernel_rfl, ?_⟩) hS0 ?_
        · intro w' hw'
          go_simp
        refine wpAnyH_take (i := 6) (v := (.pointer (some ⟨b, o + k * 3, none⟩))) rfl (by kernel_rfl) (by kernel_rfl) (by kernel_rfl) (fun _ _ _ h => h) (Or.inl ⟨by kernel_rfl, ?_⟩) hS0 ?_
        · intro w' hw'
          go_simp
        refine wpAnyH_take (i := 7) (v := (.string p.2.1)) rfl (by kernel_rfl) (by kernel_rfl) (by kernel_rfl) (fun _ _ _ h => h) (Or.inl ⟨by kernel_rfl, ?_⟩) hS0 ?_
        · intro w' hw'
          have y1 := (hw'.cell (p := ⟨b, o + k * 3, none⟩) (by show b < g + 1; have := hbw.out; omega)).trans c0
          go_simp
        refine wpAnyH_take (i := 8) (v := (.pointer (some ⟨w.heap.size, 1, none⟩))) rfl (by kernel_rfl) (by kernel_rfl) (by kernel_rfl) (fun _ _ _ h => h) (Or.inl ⟨by kernel_rfl, ?_⟩) hS0 ?_
        · intro w' hw'
          go_simp
        refine wpAnyH_take (i := 9) (v := (.slice (some ⟨b, o, none⟩) m ic)) rfl (by kernel_rfl) (by kernel_rfl) (by kernel_rfl) (fun _ _ _ h => h) (Or.inl ⟨by kernel_rfl, ?_⟩) hS0 ?_
        · intro w' hw'
          have y1 := (hw'.cell (p := ⟨w.heap.size, 1, none⟩) (by show w.heap.size < g + 1; omega)).trans a1
          go_simp
        refine wpAnyH_take (i := 10) (v := (.int .i64 k)) rfl (by kernel_rfl) (by kernel_rfl) (by kernel_rfl) (fun _ _ _ h => h) (Or.inl ⟨by kernel_rfl, ?_⟩) hS0 ?_
        · intro w' hw'
          go_simp
        refine wpAnyH_take (i := 11) (v := (.pointer (some ⟨b, o + k * 3, none⟩))) rfl (by kernel_rfl) (by kernel_rfl) (by kernel_rfl) (fun _ _ _ h => h) (Or.inl ⟨by kernel_rfl, ?_⟩) hS0 ?_
        · intro w' hw'
          go_simp
        refine wpAnyH_take (i := 12) (v := (.pointer (some ⟨b, o + k * 3 + 1, none⟩))) rfl (by kernel_rfl) (by kernel_rfl) (by kernel_rfl) (fun _ _ _ h => h) (Or.inl ⟨by kernel_rfl, ?_⟩) hS0 ?_
        · intro w' hw'
          go_simp
        refine wpAnyH_take (i := 13) (v := (.slice ra rn rc)) rfl (by kernel_rfl) (by kernel_rfl) (by kernel_rfl) (fun _ _ _ h => h) (Or.inl ⟨by kernel_rfl, ?_⟩) hS0 ?_
        · intro w' hw'
          have y1 := (hw'.cell (p := ⟨b, o + k * 3 + 1, none⟩) (by show b < g + 1; have := hbw.out; omega)).trans c1
          go_simp
        refine wpAnyH_take (i := 14) (v := (.agg #[.string p.2.1, .slice ra rn rc, .slice none 0 0])) rfl (by kernel_rfl) (by kernel_rfl) (by kernel_rfl) (fun _ _ _ h => h) (Or.inl ⟨by kernel_rfl, ?_⟩) hS0 ?_
        · intro w' hw'
          go_simp
        have hS1 : Below (g + 1) wr (wr.drew.alloc (.cells #[.string p.2.1, .slice ra rn rc, .slice none 0 0] 47)) := (Below.refl (g + 1) wr).drew.alloc (by show g + 1 ≤ wr.heap.size; omega) _
        refine wpAnyH_ready (rs := [1, 15]) (by kernel_rfl) (by simp) (AllReadyH.cons rfl (fun K hK => ?_) (AllReadyH.cons rfl (fun K hK => ?_) AllReadyH.nil))
        · go_simp
          refine hK.out _ _ hS0 (fun _ => ?_)
          clear hK K
          refine wpAnyH_ready (rs := [15]) (by kernel_rfl) (by simp) (AllReadyH.cons rfl (fun K hK => ?_) AllReadyH.nil)
          go_simp
          refine hK.out _ _ hS1 (fun _ => ?_)
          clear hK K
          have hS6 : Below (g + 1) wr (wr.drew.alloc (.cells #[.string p.2.1, .slice ra rn rc, .slice none 0 0] 47)) := hS1
          refine wpAnyH_ready (rs := [16]) (by kernel_rfl) (by simp) (AllReadyH.cons rfl (fun K hK => ?_) AllReadyH.nil)
          refine step_append_items rfl (.tmp 15) (.tmp 29) rfl (g + 1 + 1) (.slice ua k uc) ((qs.take k).map strip) rfl (HO.out.below (Below.refl _ _)) _ _ _ [strip p] rfl (HX.out.below (Below.refl _ _)) (k + 1) HQ1.out ((qs.take (k + 1)).map strip) HQ2.out (by omega) (by have := HLOW.out; simp; omega) ?_
          intro b4 c4 w2 ho hb2
          have hbx2 := HVB.out w2 ((Below.refl (g + 1 + 1) (wr.drew.alloc (.cells #[.string p.2.1, .slice ra rn rc, .slice none 0 0] 47))).trans hb2)
          obtain ⟨⟨_, z1, _⟩, ⟨_, y1, _⟩, _⟩ := hbx2.facts
          have hS7 : Below (g + 1) wr w2 := hS6.trans (hb2.mono (by omega))
          have HO2 := hide ho
          have HBX2 := hide hbx2
          refine hK.out _ _ hS7 (fun _ => ?_)
          clear hK K ho hbx2
          refine wpAnyH_ready (rs := [17]) (by kernel_rfl) (by simp) (AllReadyH.cons rfl (fun K hK => ?_) AllReadyH.nil)
          go_simp
          refine hK.out _ _ hS7 (fun _ => ?_)
          clear hK K
          refine wpAnyH_ready (rs := [18]) (by kernel_rfl) (by simp) (AllReadyH.cons rfl (fun K hK => ?_) AllReadyH.nil)
          go_simp
          have hS8 : Below (g + 1) wr (w2.setCell ⟨g + 1, 1, none⟩ (.slice b4 (k + 1) c4)) := hS7.setCell (p := ⟨g + 1, 1, none⟩) (Nat.le_refl _) _
          refine hK.out _ _ hS8 (fun _ => ?_)
          clear hK K
          refine wpAnyH_done (by kernel_rfl) ?_ _
          have HB8 := hide (hbl.out.trans hS8)
          have HBX8 := hide (HBX2.out.set1 (.slice b4 (k + 1) c4))
          have HO8 : Hid (OwnS (g + 1 + 1) (w2.setCell ⟨g + 1, 1, none⟩ (.slice b4 (k + 1) c4)) (.slice b4 (k + 1) c4) ((qs.take (k + 1)).map strip)) := World.ownsRow.kept HO2.out (grown_setCell w2 (g + 1) 1 _) (.inr (fun e => by have := (HO2.out.lt _ e).1; omega))
          clear hS0 hS6 hS7 hS8 z1 y1 hb2 a1 b0 b1 b2 b3 f0 f1 f2 f3 c0 c1
          go_wp2
          go_roundw
          case rel => exact ⟨k + 1, b4, c4, by omega, by go_num, HBX8, HO8, HB8⟩
          case measure => simp [intOf]; omega
        · go_simp
          refine hK.out _ _ hS1 (fun _ => ?_)
          clear hK K
          refine wpAnyH_ready (rs := [1]) (by kernel_rfl) (by simp) (AllReadyH.cons rfl (fun K hK => ?_) AllReadyH.nil)
          go_simp
          refine hK.out _ _ hS1 (fun _ => ?_)
          clear hK K
          have hS6 : Below (g + 1) wr (wr.drew.alloc (.cells #[.string p.2.1, .slice ra rn rc, .slice none 0 0] 47)) := hS1
          refine wpAnyH_ready (rs := [16]) (by kernel_rfl) (by simp) (AllReadyH.cons rfl (fun K hK => ?_) AllReadyH.nil)
          refine step_append_items rfl (.tmp 15) (.tmp 29) rfl (g + 1 + 1) (.slice ua k uc) ((qs.take k).map strip) rfl (HO.out.below (Below.refl _ _)) _ _ _ [strip p] rfl (HX.out.below (Below.refl _ _)) (k + 1) HQ1.out ((qs.take (k + 1)).map strip) HQ2.out (by omega) (by have := HLOW.out; simp; omega) ?_
          intro b4 c4 w2 ho hb2
          have hbx2 := HVB.out w2 ((Below.refl (g + 1 + 1) (wr.drew.alloc (.cells #[.string p.2.1, .slice ra rn rc, .slice none 0 0] 47))).trans hb2)
          obtain ⟨⟨_, z1, _⟩, ⟨_, y1, _⟩, _⟩ := hbx2.facts
          have hS7 : Below (g + 1) wr w2 := hS6.trans (hb2.mono (by omega))
          have HO2 := hide ho
          have HBX2 := hide hbx2
          refine hK.out _ _ hS7 (fun _ => ?_)
          clear hK K ho hbx2
          refine wpAnyH_ready (rs := [17]) (by kernel_rfl) (by simp) (AllReadyH.cons rfl (fun K hK => ?_) AllReadyH.nil)
          go_simp
          refine hK.out _ _ hS7 (fun _ => ?_)
          clear hK K
          refine wpAnyH_ready (rs := [18]) (by kernel_rfl) (by simp) (AllReadyH.cons rfl (fun K hK => ?_) AllReadyH.nil)
          go_simp
          have hS8 : Below (g + 1) wr (w2.setCell ⟨g + 1, 1, none⟩ (.slice b4 (k + 1) c4)) := hS7.setCell (p := ⟨g + 1, 1, none⟩) (Nat.le_refl _) _
          refine hK.out _ _ hS8 (fun _ => ?_)
          clear hK K
          refine wpAnyH_done (by kernel_rfl) ?_ _
          have HB8 := hide (hbl.out.trans hS8)
          have HBX8 := hide (HBX2.out.set1 (.slice b4 (k + 1) c4))
          have HO8 : Hid (OwnS (g + 1 + 1) (w2.setCell ⟨g + 1, 1, none⟩ (.slice b4 (k + 1) c4)) (.slice b4 (k + 1) c4) ((qs.take (k + 1)).map strip)) := World.ownsRow.kept HO2.out (grown_setCell w2 (g + 1) 1 _) (.inr (fun e => by have := (HO2.out.lt _ e).1; omega))
          clear hS0 hS6 hS7 hS8 z1 y1 hb2 a1 b0 b1 b2 b3 f0 f1 f2 f3 c0 c1
          go_wp2
          go_roundw
          case rel => exact ⟨k + 1, b4, c4, by omega, by go_num, HBX8, HO8, HB8⟩
          case measure => simp [intOf]; omega
    · obtain rfl : k = m := by omega
      have hkd : (k : Int) ≤ (k : Int) := Int.le_refl _
      have hr1 : BoxP wr g 25 ⟨#[]⟩ (.slice none 0 0) (.slice none 0 0) 0 := by
        have h := hbl.out.block g (by omega)
        unfold BoxP; rw [h]; exact HB2.out
      obtain ⟨⟨r0, r1, r2, r3⟩, ⟨q0, q1, q2, q3⟩, hrl⟩ := hr1.facts
      have hbp := hr1.stored pre (.slice ua k uc) (.slice pa n pc) pol
      have hgw := setP_grown wr g pre (.slice ua k uc) (.slice pa n pc) pol
      have hlenq := HA.out.len
      have hits : Its (setP wr g pre (.slice ua k uc) (.slice pa n pc) pol) (.slice ua k uc) (unI (rsI (itsOf qs))) := by
        have h1 : OwnS (g + 1 + 1) (setP wr g pre (.slice ua k uc) (.slice pa n pc) pol) (.slice ua k uc) (qs.map strip) := by
          have h := hown.out
          rw [List.take_of_length_le (by omega)] at h
          exact World.ownsRow.kept h hgw (.inr (fun e => by have := (h.lt _ e).1; omega))
        have h2 : ∀ p ∈ qs.map strip, IsI (setP wr g pre (.slice ua k uc) (.slice pa n pc) pol) p := by
          intro p hp
          obtain ⟨p0, hp0, rfl⟩ := List.mem_map.1 hp
          have h0 := HA.out.each p0 hp0
          have hb : Below w.heap.size w (setP wr g pre (.slice ua k uc) (.slice pa n pc) pol) := ((HB0.out.trans (hbl.out.mono (by omega)))).grown hgw (by omega) (fun j e => by have := Option.some.inj e; omega)
          exact strip_is (h0.below hb)
        have h3 := (h1.sls h2).its
        rw [strip_its] at h3
        exact h3
      have HITS := hide hits
      have HBL := hide (((HB0.out.trans (hbl.out.mono (by omega)))).grown hgw (by omega) (fun j e => by have := Option.some.inj e; omega))
      have HBP := hide hbp
      clear hits hgw hbp hlenq
      go_wp2
      refine bodyPost_ret (results_cell_row rfl _ _ g 25 #[.string pre, .slice ua k uc, .slice pa n pc, .int .i64 pol] (0, 0) _ rfl HBP.out struct_pack' rfl size_of_pack') rfl ?_
      exact ⟨ua, uc, rfl, HITS.out, HBL.out⟩
end Go.Proofs.YtmlkknbndglgaaaGreatDoor
