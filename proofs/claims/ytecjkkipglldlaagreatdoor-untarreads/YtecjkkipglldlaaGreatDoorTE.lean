/- The writer's method lay. -/
import Derived.Test.YtecjkkipglldlaaGreatDoorTD
import Derived.Deep.RegionHeld
import Derived.BigRegion
import Derived.RegionTactic
namespace Go.Proofs.YtecjkkipglldlaaGreatDoor
open Go.RowKit

set_option maxRecDepth 100000 in
set_option maxHeartbeats 8000000 in
theorem layW_ok (g base n q : Nat) (v : Value) (l z : List UInt8) (s t d : ByteArray) (k : Int) (E : Hog.EntL) (w0 w : World) (hok : Ok w0 w) (hw : WrAt w g base v l) (h0 : w0.heap.size ≤ base) (hbg : base ≤ g) (hbw : base ≤ w.heap.size)
    (hn : s.data.toList = E.name) (hk : k = E.kind) (ht : t.data.toList = E.link) (hd : d.data.toList = E.data) (hf : Hog.Fits E) (hl : l.length = n) (hln : n ≤ 4000000) (hz : l ++ Hog.entL E = z) (hq : z.length = q) :
    Calls Tryz.prog 27 #[.pointer (some ⟨g, 0, none⟩), .agg #[.string s, .int .i64 k, .string t, .string d]] w fun e w' => e = .returned (.tuple #[]) ∧ ∃ b c, WrAt w' g base (.slice b q c) z ∧ Wrote g w v w' (.slice b q c) ∧ Ok w0 w' := by
  obtain ⟨x1, hx1⟩ : ∃ x, E.name.take 100 = x := ⟨_, rfl⟩
  obtain ⟨x2, hx2⟩ : ∃ x, E.link.take 100 = x := ⟨_, rfl⟩
  obtain ⟨hh, hhh⟩ : ∃ x, Hog.headE E = x := ⟨_, rfl⟩
  obtain ⟨f, hff⟩ : ∃ x, Hog.fillN E.data.length = x := ⟨_, rfl⟩
  have hds : d.size = E.data.length := by rw [← hd, Hog.size_len]
  have hd1 : d.size ≤ 1000 := by rw [hds]; exact hf.data
  have HMAY : Hid (Hog.May x1 k d.size x2) := by rw [hds, hk, ← hx1, ← hx2]; exact hide hf.may
  have HHL : Hid (hh.length = 512) := by rw [← hhh]; exact hide (Hog.headE_len hf)
  have HHE : Hid (Hog.headH x1 k d.size x2 = hh) := by rw [hds, hk, ← hx1, ← hx2, ← hhh]; exact hide rfl
  have HFF : Hid (Hog.fillN d.size = f) := by rw [hds]; exact hide hff
  have hf5 : f < 512 := by rw [← hff]; exact Hog.fillN_lt _
  obtain ⟨l1, hl1⟩ : ∃ x, l ++ hh = x := ⟨_, rfl⟩
  obtain ⟨l2, hl2⟩ : ∃ x, l1 ++ d.data.toList = x := ⟨_, rfl⟩
  have HL1L : Hid (l1.length = n + 512) := by rw [← hl1, List.length_append, hl, HHL.out]; exact hide rfl
  have HL2L : Hid (l2.length = n + 512 + d.size) := by rw [← hl2, List.length_append, HL1L.out, ← Hog.size_len]; exact hide rfl
  have HZ : Hid (l2 ++ Hog.zeros f = z) := by
    rw [← hz, ← hl2, ← hl1, hd]
    unfold Hog.entL
    rw [hhh, hff]
    exact hide (by simp only [List.append_assoc])
  have hqn : n + 512 + d.size + f = q := by
    rw [← hq, ← HZ.out, List.length_append, HL2L.out, Hog.zeros_len]
  have HQN := hide hqn
  have HN := hide hl
  have HL1 := hide hl1
  have HL2 := hide hl2
  have HS := hide hn
  have HT := hide ht
  have HX1 := hide hx1
  have HX2 := hide hx2
  obtain ⟨V, hV⟩ : ∃ V, V = w.alloc (.cells #[.string s, .int .i64 k, .string t, .string d] 78) := ⟨_, rfl⟩
  have hbV : Below w.heap.size w V := by rw [hV]; exact below_box _ _
  have HWV := hide (hw.below hbV)
  have hlt2 : w.heap.size < V.heap.size := by rw [hV]; simp
  have c0 : V.cell? ⟨w.heap.size, 0, none⟩ = some (.string s) := by rw [hV]; simp
  have c1 : V.cell? ⟨w.heap.size, 1, none⟩ = some (.int .i64 k) := by rw [hV]; simp
  have c2 : V.cell? ⟨w.heap.size, 2, none⟩ = some (.string t) := by rw [hV]; simp
  have c3 : V.cell? ⟨w.heap.size, 3, none⟩ = some (.string d) := by rw [hV]; simp
  have HC3 := hide c3
  have HOV := hide (hok.next hbV)
  have HBV := hide hbV
  have HV := hide hV.symm
  have HGW : Hid (w.heap.size ≠ g) := hide (by have := hw.lt; omega)
  have HVO : Hid (v.ownBlock ≠ some w.heap.size) := hide (fun e => by have := (hw.own.lt _ e).2; omega)
  have HW := hide hw
  have HOK := hide hok
  clear hx1 hx2 hhh hff hds hf hl1 hl2 hz hq hqn hl hn hk ht hd hV hbV hw hok
  go_enter Tryz.func27, Tryz.ntmps27
  go_wp2_with fail
  rw [HV.out]
  have hS0 : Below V.heap.size V V.drew := (Below.refl _ V).drew
  refine wp_region_held (S := fun w' => Below V.heap.size V w') (by kernel_rfl) ?_
  change wpAnyH _ _ _ _ _ _ _ _ (World.drew _)
  refine wpAnyH_take (i := 0) (v := (.pointer (some ⟨w.heap.size, 0, none⟩))) rfl (by kernel_rfl) (by kernel_rfl) (by kernel_rfl) (fun _ _ _ h => h) (Or.inl ⟨by kernel_rfl, ?_⟩) hS0 ?_
  · intro w' hw'
    go_simp
  refine wpAnyH_take (i := 1) (v := (.string s)) rfl (by kernel_rfl) (by kernel_rfl) (by kernel_rfl) (fun _ _ _ h => h) (Or.inl ⟨by kernel_rfl, ?_⟩) hS0 ?_
  · intro w' hw'
    have y := (hw'.cell (p := ⟨w.heap.size, 0, none⟩) hlt2).trans c0
    go_simp
  refine wpAnyH_take (i := 3) (v := (.pointer (some ⟨w.heap.size, 1, none⟩))) rfl (by kernel_rfl) (by kernel_rfl) (by kernel_rfl) (fun _ _ _ h => h) (Or.inl ⟨by kernel_rfl, ?_⟩) hS0 ?_
  · intro w' hw'
    go_simp
  refine wpAnyH_take (i := 4) (v := (.int .i64 k)) rfl (by kernel_rfl) (by kernel_rfl) (by kernel_rfl) (fun _ _ _ h => h) (Or.inl ⟨by kernel_rfl, ?_⟩) hS0 ?_
  · intro w' hw'
    have y := (hw'.cell (p := ⟨w.heap.size, 1, none⟩) hlt2).trans c1
    go_simp
  refine wpAnyH_take (i := 5) (v := (.pointer (some ⟨w.heap.size, 3, none⟩))) rfl (by kernel_rfl) (by kernel_rfl) (by kernel_rfl) (fun _ _ _ h => h) (Or.inl ⟨by kernel_rfl, ?_⟩) hS0 ?_
  · intro w' hw'
    go_simp
  refine wpAnyH_take (i := 6) (v := (.string d)) rfl (by kernel_rfl) (by kernel_rfl) (by kernel_rfl) (fun _ _ _ h => h) (Or.inl ⟨by kernel_rfl, ?_⟩) hS0 ?_
  · intro w' hw'
    have y := (hw'.cell (p := ⟨w.heap.size, 3, none⟩) hlt2).trans c3
    go_simp
  refine wpAnyH_take (i := 7) (v := (.int .i64 d.size)) rfl (by kernel_rfl) (by kernel_rfl) (by kernel_rfl) (fun _ _ _ h => h) (Or.inl ⟨by kernel_rfl, ?_⟩) hS0 ?_
  · intro w' hw'
    go_simp
  refine wpAnyH_take (i := 8) (v := (.pointer (some ⟨w.heap.size, 2, none⟩))) rfl (by kernel_rfl) (by kernel_rfl) (by kernel_rfl) (fun _ _ _ h => h) (Or.inl ⟨by kernel_rfl, ?_⟩) hS0 ?_
  · intro w' hw'
    go_simp
  refine wpAnyH_take (i := 9) (v := (.string t)) rfl (by kernel_rfl) (by kernel_rfl) (by kernel_rfl) (fun _ _ _ h => h) (Or.inl ⟨by kernel_rfl, ?_⟩) hS0 ?_
  · intro w' hw'
    have y := (hw'.cell (p := ⟨w.heap.size, 2, none⟩) hlt2).trans c2
    go_simp
  refine wpAnyH_ready (rs := [2]) (by kernel_rfl) (by simp) (AllReadyH.cons rfl (fun K hK => ?_) AllReadyH.nil)
  go_simp
  refine (show Calls _ _ _ _ _ from beginning_ok s E.name x1 _ HS.out HX1.out).mono ?_
  rintro e _ ⟨rfl, rfl⟩
  go_simp
  refine hK.out _ _ hS0 (fun _ => ?_)
  clear hK K
  refine wpAnyH_ready (rs := [10]) (by kernel_rfl) (by simp) (AllReadyH.cons rfl (fun K hK => ?_) AllReadyH.nil)
  go_simp
  refine (show Calls _ _ _ _ _ from beginning_ok t E.link x2 _ HT.out HX2.out).mono ?_
  rintro e _ ⟨rfl, rfl⟩
  go_simp
  refine hK.out _ _ hS0 (fun _ => ?_)
  clear hK K
  refine wpAnyH_ready (rs := [11]) (by kernel_rfl) (by simp) (AllReadyH.cons rfl (fun K hK => ?_) AllReadyH.nil)
  go_simp
  refine (show Calls _ _ _ _ _ from lay_good (Hog.mk x1) (Hog.mk x2) x1 x2 k d.size w0 V.drew (HOV.out.next hS0) (Hog.mk_data x1) (Hog.mk_data x2) HMAY.out).mono ?_
  rintro e w1 ⟨G, rfl, hG, hrow, ok1, hb1⟩
  have hS1 : Below V.heap.size V w1 := below_two hS0 hb1
  go_simp
  refine hK.out _ _ hS1 (fun _ => ?_)
  clear hK K
  refine wpAnyH_take (i := 12) (v := (.tuple #[.slice (some ⟨G, 0, none⟩) 512 512, .bool true])) rfl (by kernel_rfl) (by kernel_rfl) (by kernel_rfl) (fun _ _ _ h => h) (Or.inl ⟨by kernel_rfl, ?_⟩) hS1 ?_
  · intro w' hw'
    go_simp
  refine wpAnyH_take (i := 13) (v := (.slice (some ⟨G, 0, none⟩) 512 512)) rfl (by kernel_rfl) (by kernel_rfl) (by kernel_rfl) (fun _ _ _ h => h) (Or.inl ⟨by kernel_rfl, ?_⟩) hS1 ?_
  · intro w' hw'
    go_simp
  refine wpAnyH_take (i := 15) (v := (.slice (some ⟨G, 0, none⟩) 512 512)) rfl (by kernel_rfl) (by kernel_rfl) (by kernel_rfl) (fun _ _ _ h => h) (Or.inl ⟨by kernel_rfl, ?_⟩) hS1 ?_
  · intro w' hw'
    go_simp
  refine wpAnyH_take (i := 14) (v := (.bool true)) rfl (by kernel_rfl) (by kernel_rfl) (by kernel_rfl) (fun _ _ _ h => h) (Or.inl ⟨by kernel_rfl, ?_⟩) hS1 ?_
  · intro w' hw'
    go_simp
  refine wpAnyH_take (i := 16) (v := (.bool true)) rfl (by kernel_rfl) (by kernel_rfl) (by kernel_rfl) (fun _ _ _ h => h) (Or.inl ⟨by kernel_rfl, ?_⟩) hS1 ?_
  · intro w' hw'
    go_simp
  refine wpAnyH_done (by kernel_rfl) ?_ _
  rw [HHE.out] at hrow
  have HR1 := hide hrow
  have HW1 := hide (HWV.out.below hS1)
  have HB1 := hide (below_two HBV.out hS1)
  have HOK1 := hide ok1
  have HC31 : Hid (w1.cell? ⟨w.heap.size, 3, none⟩ = some (.string d)) := hide ((hS1.cell (p := ⟨w.heap.size, 3, none⟩) hlt2).trans HC3.out)
  have hbw1 : base ≤ w1.heap.size := Nat.le_trans hbw HB1.out.size
  have HLT1 : Hid (w.heap.size < w1.heap.size) := hide (by have := hS1.size; omega)
  have g0 := HW1.out.cell
  clear hS0 hS1 hb1 hrow ok1 hG c0 c1 c2 c3 hlt2 HWV HBV HOV HC3
  go_wp2_with (at_builtin; refine wpList_append_bytes rfl _ _ rfl base _ l rfl HW1.out.own _ 512 512 hh rfl (HR1.out.arg HHL.out (Nat.le_refl _)) n HN.out l1 HL1.out ?b1 hbw1 ?_)
  case b1 => omega
  intro b2 c2 w2 ho2 hl2
  have HO2 := hide ho2
  have HL2' := hide hl2
  obtain ⟨g1, f1⟩ := HW1.out.after hl2
  clear ho2 hl2 g0
  go_wp2
  obtain ⟨U, hU⟩ : ∃ U, U = w2.setCell ⟨g, 0, none⟩ (.slice b2 (n + 512) c2) := ⟨_, rfl⟩
  have HWU : Hid (WrAt U g base (.slice b2 (n + 512) c2) l1) := by rw [hU]; exact hide (HW1.out.stored HL2'.out HO2.out)
  have hWR : Wrote g w1 v U (.slice b2 (n + 512) c2) := by rw [hU]; exact Wrote.laid HL2'.out
  have hc3 : U.cell? ⟨w.heap.size, 3, none⟩ = some (.string d) := hWR.cell HC31.out HGW.out HVO.out
  have HVU := hide (hWR.off HLT1.out HVO.out)
  have HWRU := hide ((Wrote.of (g := g) (v := v) HB1.out).trans hWR)
  have hbU : base ≤ U.heap.size := Nat.le_trans hbw1 hWR.size
  have HU : Hid (w2.setCell ⟨g, 0, none⟩ (.slice b2 (n + 512) c2) = U) := hide hU.symm
  rw [HU.out]
  have hS0 : U.drew.cell? ⟨w.heap.size, 3, none⟩ = some (.string d) := hc3
  have HWD := hide (HWU.out.below ((Below.refl _ U).drew))
  have g2 : U.drew.cell? ⟨g, 0, none⟩ = some (.slice b2 (n + 512) c2) := HWD.out.cell
  have HLTU : Hid (w.heap.size < U.heap.size) := hide (Nat.lt_of_lt_of_le HLT1.out hWR.size)
  clear g1 f1 hWR hc3 hU HU HWU HW1 HO2 HL2' HVO HC31 HB1 HLT1 hbw1 HR1 HMAY HHE HHL
  refine wp_region_held (S := fun w' => w'.cell? ⟨w.heap.size, 3, none⟩ = some (.string d)) (by kernel_rfl) ?_
  change wpAnyH _ _ _ _ _ _ _ _ (World.drew _)
  refine wpAnyH_take (i := 0) (v := (.pointer (some ⟨g, 0, none⟩))) rfl (by kernel_rfl) (by kernel_rfl) (by kernel_rfl) (fun _ _ _ h => h) (Or.inl ⟨by kernel_rfl, ?_⟩) hS0 ?_
  · intro w' hw'
    go_simp
  refine wpAnyH_take (i := 1) (v := (.pointer (some ⟨g, 0, none⟩))) rfl (by kernel_rfl) (by kernel_rfl) (by kernel_rfl) (fun _ _ _ h => h) (Or.inl ⟨by kernel_rfl, ?_⟩) hS0 ?_
  · intro w' hw'
    go_simp
  refine wpAnyH_take (i := 2) (v := (.pointer (some ⟨g, 0, none⟩))) rfl (by kernel_rfl) (by kernel_rfl) (by kernel_rfl) (fun _ _ _ h => h) (Or.inl ⟨by kernel_rfl, ?_⟩) hS0 ?_
  · intro w' hw'
    go_simp
  refine wpAnyH_take (i := 3) (v := (.pointer (some ⟨g, 0, none⟩))) rfl (by kernel_rfl) (by kernel_rfl) (by kernel_rfl) (fun _ _ _ h => h) (Or.inl ⟨by kernel_rfl, ?_⟩) hS0 ?_
  · intro w' hw'
    go_simp
  refine wpAnyH_take (i := 5) (v := (.pointer (some ⟨w.heap.size, 3, none⟩))) rfl (by kernel_rfl) (by kernel_rfl) (by kernel_rfl) (fun _ _ _ h => h) (Or.inl ⟨by kernel_rfl, ?_⟩) hS0 ?_
  · intro w' hw'
    go_simp
  refine wpAnyH_take (i := 6) (v := (.string d)) rfl (by kernel_rfl) (by kernel_rfl) (by kernel_rfl) (fun _ _ _ h => h) (Or.inl ⟨by kernel_rfl, ?_⟩) hS0 ?_
  · intro w' hw'
    go_simp
  refine wpAnyH_ready (rs := [4]) (by kernel_rfl) (by simp) (AllReadyH.cons rfl (fun K hK => ?_) AllReadyH.nil)
  go_simp
  refine hK.out _ _ hS0 (fun _ => ?_)
  clear hK K
  refine wpAnyH_ready (rs := [7]) (by kernel_rfl) (by simp) (AllReadyH.cons rfl (fun K hK => ?_) AllReadyH.nil)
  refine step_append_str rfl (.tmp 34) (.tmp 36) rfl base (.slice b2 (n + 512) c2) l1 (by first | (simp [Act.eval]; done) | simp [Act.eval, Act.put]) HWD.out.own d (by first | (simp [Act.eval]; done) | simp [Act.eval, Act.put]) (n + 512) d.size HL1L.out rfl l2 HL2.out (by omega) hbU ?_
  intro b3 c3 w3 ho3 hl3
  have HO3 := hide ho3
  have HL3 := hide hl3
  obtain ⟨g3, f3⟩ := HWD.out.after hl3
  have hS3 : w3.cell? ⟨w.heap.size, 3, none⟩ = some (.string d) := (Wrote.lays (g := g) hl3).cell hS0 HGW.out HVU.out
  clear ho3 hl3
  refine hK.out _ _ hS3 (fun _ => ?_)
  clear hK K
  refine wpAnyH_take (i := 8) (v := (.pointer (some ⟨g, 0, none⟩))) rfl (by kernel_rfl) (by kernel_rfl) (by kernel_rfl) (fun _ _ _ h => h) (Or.inl ⟨by kernel_rfl, ?_⟩) hS3 ?_
  · intro w' hw'
    go_simp
  refine wpAnyH_take (i := 9) (v := (.pointer (some ⟨g, 0, none⟩))) rfl (by kernel_rfl) (by kernel_rfl) (by kernel_rfl) (fun _ _ _ h => h) (Or.inl ⟨by kernel_rfl, ?_⟩) hS3 ?_
  · intro w' hw'
    go_simp
  refine wpAnyH_ready (rs := [10]) (by kernel_rfl) (by simp) (AllReadyH.cons rfl (fun K hK => ?_) AllReadyH.nil)
  go_simp
  obtain ⟨U2, hU2⟩ : ∃ U, U = w3.setCell ⟨g, 0, none⟩ (.slice b3 (n + 512 + d.size) c3) := ⟨_, rfl⟩
  have HWU2 : Hid (WrAt U2 g base (.slice b3 (n + 512 + d.size) c3) l2) := by rw [hU2]; exact hide (HWD.out.stored HL3.out HO3.out)
  have hWR2 : Wrote g U.drew (.slice b2 (n + 512) c2) U2 (.slice b3 (n + 512 + d.size) c3) := by rw [hU2]; exact Wrote.laid HL3.out
  have hS4 : U2.cell? ⟨w.heap.size, 3, none⟩ = some (.string d) := hWR2.cell hS0 HGW.out HVU.out
  have HWRU2 := hide ((HWRU.out.trans (Wrote.of ((Below.refl _ U).drew))).trans hWR2)
  have hbU2 : base ≤ U2.heap.size := Nat.le_trans hbU hWR2.size
  have HU2 : Hid (w3.setCell ⟨g, 0, none⟩ (.slice b3 (n + 512 + d.size) c3) = U2) := hide hU2.symm
  rw [HU2.out]
  refine hK.out _ _ hS4 (fun _ => ?_)
  clear hK K g2 g3 f3 hS0 hS3 HO3 HL3 hU2 HU2 hWR2 HWD HWRU HVU HLTU hbU
  refine wpAnyH_done (by kernel_rfl) ?_ _
  go_wp2_with fail
  refine (filling_ok d.size f U2 (by omega) HFF.out).mono ?_
  rintro e w4 ⟨rfl, h4⟩
  have h5 := h4.symm
  subst h5
  clear h4
  go_wp2_with fail
  refine (zerosW_ok g base f (n + 512 + d.size) q f _ l2 z U2 HWU2.out hbU2 rfl HL2L.out HZ.out HQN.out (by have := HQN.out; omega)).mono ?_
  rintro e w5 ⟨rfl, b5, c5, hw5, hr5⟩
  have HW5 := hide hw5
  have HR5 := hide (HWRU2.out.trans hr5)
  clear hw5 hr5
  go_wp2
  go_end0
  exact ⟨rfl, b5, c5, HW5.out, HR5.out, HOK.out.step ((HR5.out.below hbg HW.out.own hbw).mono h0)⟩
end Go.Proofs.YtecjkkipglldlaaGreatDoor
