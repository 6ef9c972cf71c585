/- The walk of order's linked. -/
import Derived.Test.YticpljjbnfimkaaQG
import Derived.Test.YticpljjbnfimkaaQF
namespace Go.Proofs.Yticpljjbnfimkaa
open Go.RowKit

theorem A28 : (Try.prog.info? 28).map (fun i => (i.zero, i.size, i.bytes)) = some (some (.slice none 0 0), 1, 24) := by kernel_rfl
/-- The blocks that the two makes lay. -/
def objU (n : Nat) : Obj := .cells (List.replicate n (Value.slice none 0 0)).toArray 28
def objW (n : Nat) : Obj := .cells (List.replicate n (Value.int .i64 0)).toArray 3
theorem made_one (z : Value) (n : Nat) : madeCells #[z] n = (List.replicate n z).toArray := by rw [← toList_madeCells_one, Array.toArray_toList]
theorem run_makeU (n : Nat) (hn : n < 900000) (W : World) : (Instr.makeSlice 54 (.int .i64 n) (.int .i64 n)).run Try.prog W = .ok (.slice (some ⟨W.heap.size, 0, none⟩) n n) (W.alloc (objU n)) := by
  obtain ⟨i0, hi, hz0, hz1, hz2⟩ := info_parts A28
  have h := run_make (P := Try.prog) W 54 28 i0 _ Try.underlying54 hi hz0 .i64 .i64 n n (by omega) (Int.le_refl _) (by rw [hz2]; omega) (by omega)
  rw [h]
  have e : madeCells (Value.slice none 0 0).cells ((n : Int).toNat * i0.size) = (List.replicate n (Value.slice none 0 0)).toArray := by rw [hz1, Int.toNat_natCast, Nat.mul_one]; exact made_one _ _
  rw [e, Int.toNat_natCast]
  rfl
theorem run_makeW (n : Nat) (hn : n < 900000) (W : World) : (Instr.makeSlice 28 (.int .i64 n) (.int .i64 n)).run Try.prog W = .ok (.slice (some ⟨W.heap.size, 0, none⟩) n n) (W.alloc (objW n)) := by
  obtain ⟨i0, hi, hz0, hz1, hz2⟩ := info_parts A3
  have h := run_make (P := Try.prog) W 28 3 i0 _ Try.underlying28 hi hz0 .i64 .i64 n n (by omega) (Int.le_refl _) (by rw [hz2]; omega) (by omega)
  rw [h]
  have e : madeCells (Value.int .i64 0).cells ((n : Int).toNat * i0.size) = (List.replicate n (Value.int .i64 0)).toArray := by rw [hz1, Int.toNat_natCast, Nat.mul_one]; exact made_one _ _
  rw [e, Int.toNat_natCast]
  rfl
theorem row_new (W : World) (l : List Value) (n : Nat) (e : TypeId) (hl : l.length = n) (hn : n < 900000) : (W.alloc (.cells l.toArray e)).ownsRow 0 e 1 (.slice (some ⟨W.heap.size, 0, none⟩) n n) n l :=
  ⟨by omega, .inr ⟨W.heap.size, n, l.toArray, rfl, Nat.zero_le _, heap_alloc_new W _, Nat.le_refl _, by unfold maxLen; omega, by simp [hl], by rw [← hl]; simp⟩⟩
theorem tab_first (w : World) (n : Nat) (hn : n < 900000) : LkM (w.heap.size + 2) w.heap.size (w.heap.size + 1) n ((w.alloc (objU n)).alloc (objW n)) (List.replicate n (.slice none 0 0)) (List.replicate n []) (List.replicate n 0) := by
  have h1 := row_new w (List.replicate n (.slice none 0 0)) n 28 (by simp) hn
  have h2 := row_new (w.alloc (objU n)) (List.replicate n (.int .i64 0)) n 3 (by simp) hn
  rw [show (w.alloc (objU n)).heap.size = w.heap.size + 1 by simp] at h2
  exact LkM.made (by omega) (by omega) (by omega) (by simp) (World.ownsRow.kept h1 (World.grownBy_alloc _ (objW n) none) (.inr (by simp [Value.ownBlock]))) h2
theorem tab_second (w : World) (n : Nat) (hn : n < 900000) : LkM (w.heap.size + 2) (w.heap.size + 1) w.heap.size n ((w.alloc (objW n)).alloc (objU n)) (List.replicate n (.slice none 0 0)) (List.replicate n []) (List.replicate n 0) := by
  have h1 := row_new w (List.replicate n (.int .i64 0)) n 3 (by simp) hn
  have h2 := row_new (w.alloc (objW n)) (List.replicate n (.slice none 0 0)) n 28 (by simp) hn
  rw [show (w.alloc (objW n)).heap.size = w.heap.size + 1 by simp] at h2
  exact LkM.made (by omega) (by omega) (by omega) (by simp) h2 (World.ownsRow.kept h1 (World.grownBy_alloc _ (objU n) none) (.inr (by simp [Value.ownBlock])))
/-- What linked makes. -/
structure Linked (w : World) (is : List It) (f : ByteArray → Option Nat) (U W B : Nat) (w' : World) (cs : List Value) (ls : List (List Nat)) (ws : List Nat) (tot : Nat) : Prop where
  mem : LkM B U W is.length w' cs ls ws
  lnk : Hog.Lnk is.length (Hog.needE is f) ls ws tot
  hu : w.heap.size ≤ U
  hw : w.heap.size ≤ W
  few : tot ≤ is.length * 900
  below : Below w.heap.size w w'
set_option maxRecDepth 100000 in
set_option maxHeartbeats 8000000 in
theorem linked_any (ao : Option Addr) (n c m : Nat) (is : List It) (f : ByteArray → Option Nat) (w : World) (hn : n = is.length) (h9 : n < 900) (hI : ∀ (j : Nat) i, is[j]? = some i → ∃ b o, ao = some ⟨b, o, none⟩ ∧ ItAt w b (o + j * 3) i)
    (hr : ∀ i ∈ is, i.2.1.length ≤ 900) (hm : MapF w m (intM f)) (hf : ∀ x z, f x = some z → z < n) :
    Calls Try.prog 27 #[.slice ao n c, .map (some m)] w fun e w' => ∃ U W B cs ls ws tot, e = .returned (.tuple #[.slice (some ⟨U, 0, none⟩) n n, .slice (some ⟨W, 0, none⟩) n n]) ∧ Linked w is f U W B w' cs ls ws tot := by
  have HN := hide hn
  have HI := hide hI
  have HR := hide hr
  have HM := hide hm
  have HF := hide hf
  have hmw : m < w.heap.size := hm.lt
  have hmk1 := run_makeU n (by omega)
  have hmk2 := run_makeW n (by omega)
  have HT1 := hide ((tab_first w n (by omega)).below (Below.refl _ _).drew)
  have HT2 := hide ((tab_second w n (by omega)).below (Below.refl _ _).drew)
  have HB1 : Hid (Below w.heap.size w ((w.alloc (objU n)).alloc (objW n)).drew) := hide (((Below.refl w.heap.size w).alloc (Nat.le_refl _) _).alloc (by simp) _).drew
  have HB2 : Hid (Below w.heap.size w ((w.alloc (objW n)).alloc (objU n)).drew) := hide (((Below.refl w.heap.size w).alloc (Nat.le_refl _) _).alloc (by simp) _).drew
  clear hn hI hr hm hf
  go_enter Try.func27, Try.ntmps27
  go_wp2
  go_region
  · have HT := HT1
    have HB0 := HB1
    clear HT1 HT2 HB1 HB2 hmk1 hmk2
    go_wp2
    go_loopw [20] (fun i wr => ∃ (k tot : Nat) (cs : List Value) (ls : List (List Nat)) (ws : List Nat), k ≤ n ∧ i = .int .i64 k ∧ Hid (LkM (w.heap.size + 2) w.heap.size (w.heap.size + 1) n wr cs ls ws) ∧ Hid (Hog.Lnk n (Hog.partE is f k 0) ls ws tot) ∧ Hid (tot ≤ k * 900) ∧ Hid (Below w.heap.size w wr)) (fun i _ => n - (intOf i).toNat)
    case atStart => exact ⟨0, 0, _, _, _, Nat.zero_le _, rfl, HT, Hog.Lnk.begin n _ (Hog.partE_zero is f), Nat.zero_le _, HB0⟩
    case round =>
      obtain ⟨k, tot, cs, ls, ws, hk, rfl, hmem, hlnk, htot, hbl⟩ := hrel
      by_cases hlt : k < n
      · obtain ⟨i, hi⟩ : ∃ i, is[k]? = some i := ⟨is[k]'(by have := HN.out; omega), List.getElem?_eq_some_iff.2 ⟨_, rfl⟩⟩
        obtain ⟨b, o, rfl, hat⟩ := HI.out k i hi
        obtain ⟨ra, rn, rc, ta, tn, tc, q0', q1', q2', q3, _⟩ := hat
        have hbw : b < w.heap.size := (addr_plain q0').2
        have q0 := (hbl.out.cell (p := ⟨b, o + k * 3, none⟩) hbw).trans q0'
        have q1 := (hbl.out.cell (p := ⟨b, o + k * 3 + 1, none⟩) hbw).trans q1'
        have q2 := (hbl.out.cell (p := ⟨b, o + k * 3 + 2, none⟩) hbw).trans q2'
        have hrl := HR.out i (List.mem_of_getElem? hi)
        have hrn : rn = i.2.1.length := by
          obtain ⟨ra', rc', e⟩ := q3.form
          simp only [Value.slice.injEq] at e
          exact e.2.1
        have HII := hide hi
        have HTX := hide q3
        have HRN := hide hrn
        have hrn9 : rn ≤ 900 := by omega
        have hki : (k : Int) < (n : Int) := by omega
        clear hi q3 hrl hrn q0' q1' q2'
        have HBX := hide (below_box wr (.cells #[.string i.1, .slice ra rn rc, .slice ta tn tc] 33))
        have HMX := hide (hmem.out.below HBX.out)
        have HLX := hide (hbl.out.trans (HBX.out.mono hbl.out.size))
        go_wp2
        go_loopw [28] (fun jv wr2 => ∃ (j tot2 : Nat) (cs : List Value) (ls : List (List Nat)) (ws : List Nat), j ≤ rn ∧ jv = .int .i64 j ∧ Hid (LkM (w.heap.size + 2) w.heap.size (w.heap.size + 1) n wr2 cs ls ws) ∧ Hid (Hog.Lnk n (Hog.partE is f k j) ls ws tot2) ∧ Hid (tot2 ≤ k * 900 + j) ∧ Hid (Below w.heap.size w wr2)) (fun jv _ => rn - (intOf jv).toNat)
        case atStart => exact ⟨0, tot, cs, ls, ws, Nat.zero_le _, rfl, HMX, hlnk, by have := htot.out; exact hide (by omega), HLX⟩
        case round =>
          rename World => wr2
          clear hmem hlnk htot HBX HMX HLX q0 q1 q2
          obtain ⟨j, tot2, cs2, ls2, ws2, hj, rfl, hmem, hlnk, htot, hblx⟩ := hrel
          by_cases hlj : j < rn
          · obtain ⟨x, hx⟩ : ∃ x, i.2.1[j]? = some x := ⟨i.2.1[j]'(by have := HRN.out; omega), List.getElem?_eq_some_iff.2 ⟨_, rfl⟩⟩
            obtain ⟨rb, ro, rfl, hrc0, hrb⟩ : ∃ rb ro, ra = some ⟨rb, ro, none⟩ ∧ w.cell? ⟨rb, ro + j, none⟩ = some (.string x) ∧ rb < w.heap.size := by
              rcases HTX.out with ⟨e, _⟩ | ⟨rb, ro, rc'', e, _, hlt', hc⟩
              · rw [e] at hx; simp at hx
              · simp only [Value.slice.injEq] at e
                exact ⟨rb, ro, e.1, hc j x hx, hlt'⟩
            have hrc : wr2.cell? ⟨rb, ro + j, none⟩ = some (.string x) := (hblx.out.cell (p := ⟨rb, ro + j, none⟩) hrb).trans hrc0
            have hji : (j : Int) < (rn : Int) := by omega
            have HXJ := hide hx
            have HMF : Hid (MapF wr2 m (intM f)) := hide (HM.out.same (hblx.out.block m hmw))
            clear hx hrc0
            cases hz : f x with
            | none =>
              have z1 : Hid (atF (intM f) x = 0) := by unfold atF; rw [intM_none hz]; exact hide rfl
              have z2 : Hid ((intM f x).isSome = false) := by rw [intM_none hz]; exact hide rfl
              have HE := hide (Hog.partE_skip HII.out HXJ.out (show Hog.edge f k x = none by unfold Hog.edge; rw [hz]))
              clear hz
              go_wp2_with (at_lookup; refine wpList_lookG rfl _ _ rfl m _ rfl HMF.out x rfl 0 false z1.out z2.out ?_)
              go_roundw
              case rel => exact ⟨j + 1, tot2, cs2, ls2, ws2, by omega, by go_num, hmem, by rw [HE.out]; exact hlnk, by have := htot.out; exact hide (by omega), hblx⟩
              case measure => simp [intOf]; omega
            | some z =>
              have z1 : Hid (atF (intM f) x = (z : Int)) := by unfold atF; rw [intM_some hz]; exact hide rfl
              have z2 : Hid ((intM f x).isSome = true) := by rw [intM_some hz]; exact hide rfl
              have hzn := HF.out x z hz
              by_cases hzk : z = k
              · subst hzk
                have hq : ((z : Int) != (z : Int)) = false := by simp
                have HE := hide (Hog.partE_skip HII.out HXJ.out (show Hog.edge f z x = none by unfold Hog.edge; rw [hz]; exact if_pos rfl))
                clear hz
                go_wp2_with (at_lookup; refine wpList_lookG rfl _ _ rfl m _ rfl HMF.out x rfl (z : Int) true z1.out z2.out ?_)
                go_roundw
                case rel => exact ⟨j + 1, tot2, cs2, ls2, ws2, by omega, by go_num, hmem, by rw [HE.out]; exact hlnk, by have := htot.out; exact hide (by omega), hblx⟩
                case measure => simp [intOf]; omega
              · have hq : ((z : Int) != (k : Int)) = true := by rw [bne_iff_ne]; omega
                have HE := hide (Hog.partE_hit HII.out HXJ.out (Hog.edge_some.2 ⟨hz, hzk⟩))
                obtain ⟨ua, uq, uc, l, u1, u2, u3, u4, u5, u6⟩ := hmem.out.at' hzn
                obtain ⟨cm, c1, c2, cfz⟩ := hmem.out.count hlt
                have hlq : uq ≤ tot2 := by rw [← u3]; exact (hlnk.out.mem l (List.mem_of_getElem? u2)).2
                have hcm : cm ≤ tot2 := hlnk.out.few cm (List.mem_of_getElem? c1)
                have htq : tot2 ≤ k * 900 + j := htot.out
                have hsm : tot2 < 820000 := by omega
                have hzi : (z : Int) < (n : Int) := by omega
                have U1 := hide u1
                have U2 := hide u2
                have U3 := hide u3
                have C1 := hide c1
                have HBA := hide (below_box wr2 (.cells #[.int .i64 (k : Int)] 3))
                have HOA := hide (u4.below HBA.out)
                have HA := hide (argI_one wr2 (k : Int))
                have HLK : Hid (∀ (w3 w4 : World) b3 c3, OwnZ (w.heap.size + 2) w3 (.slice b3 (uq + 1) c3) (numK (l ++ [k])) → (wr2.alloc (.cells #[.int .i64 (k : Int)] 3)).grownBy w3 (Value.slice ua uq uc).ownBlock → Stays (wr2.alloc (.cells #[.int .i64 (k : Int)] 3)) (.slice ua uq uc) (.slice b3 (uq + 1) c3) → w4 = w3.setCell ⟨w.heap.size, z, none⟩ (.slice b3 (uq + 1) c3) →
                    LkM (w.heap.size + 2) (w.heap.size) ((w.heap.size + 1)) n w4 (cs2.set z (.slice b3 (uq + 1) c3)) (ls2.set z (l ++ [k])) ws2 ∧ Below w.heap.size w w4 ∧ (w3.cell? ⟨w.heap.size, z, none⟩ = some (.slice ua uq uc) ∧ w3.frozen? ⟨w.heap.size, z, none⟩ = false) ∧ w3.cell? ⟨(w.heap.size + 1), k, none⟩ = some (.int .i64 cm) ∧ w3.frozen? ⟨(w.heap.size + 1), k, none⟩ = false) := hide fun w3 w4 b3 c3 k1 k2 k3 k4 => by
                  have hoff : some (w.heap.size) ≠ (Value.slice ua uq uc).ownBlock := fun e => by have := (HOA.out.lt _ e.symm).1; omega
                  have hoff2 : some ((w.heap.size + 1)) ≠ (Value.slice ua uq uc).ownBlock := fun e => by have := (HOA.out.lt _ e.symm).1; omega
                  have hbk2 : w3.heap[(w.heap.size + 1)]? = wr2.heap[(w.heap.size + 1)]? := (k2.block _ (by have := HBA.out.size; have := hmem.out.hB; omega) hoff2).trans (HBA.out.block _ (by have := hmem.out.hB; omega))
                  have hbk : w3.heap[w.heap.size]? = wr2.heap[w.heap.size]? := (k2.block _ (by have := HBA.out.size; have := hmem.out.hB; omega) hoff).trans (HBA.out.block _ (by have := hmem.out.hB; omega))
                  refine ⟨hmem.out.longer U1.out U2.out HBA.out U3.out k1 k2 k3 k4, ?_, ⟨?_, ?_⟩, ?_, ?_⟩
                  · rw [k4]
                    exact (((hblx.out.trans (HBA.out.mono hblx.out.size))).grown k2 (Nat.le_trans hblx.out.size HBA.out.size) (fun g e => by have := (HOA.out.lt g e).1; omega)).setCell (p := ⟨w.heap.size, z, none⟩) (by simp) _
                  · rw [World.cell?_of_block (w := wr2) hbk]; exact u5
                  · rw [World.frozen?_of_block (w := wr2) hbk]; exact u6
                  · rw [World.cell?_of_block (w := wr2) hbk2]; exact c2
                  · rw [World.frozen?_of_block (w := wr2) hbk2]; exact cfz
                have HK1 := hide (fun (w4 : World) cs3 ls3 (h4 : LkM (w.heap.size + 2) (w.heap.size) ((w.heap.size + 1)) n w4 cs3 ls3 ws2) => (show LkM (w.heap.size + 2) (w.heap.size) ((w.heap.size + 1)) n (w4.setCell ⟨(w.heap.size + 1), k, none⟩ (.int .i64 ((cm : Int) + 1))) cs3 ls3 (ws2.set k (cm + 1)) from by have h5 := h4.counted k (cm + 1); rwa [show ((cm + 1 : Nat) : Int) = (cm : Int) + 1 by omega] at h5))
                have HHB : Hid (w.heap.size + 2 ≤ wr2.heap.size) := hide hmem.out.hB
                have HLM := hide (hlnk.out.more hlt u2 c1)
                clear hz u1 u2 u3 u4 u6 c1 c2 cfz hmem hlnk
                go_wp2_with (first
                  | (at_lookup; refine wpList_lookG rfl _ _ rfl m _ rfl HMF.out x rfl (z : Int) true z1.out z2.out ?_)
                  | (at_builtin; refine wpList_append_whereZ rfl _ _ rfl (w.heap.size + 2) _ (numK l) rfl HOA.out _ _ _ [(k : Int)] rfl HA.out ?d1 ?d2 ?_))
                case d1 => rw [nums_len, U3.out]; simp; omega
                case d2 => have := HHB.out; simp; omega
                intro b3 c3 w3 h3 hg3 hs3
                rw [nums_len, U3.out] at h3 hs3 ⊢
                obtain ⟨k1, k2, ⟨k3, k4⟩, k5, k6⟩ := HLK.out w3 _ b3 c3 (by rw [nums_app]; exact h3) hg3 hs3 rfl
                have HK2 := hide (HK1.out _ _ _ k1)
                have HK3 := hide (k2.setCell (p := ⟨(w.heap.size + 1), k, none⟩) (by simp) (.int .i64 ((cm : Int) + 1)))
                clear h3 hg3 hs3 k1 k2
                go_wp2
                go_roundw
                case rel => exact ⟨j + 1, tot2 + 1, _, _, _, by omega, by go_num, HK2, by rw [HE.out]; exact HLM, hide (by omega), HK3⟩
                case measure => simp [intOf]; omega
          · have hji : (rn : Int) ≤ (j : Int) := by omega
            have HE := hide (Hog.partE_next HII.out (show i.2.1.length ≤ j by have := HRN.out; omega) (f := f))
            go_wp2
            go_roundw
            case rel => exact ⟨k + 1, tot2, cs2, ls2, ws2, by omega, by go_num, hmem, by rw [← HE.out]; exact hlnk, by have := htot.out; exact hide (by omega), hblx⟩
            case measure => simp [intOf]; omega
      · have hki : (n : Int) ≤ (k : Int) := by omega
        have HKN : Hid (k = is.length) := hide (by have := HN.out; omega)
        go_wp2
        go_ret2
        refine ⟨w.heap.size, (w.heap.size + 1), w.heap.size + 2, cs, ls, ws, tot, rfl, by rw [← HN.out]; exact hmem.out, ?_, by omega, by omega, ?_, hbl.out⟩
        · have h1 := hlnk.out
          rw [HKN.out, Hog.partE_end, HN.out] at h1
          exact h1
        · have h1 := htot.out
          rw [HKN.out] at h1
          exact h1
  · have HT := HT2
    have HB0 := HB2
    clear HT1 HT2 HB1 HB2 hmk1 hmk2
    go_wp2
    go_loopw [20] (fun i wr => ∃ (k tot : Nat) (cs : List Value) (ls : List (List Nat)) (ws : List Nat), k ≤ n ∧ i = .int .i64 k ∧ Hid (LkM (w.heap.size + 2) (w.heap.size + 1) w.heap.size n wr cs ls ws) ∧ Hid (Hog.Lnk n (Hog.partE is f k 0) ls ws tot) ∧ Hid (tot ≤ k * 900) ∧ Hid (Below w.heap.size w wr)) (fun i _ => n - (intOf i).toNat)
    case atStart => exact ⟨0, 0, _, _, _, Nat.zero_le _, rfl, HT, Hog.Lnk.begin n _ (Hog.partE_zero is f), Nat.zero_le _, HB0⟩
    case round =>
      obtain ⟨k, tot, cs, ls, ws, hk, rfl, hmem, hlnk, htot, hbl⟩ := hrel
      by_cases hlt : k < n
      · obtain ⟨i, hi⟩ : ∃ i, is[k]? = some i := ⟨is[k]'(by have := HN.out; omega), List.getElem?_eq_some_iff.2 ⟨_, rfl⟩⟩
        obtain ⟨b, o, rfl, hat⟩ := HI.out k i hi
        obtain ⟨ra, rn, rc, ta, tn, tc, q0', q1', q2', q3, _⟩ := hat
        have hbw : b < w.heap.size := (addr_plain q0').2
        have q0 := (hbl.out.cell (p := ⟨b, o + k * 3, none⟩) hbw).trans q0'
        have q1 := (hbl.out.cell (p := ⟨b, o + k * 3 + 1, none⟩) hbw).trans q1'
        have q2 := (hbl.out.cell (p := ⟨b, o + k * 3 + 2, none⟩) hbw).trans q2'
        have hrl := HR.out i (List.mem_of_getElem? hi)
        have hrn : rn = i.2.1.length := by
          obtain ⟨ra', rc', e⟩ := q3.form
          simp only [Value.slice.injEq] at e
          exact e.2.1
        have HII := hide hi
        have HTX := hide q3
        have HRN := hide hrn
        have hrn9 : rn ≤ 900 := by omega
        have hki : (k : Int) < (n : Int) := by omega
        clear hi q3 hrl hrn q0' q1' q2'
        have HBX := hide (below_box wr (.cells #[.string i.1, .slice ra rn rc, .slice ta tn tc] 33))
        have HMX := hide (hmem.out.below HBX.out)
        have HLX := hide (hbl.out.trans (HBX.out.mono hbl.out.size))
        go_wp2
        go_loopw [28] (fun jv wr2 => ∃ (j tot2 : Nat) (cs : List Value) (ls : List (List Nat)) (ws : List Nat), j ≤ rn ∧ jv = .int .i64 j ∧ Hid (LkM (w.heap.size + 2) (w.heap.size + 1) w.heap.size n wr2 cs ls ws) ∧ Hid (Hog.Lnk n (Hog.partE is f k j) ls ws tot2) ∧ Hid (tot2 ≤ k * 900 + j) ∧ Hid (Below w.heap.size w wr2)) (fun jv _ => rn - (intOf jv).toNat)
        case atStart => exact ⟨0, tot, cs, ls, ws, Nat.zero_le _, rfl, HMX, hlnk, by have := htot.out; exact hide (by omega), HLX⟩
        case round =>
          rename World => wr2
          clear hmem hlnk htot HBX HMX HLX q0 q1 q2
          obtain ⟨j, tot2, cs2, ls2, ws2, hj, rfl, hmem, hlnk, htot, hblx⟩ := hrel
          by_cases hlj : j < rn
          · obtain ⟨x, hx⟩ : ∃ x, i.2.1[j]? = some x := ⟨i.2.1[j]'(by have := HRN.out; omega), List.getElem?_eq_some_iff.2 ⟨_, rfl⟩⟩
            obtain ⟨rb, ro, rfl, hrc0, hrb⟩ : ∃ rb ro, ra = some ⟨rb, ro, none⟩ ∧ w.cell? ⟨rb, ro + j, none⟩ = some (.string x) ∧ rb < w.heap.size := by
              rcases HTX.out with ⟨e, _⟩ | ⟨rb, ro, rc'', e, _, hlt', hc⟩
              · rw [e] at hx; simp at hx
              · simp only [Value.slice.injEq] at e
                exact ⟨rb, ro, e.1, hc j x hx, hlt'⟩
            have hrc : wr2.cell? ⟨rb, ro + j, none⟩ = some (.string x) := (hblx.out.cell (p := ⟨rb, ro + j, none⟩) hrb).trans hrc0
            have hji : (j : Int) < (rn : Int) := by omega
            have HXJ := hide hx
            have HMF : Hid (MapF wr2 m (intM f)) := hide (HM.out.same (hblx.out.block m hmw))
            clear hx hrc0
            cases hz : f x with
            | none =>
              have z1 : Hid (atF (intM f) x = 0) := by unfold atF; rw [intM_none hz]; exact hide rfl
              have z2 : Hid ((intM f x).isSome = false) := by rw [intM_none hz]; exact hide rfl
              have HE := hide (Hog.partE_skip HII.out HXJ.out (show Hog.edge f k x = none by unfold Hog.edge; rw [hz]))
              clear hz
              go_wp2_with (at_lookup; refine wpList_lookG rfl _ _ rfl m _ rfl HMF.out x rfl 0 false z1.out z2.out ?_)
              go_roundw
              case rel => exact ⟨j + 1, tot2, cs2, ls2, ws2, by omega, by go_num, hmem, by rw [HE.out]; exact hlnk, by have := htot.out; exact hide (by omega), hblx⟩
              case measure => simp [intOf]; omega
            | some z =>
              have z1 : Hid (atF (intM f) x = (z : Int)) := by unfold atF; rw [intM_some hz]; exact hide rfl
              have z2 : Hid ((intM f x).isSome = true) := by rw [intM_some hz]; exact hide rfl
              have hzn := HF.out x z hz
              by_cases hzk : z = k
              · subst hzk
                have hq : ((z : Int) != (z : Int)) = false := by simp
                have HE := hide (Hog.partE_skip HII.out HXJ.out (show Hog.edge f z x = none by unfold Hog.edge; rw [hz]; exact if_pos rfl))
                clear hz
                go_wp2_with (at_lookup; refine wpList_lookG rfl _ _ rfl m _ rfl HMF.out x rfl (z : Int) true z1.out z2.out ?_)
                go_roundw
                case rel => exact ⟨j + 1, tot2, cs2, ls2, ws2, by omega, by go_num, hmem, by rw [HE.out]; exact hlnk, by have := htot.out; exact hide (by omega), hblx⟩
                case measure => simp [intOf]; omega
              · have hq : ((z : Int) != (k : Int)) = true := by rw [bne_iff_ne]; omega
                have HE := hide (Hog.partE_hit HII.out HXJ.out (Hog.edge_some.2 ⟨hz, hzk⟩))
                obtain ⟨ua, uq, uc, l, u1, u2, u3, u4, u5, u6⟩ := hmem.out.at' hzn
                obtain ⟨cm, c1, c2, cfz⟩ := hmem.out.count hlt
                have hlq : uq ≤ tot2 := by rw [← u3]; exact (hlnk.out.mem l (List.mem_of_getElem? u2)).2
                have hcm : cm ≤ tot2 := hlnk.out.few cm (List.mem_of_getElem? c1)
                have htq : tot2 ≤ k * 900 + j := htot.out
                have hsm : tot2 < 820000 := by omega
                have hzi : (z : Int) < (n : Int) := by omega
                have U1 := hide u1
                have U2 := hide u2
                have U3 := hide u3
                have C1 := hide c1
                have HBA := hide (below_box wr2 (.cells #[.int .i64 (k : Int)] 3))
                have HOA := hide (u4.below HBA.out)
                have HA := hide (argI_one wr2 (k : Int))
                have HLK : Hid (∀ (w3 w4 : World) b3 c3, OwnZ (w.heap.size + 2) w3 (.slice b3 (uq + 1) c3) (numK (l ++ [k])) → (wr2.alloc (.cells #[.int .i64 (k : Int)] 3)).grownBy w3 (Value.slice ua uq uc).ownBlock → Stays (wr2.alloc (.cells #[.int .i64 (k : Int)] 3)) (.slice ua uq uc) (.slice b3 (uq + 1) c3) → w4 = w3.setCell ⟨(w.heap.size + 1), z, none⟩ (.slice b3 (uq + 1) c3) →
                    LkM (w.heap.size + 2) ((w.heap.size + 1)) (w.heap.size) n w4 (cs2.set z (.slice b3 (uq + 1) c3)) (ls2.set z (l ++ [k])) ws2 ∧ Below w.heap.size w w4 ∧ (w3.cell? ⟨(w.heap.size + 1), z, none⟩ = some (.slice ua uq uc) ∧ w3.frozen? ⟨(w.heap.size + 1), z, none⟩ = false) ∧ w3.cell? ⟨w.heap.size, k, none⟩ = some (.int .i64 cm) ∧ w3.frozen? ⟨w.heap.size, k, none⟩ = false) := hide fun w3 w4 b3 c3 k1 k2 k3 k4 => by
                  have hoff : some ((w.heap.size + 1)) ≠ (Value.slice ua uq uc).ownBlock := fun e => by have := (HOA.out.lt _ e.symm).1; omega
                  have hoff2 : some (w.heap.size) ≠ (Value.slice ua uq uc).ownBlock := fun e => by have := (HOA.out.lt _ e.symm).1; omega
                  have hbk2 : w3.heap[w.heap.size]? = wr2.heap[w.heap.size]? := (k2.block _ (by have := HBA.out.size; have := hmem.out.hB; omega) hoff2).trans (HBA.out.block _ (by have := hmem.out.hB; omega))
                  have hbk : w3.heap[(w.heap.size + 1)]? = wr2.heap[(w.heap.size + 1)]? := (k2.block _ (by have := HBA.out.size; have := hmem.out.hB; omega) hoff).trans (HBA.out.block _ (by have := hmem.out.hB; omega))
                  refine ⟨hmem.out.longer U1.out U2.out HBA.out U3.out k1 k2 k3 k4, ?_, ⟨?_, ?_⟩, ?_, ?_⟩
                  · rw [k4]
                    exact (((hblx.out.trans (HBA.out.mono hblx.out.size))).grown k2 (Nat.le_trans hblx.out.size HBA.out.size) (fun g e => by have := (HOA.out.lt g e).1; omega)).setCell (p := ⟨(w.heap.size + 1), z, none⟩) (by simp) _
                  · rw [World.cell?_of_block (w := wr2) hbk]; exact u5
                  · rw [World.frozen?_of_block (w := wr2) hbk]; exact u6
                  · rw [World.cell?_of_block (w := wr2) hbk2]; exact c2
                  · rw [World.frozen?_of_block (w := wr2) hbk2]; exact cfz
                have HK1 := hide (fun (w4 : World) cs3 ls3 (h4 : LkM (w.heap.size + 2) ((w.heap.size + 1)) (w.heap.size) n w4 cs3 ls3 ws2) => (show LkM (w.heap.size + 2) ((w.heap.size + 1)) (w.heap.size) n (w4.setCell ⟨w.heap.size, k, none⟩ (.int .i64 ((cm : Int) + 1))) cs3 ls3 (ws2.set k (cm + 1)) from by have h5 := h4.counted k (cm + 1); rwa [show ((cm + 1 : Nat) : Int) = (cm : Int) + 1 by omega] at h5))
                have HHB : Hid (w.heap.size + 2 ≤ wr2.heap.size) := hide hmem.out.hB
                have HLM := hide (hlnk.out.more hlt u2 c1)
                clear hz u1 u2 u3 u4 u6 c1 c2 cfz hmem hlnk
                go_wp2_with (first
                  | (at_lookup; refine wpList_lookG rfl _ _ rfl m _ rfl HMF.out x rfl (z : Int) true z1.out z2.out ?_)
                  | (at_builtin; refine wpList_append_whereZ rfl _ _ rfl (w.heap.size + 2) _ (numK l) rfl HOA.out _ _ _ [(k : Int)] rfl HA.out ?d1 ?d2 ?_))
                case d1 => rw [nums_len, U3.out]; simp; omega
                case d2 => have := HHB.out; simp; omega
                intro b3 c3 w3 h3 hg3 hs3
                rw [nums_len, U3.out] at h3 hs3 ⊢
                obtain ⟨k1, k2, ⟨k3, k4⟩, k5, k6⟩ := HLK.out w3 _ b3 c3 (by rw [nums_app]; exact h3) hg3 hs3 rfl
                have HK2 := hide (HK1.out _ _ _ k1)
                have HK3 := hide (k2.setCell (p := ⟨w.heap.size, k, none⟩) (by simp) (.int .i64 ((cm : Int) + 1)))
                clear h3 hg3 hs3 k1 k2
                go_wp2
                go_roundw
                case rel => exact ⟨j + 1, tot2 + 1, _, _, _, by omega, by go_num, HK2, by rw [HE.out]; exact HLM, hide (by omega), HK3⟩
                case measure => simp [intOf]; omega
          · have hji : (rn : Int) ≤ (j : Int) := by omega
            have HE := hide (Hog.partE_next HII.out (show i.2.1.length ≤ j by have := HRN.out; omega) (f := f))
            go_wp2
            go_roundw
            case rel => exact ⟨k + 1, tot2, cs2, ls2, ws2, by omega, by go_num, hmem, by rw [← HE.out]; exact hlnk, by have := htot.out; exact hide (by omega), hblx⟩
            case measure => simp [intOf]; omega
      · have hki : (n : Int) ≤ (k : Int) := by omega
        have HKN : Hid (k = is.length) := hide (by have := HN.out; omega)
        go_wp2
        go_ret2
        refine ⟨(w.heap.size + 1), w.heap.size, w.heap.size + 2, cs, ls, ws, tot, rfl, by rw [← HN.out]; exact hmem.out, ?_, by omega, by omega, ?_, hbl.out⟩
        · have h1 := hlnk.out
          rw [HKN.out, Hog.partE_end, HN.out] at h1
          exact h1
        · have h1 := htot.out
          rw [HKN.out] at h1
          exact h1
theorem linked_ok (v : Value) (m : Nat) (is : List It) (f : ByteArray → Option Nat) (w : World) (h : Its w v is) (h9 : is.length < 900) (hr : ∀ i ∈ is, i.2.1.length ≤ 900) (hm : MapF w m (intM f)) (hf : ∀ x z, f x = some z → z < is.length) :
    Calls Try.prog 27 #[v, .map (some m)] w fun e w' => ∃ U W B cs ls ws tot, e = .returned (.tuple #[.slice (some ⟨U, 0, none⟩) is.length is.length, .slice (some ⟨W, 0, none⟩) is.length is.length]) ∧ Linked w is f U W B w' cs ls ws tot := by
  obtain ⟨ao, c, e⟩ := h.form
  subst e
  refine linked_any ao is.length c m is f w rfl h9 (fun j i hi => ?_) hr hm hf
  rcases h with ⟨rfl, _⟩ | ⟨b, o, c', e, _, hI⟩
  · simp at hi
  · simp only [Value.slice.injEq] at e
    exact ⟨b, o, e.1, hI.2 j i hi⟩
end Go.Proofs.Yticpljjbnfimkaa
