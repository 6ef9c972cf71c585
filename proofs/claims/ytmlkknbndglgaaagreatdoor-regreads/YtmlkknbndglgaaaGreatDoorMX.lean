/- The walk of the document's own answer, chapter 11: Read. -/
import Derived.Test.YtmlkknbndglgaaaGreatDoorMW
namespace Go.Proofs.YtmlkknbndglgaaaGreatDoor
open Go.RowKit

/-- What the document's Read answers. -/
def ReadsD (s : ByteArray) (w w' : World) (e : Ending) : Prop := ∃ (q : Hog.RegP) (z : Int) (ps : List Pr) (u v : Value) (D : Nat), e = .returned (.tuple #[.agg #[.string q.pre, u, v, .int .i64 q.pol], .int .i64 z]) ∧ Told s.data.toList q z ∧ RowsR D w' ps u v q.items q.prof ∧ w.heap.size ≤ D ∧ Below w.heap.size w w'
/-- A round's state. -/
def StR (s : ByteArray) (g : Nat) (W0 wr : World) (k at' : Nat) (st : Hog.RegP) : Prop :=
  Hog.readR polD s.data.toList = (Hog.fullA ((s.data.toList.drop at').take (k - at')) (s.data.toList.drop k)).foldl (Hog.stepM polD id) st ∧ BoundM st k s.size ∧ RdP 25 wr g (g + 1) st ∧ FrG g (g + 1) W0 wr
theorem StR.on {s : ByteArray} {g : Nat} {W0 wr : World} {k at' : Nat} {st : Hog.RegP} (h : StR s g W0 wr k at' st) {c : UInt8} (hk : s.data.toList[k]? = some c) (ha : at' ≤ k) (hc : c ≠ 10) : StR s g W0 wr (k + 1) at' st :=
  ⟨by rw [h.1, full_on hk ha hc], h.2.1.more (Nat.le_succ k), h.2.2.1, h.2.2.2⟩
theorem StR.step {s : ByteArray} {g : Nat} {W0 wr w2 : World} {k at' j : Nat} {st : Hog.RegP} {x : List UInt8} (h : StR s g W0 wr k at' st) (hk : s.data.toList[k]? = some 10) (hj : j < 5) (hx : (s.data.toList.drop at').take (k - at') = Hog.wordM j ++ x)
    (hr : RdP 25 w2 g (g + 1) (Hog.putM polD j st (Hog.mk x))) (hf : FrG g (g + 1) wr w2) : StR s g W0 w2 (k + 1) (k + 1) (Hog.putM polD j st (Hog.mk x)) := by
  refine ⟨?_, h.2.1.put polD j _ ?_, hr, h.2.2.2.trans hf⟩
  · rw [h.1, full_end hk, List.foldl_cons, hx, Hog.step_row polD id j hj x st]; exact rfl
  · rw [Hog.mk_size]
    have h1 := congrArg List.length hx
    rw [List.length_append, List.length_take, List.length_drop] at h1
    have h2 : s.data.toList.length = s.size := by simp
    omega
theorem StR.pass {s : ByteArray} {g : Nat} {W0 wr : World} {k at' : Nat} {st : Hog.RegP} (h : StR s g W0 wr k at' st) (hk : s.data.toList[k]? = some 10) (hx : ∀ j, j < 5 → (Hog.wordM j).isPrefixOf ((s.data.toList.drop at').take (k - at')) = false) : StR s g W0 wr (k + 1) (k + 1) st := by
  refine ⟨?_, h.2.1.more (Nat.le_succ k), h.2.2.1, h.2.2.2⟩
  rw [h.1, full_end hk, List.foldl_cons, step_none polD id _ hx]

set_option maxRecDepth 100000 in
set_option maxHeartbeats 16000000 in
theorem rread_ok (s : ByteArray) (w : World) (hs : s.size ≤ 4000) :
    Calls Tryz.prog 16 #[.string s] w fun e w' => ReadsD s w w' e := by
  obtain ⟨n, hn⟩ : ∃ n, s.size = n := ⟨_, rfl⟩
  obtain ⟨g, hg⟩ : ∃ g, w.heap.size + 1 = g := ⟨_, rfl⟩
  obtain ⟨W1, hW1⟩ : ∃ V, w.alloc (.cells #[.string ⟨#[]⟩, .slice none 0 0, .slice none 0 0, .int .i64 0] 25) = V := ⟨_, rfl⟩
  obtain ⟨W0, hW0⟩ : ∃ V, W1.alloc (.cells #[.string ⟨#[]⟩, .slice none 0 0, .slice none 0 0, .int .i64 0] 25) = V := ⟨_, rfl⟩
  have z1 : W1.heap.size = g := by rw [← hW1, World.size_alloc, hg]
  have z0 : W0.heap.size = g + 1 := by rw [← hW0, World.size_alloc, z1]
  have y1 : Below w.heap.size w W1 := by rw [← hW1]; exact below_box _ _
  have y0 : Below W1.heap.size W1 W0 := by rw [← hW0]; exact below_box _ _
  have HB0 := hide (below_two y1 y0)
  have HBR : Hid (BoxP W0 w.heap.size 25 ⟨#[]⟩ (.slice none 0 0) (.slice none 0 0) 0) := by
    have h : BoxP W1 w.heap.size 25 ⟨#[]⟩ (.slice none 0 0) (.slice none 0 0) 0 := by rw [← hW1]; exact BoxP.made _ _ _ _ _ _
    exact h.below y0
  have HS0 : Hid (StR s g W0 W0 0 0 Hog.noneM) := by
    refine ⟨?_, BoundM.none _ _, ⟨[], _, _, ?_, RowsR.nil _ _ (by omega)⟩, FrG.refl _ _ _⟩
    · unfold Hog.readR; simp
    · rw [← hW0, ← z1]; exact BoxP.made _ _ _ _ _ _
  have HW : Hid ((w.alloc (.cells #[.string ⟨#[]⟩, .slice none 0 0, .slice none 0 0, .int .i64 0] 25)).alloc (.cells #[.string ⟨#[]⟩, .slice none 0 0, .slice none 0 0, .int .i64 0] 25) = W0) := by rw [hW1, hW0]; exact rfl
  have HG := hide hg
  have HZ0 := hide z0
  have HN := hide hn
  have hn4 : n ≤ 4000 := by omega
  clear hW1 hW0 z1 z0 y1 y0
  go_enter Tryz.func16, Tryz.ntmps16
  go_wp2
  have hwe := HW.out
  rw [hwe]
  clear hwe hg
  go_loopw [5, 6] (fun a i wr => ∃ (k at' : Nat) (st : Hog.RegP), k ≤ n ∧ at' ≤ k ∧ i = .int .i64 k ∧ a = .int .i64 at' ∧ Hid (StR s g W0 wr k at' st)) (fun _ i _ => n - (intOf i).toNat)
  case atStart => exact ⟨0, 0, Hog.noneM, Nat.zero_le _, Nat.le_refl _, rfl, rfl, HS0⟩
  case round =>
    obtain ⟨k, at', st, hk, hak, rfl, rfl, HST⟩ := hrel
    by_cases hkn : k < n
    · have hki : (k : Int) < (n : Int) := by omega
      obtain ⟨c, hc⟩ : ∃ c, s[k]'(by omega) = c := ⟨_, rfl⟩
      have hcl : s.data.toList[k]? = some c := by rw [← hc]; exact byte_at (by omega)
      have HCL := hide hcl
      clear hcl
      by_cases hc10 : c = 10
      case neg =>
        have hxb : ((c.toNat : Int) == 10) = false := by
          rw [beq_eq_false_iff_ne]
          intro e
          exact hc10 (UInt8.toNat_inj.1 (by have : c.toNat = 10 := by omega
                                            rw [this]; rfl))
        have HST1 := hide (HST.out.on HCL.out hak hc10)
        clear hc10
        go_wp2
        go_roundw
        case rel => exact ⟨k + 1, at', st, by omega, by omega, by go_num, rfl, HST1⟩
        case measure => simp [intOf]; omega
      case pos =>
        have hxb : ((c.toNat : Int) == 10) = true := by rw [hc10]; rfl
        rw [hc10] at HCL
        clear hc10
        have haki : (at' : Int) ≤ (k : Int) := by omega
        have hki2 : (k : Int) ≤ (n : Int) := by omega
        obtain ⟨ln, hln⟩ : ∃ l, s.extract at' k = l := ⟨_, rfl⟩
        have HLN : Hid (ln.data.toList = (s.data.toList.drop at').take (k - at')) := by show _ = _; rw [← hln, Lib.extract_eq]
        obtain ⟨ps, u, v, hb, hr⟩ := HST.out.2.2.1
        obtain ⟨⟨c0, c1, c2, c3⟩, ⟨f0, f1, f2, f3⟩, hlt⟩ := hb.facts
        have HB := hide hb
        have HR := hide hr
        have hbd := HST.out.2.1
        have hilen : st.items.length ≤ 4000 := by have := hbd.len; omega
        have hplen : st.prof.length ≤ 4000 := by have := hbd.plen; omega
        have HIL : Hid (∀ i ∈ st.items, i.2.length ≤ 4000) := fun i hi => by have := (hbd.item i hi).2.1; omega
        have hlow := hr.low
        clear hb hr hbd
        rcases kind_of ((s.data.toList.drop at').take (k - at')) with ⟨j, x, hj, hx⟩ | hno
        · have HX := hide hx
          clear hx
          obtain ⟨X, hX⟩ : ∃ X, Hog.mk x = X := ⟨_, rfl⟩
          obtain rfl | rfl | rfl | rfl | rfl : j = 0 ∨ j = 1 ∨ j = 2 ∨ j = 3 ∨ j = 4 := by omega
          · have HA0 : Hid (∀ W : World, Calls Tryz.prog 42 #[.string ln, .string ⟨#[112, 114, 101, 102, 105, 120, 32]⟩] W fun e W' => e = .returned (.tuple #[.string X, .bool true]) ∧ W' = W) := fun W => by rw [← hX]; exact aft_own 0 ln ⟨#[112, 114, 101, 102, 105, 120, 32]⟩ x W rfl (HLN.out.trans HX.out)
            have HA1 : Hid (∀ W : World, Calls Tryz.prog 42 #[.string ln, .string ⟨#[112, 111, 108, 105, 99, 121, 32]⟩] W fun e W' => e = .returned (.tuple #[.string ⟨#[]⟩, .bool false]) ∧ W' = W) := fun W => aft_other 1 ln ⟨#[112, 111, 108, 105, 99, 121, 32]⟩ W rfl (by rw [HLN.out, HX.out]; exact Hog.pref_other 0 1 (by decide) (by decide) (by decide) x)
            have HA2 : Hid (∀ W : World, Calls Tryz.prog 42 #[.string ln, .string ⟨#[105, 116, 101, 109, 32]⟩] W fun e W' => e = .returned (.tuple #[.string ⟨#[]⟩, .bool false]) ∧ W' = W) := fun W => aft_other 2 ln ⟨#[105, 116, 101, 109, 32]⟩ W rfl (by rw [HLN.out, HX.out]; exact Hog.pref_other 0 2 (by decide) (by decide) (by decide) x)
            have HA3 : Hid (∀ W : World, Calls Tryz.prog 42 #[.string ln, .string ⟨#[114, 101, 102, 32]⟩] W fun e W' => e = .returned (.tuple #[.string ⟨#[]⟩, .bool false]) ∧ W' = W) := fun W => aft_other 3 ln ⟨#[114, 101, 102, 32]⟩ W rfl (by rw [HLN.out, HX.out]; exact Hog.pref_other 0 3 (by decide) (by decide) (by decide) x)
            have HA4 : Hid (∀ W : World, Calls Tryz.prog 42 #[.string ln, .string ⟨#[112, 114, 111, 102, 105, 108, 101, 32]⟩] W fun e W' => e = .returned (.tuple #[.string ⟨#[]⟩, .bool false]) ∧ W' = W) := fun W => aft_other 4 ln ⟨#[112, 114, 111, 102, 105, 108, 101, 32]⟩ W rfl (by rw [HLN.out, HX.out]; exact Hog.pref_other 0 4 (by decide) (by decide) (by decide) x)
            go_wp2_with fail
            try rw [hln]
            refine (show Calls _ _ _ _ _ from HA0.out _).mono ?_
            rintro e w' ⟨rfl, hww⟩
            have hww2 := hww.symm
            subst hww2
            clear hww
            go_wp2_with fail
            refine (show Calls _ _ _ _ _ from HA1.out _).mono ?_
            rintro e w' ⟨rfl, hww⟩
            have hww2 := hww.symm
            subst hww2
            clear hww
            go_wp2_with fail
            refine (show Calls _ _ _ _ _ from HA2.out _).mono ?_
            rintro e w' ⟨rfl, hww⟩
            have hww2 := hww.symm
            subst hww2
            clear hww
            go_wp2_with fail
            refine (show Calls _ _ _ _ _ from HA3.out _).mono ?_
            rintro e w' ⟨rfl, hww⟩
            have hww2 := hww.symm
            subst hww2
            clear hww
            go_wp2_with fail
            refine (show Calls _ _ _ _ _ from HA4.out _).mono ?_
            rintro e w' ⟨rfl, hww⟩
            have hww2 := hww.symm
            subst hww2
            clear hww
            have hgs := grown_setCell wr g 0 (.string X)
            have HEND : Hid (StR s g W0 (wr.setCell ⟨g, 0, none⟩ (.string X)) (k + 1) (k + 1) (Hog.putM polD 0 st (Hog.mk x))) := by
              refine HST.out.step HCL.out (by decide) HX.out ?_ ((FrG.refl g (g + 1) wr).store 0 _ ⟨_, _, HB.out⟩ hlow (Nat.lt_succ_self g))
              rw [Hog.put0, hX]
              exact ⟨ps, u, v, HB.out.set0 X, HR.out.kept hgs (fun k e => by cases e; exact Nat.lt_succ_self _)⟩
            clear hgs
            go_wp2
            go_roundw
            case rel => exact ⟨k + 1, k + 1, Hog.putM polD 0 st (Hog.mk x), by omega, Nat.le_refl _, by go_num, by go_num, HEND⟩
            case measure => simp [intOf]; omega
          · have HA0 : Hid (∀ W : World, Calls Tryz.prog 42 #[.string ln, .string ⟨#[112, 114, 101, 102, 105, 120, 32]⟩] W fun e W' => e = .returned (.tuple #[.string ⟨#[]⟩, .bool false]) ∧ W' = W) := fun W => aft_other 0 ln ⟨#[112, 114, 101, 102, 105, 120, 32]⟩ W rfl (by rw [HLN.out, HX.out]; exact Hog.pref_other 1 0 (by decide) (by decide) (by decide) x)
            have HA1 : Hid (∀ W : World, Calls Tryz.prog 42 #[.string ln, .string ⟨#[112, 111, 108, 105, 99, 121, 32]⟩] W fun e W' => e = .returned (.tuple #[.string X, .bool true]) ∧ W' = W) := fun W => by rw [← hX]; exact aft_own 1 ln ⟨#[112, 111, 108, 105, 99, 121, 32]⟩ x W rfl (HLN.out.trans HX.out)
            have HA2 : Hid (∀ W : World, Calls Tryz.prog 42 #[.string ln, .string ⟨#[105, 116, 101, 109, 32]⟩] W fun e W' => e = .returned (.tuple #[.string ⟨#[]⟩, .bool false]) ∧ W' = W) := fun W => aft_other 2 ln ⟨#[105, 116, 101, 109, 32]⟩ W rfl (by rw [HLN.out, HX.out]; exact Hog.pref_other 1 2 (by decide) (by decide) (by decide) x)
            have HA3 : Hid (∀ W : World, Calls Tryz.prog 42 #[.string ln, .string ⟨#[114, 101, 102, 32]⟩] W fun e W' => e = .returned (.tuple #[.string ⟨#[]⟩, .bool false]) ∧ W' = W) := fun W => aft_other 3 ln ⟨#[114, 101, 102, 32]⟩ W rfl (by rw [HLN.out, HX.out]; exact Hog.pref_other 1 3 (by decide) (by decide) (by decide) x)
            have HA4 : Hid (∀ W : World, Calls Tryz.prog 42 #[.string ln, .string ⟨#[112, 114, 111, 102, 105, 108, 101, 32]⟩] W fun e W' => e = .returned (.tuple #[.string ⟨#[]⟩, .bool false]) ∧ W' = W) := fun W => aft_other 4 ln ⟨#[112, 114, 111, 102, 105, 108, 101, 32]⟩ W rfl (by rw [HLN.out, HX.out]; exact Hog.pref_other 1 4 (by decide) (by decide) (by decide) x)
            by_cases hx1 : X = Hog.mk [49]
            · have hb1 : (X.toList == [49]) = true := by rw [hx1, Hog.mk_toList]; rfl
              have HX1 := hide hx1
              clear hx1
              go_wp2_with fail
              try rw [hln]
              refine (show Calls _ _ _ _ _ from HA0.out _).mono ?_
              rintro e w' ⟨rfl, hww⟩
              have hww2 := hww.symm
              subst hww2
              clear hww
              go_wp2_with fail
              refine (show Calls _ _ _ _ _ from HA1.out _).mono ?_
              rintro e w' ⟨rfl, hww⟩
              have hww2 := hww.symm
              subst hww2
              clear hww
              go_wp2_with fail
              refine (show Calls _ _ _ _ _ from HA2.out _).mono ?_
              rintro e w' ⟨rfl, hww⟩
              have hww2 := hww.symm
              subst hww2
              clear hww
              go_wp2_with fail
              refine (show Calls _ _ _ _ _ from HA3.out _).mono ?_
              rintro e w' ⟨rfl, hww⟩
              have hww2 := hww.symm
              subst hww2
              clear hww
              go_wp2_with fail
              refine (show Calls _ _ _ _ _ from HA4.out _).mono ?_
              rintro e w' ⟨rfl, hww⟩
              have hww2 := hww.symm
              subst hww2
              clear hww
              have hgs := grown_setCell wr g 3 (.int .i64 1)
              have HEND : Hid (StR s g W0 (wr.setCell ⟨g, 3, none⟩ (.int .i64 1)) (k + 1) (k + 1) (Hog.putM polD 1 st (Hog.mk x))) := by
                refine HST.out.step HCL.out (by decide) HX.out ?_ ((FrG.refl g (g + 1) wr).store 3 _ ⟨_, _, HB.out⟩ hlow (Nat.lt_succ_self g))
                rw [Hog.put1, hX, show polD st.pol X = 1 from if_pos HX1.out]
                exact ⟨ps, u, v, HB.out.set3 1, HR.out.kept hgs (fun k e => by cases e; exact Nat.lt_succ_self _)⟩
              clear hgs
              go_wp2
              go_roundw
              case rel => exact ⟨k + 1, k + 1, Hog.putM polD 1 st (Hog.mk x), by omega, Nat.le_refl _, by go_num, by go_num, HEND⟩
              case measure => simp [intOf]; omega
            · have hb1 : (X.toList == [49]) = false := by
                rw [beq_eq_false_iff_ne]
                intro e
                refine hx1 ?_
                rw [← Hog.data_mk X, ← Lib.toList_data, e]
              go_wp2_with fail
              try rw [hln]
              refine (show Calls _ _ _ _ _ from HA0.out _).mono ?_
              rintro e w' ⟨rfl, hww⟩
              have hww2 := hww.symm
              subst hww2
              clear hww
              go_wp2_with fail
              refine (show Calls _ _ _ _ _ from HA1.out _).mono ?_
              rintro e w' ⟨rfl, hww⟩
              have hww2 := hww.symm
              subst hww2
              clear hww
              go_wp2_with fail
              refine (show Calls _ _ _ _ _ from HA2.out _).mono ?_
              rintro e w' ⟨rfl, hww⟩
              have hww2 := hww.symm
              subst hww2
              clear hww
              go_wp2_with fail
              refine (show Calls _ _ _ _ _ from HA3.out _).mono ?_
              rintro e w' ⟨rfl, hww⟩
              have hww2 := hww.symm
              subst hww2
              clear hww
              go_wp2_with fail
              refine (show Calls _ _ _ _ _ from HA4.out _).mono ?_
              rintro e w' ⟨rfl, hww⟩
              have hww2 := hww.symm
              subst hww2
              clear hww
              have HEND : Hid (StR s g W0 wr (k + 1) (k + 1) (Hog.putM polD 1 st (Hog.mk x))) := by
                refine HST.out.step HCL.out (by decide) HX.out ?_ (FrG.refl g (g + 1) wr)
                rw [Hog.put1, hX, show polD st.pol X = st.pol from if_neg hx1]
                exact ⟨ps, u, v, HB.out, HR.out⟩
              go_wp2
              go_roundw
              case rel => exact ⟨k + 1, k + 1, Hog.putM polD 1 st (Hog.mk x), by omega, Nat.le_refl _, by go_num, by go_num, HEND⟩
              case measure => simp [intOf]; omega
          · have HA0 : Hid (∀ W : World, Calls Tryz.prog 42 #[.string ln, .string ⟨#[112, 114, 101, 102, 105, 120, 32]⟩] W fun e W' => e = .returned (.tuple #[.string ⟨#[]⟩, .bool false]) ∧ W' = W) := fun W => aft_other 0 ln ⟨#[112, 114, 101, 102, 105, 120, 32]⟩ W rfl (by rw [HLN.out, HX.out]; exact Hog.pref_other 2 0 (by decide) (by decide) (by decide) x)
            have HA1 : Hid (∀ W : World, Calls Tryz.prog 42 #[.string ln, .string ⟨#[112, 111, 108, 105, 99, 121, 32]⟩] W fun e W' => e = .returned (.tuple #[.string ⟨#[]⟩, .bool false]) ∧ W' = W) := fun W => aft_other 1 ln ⟨#[112, 111, 108, 105, 99, 121, 32]⟩ W rfl (by rw [HLN.out, HX.out]; exact Hog.pref_other 2 1 (by decide) (by decide) (by decide) x)
            have HA2 : Hid (∀ W : World, Calls Tryz.prog 42 #[.string ln, .string ⟨#[105, 116, 101, 109, 32]⟩] W fun e W' => e = .returned (.tuple #[.string X, .bool true]) ∧ W' = W) := fun W => by rw [← hX]; exact aft_own 2 ln ⟨#[105, 116, 101, 109, 32]⟩ x W rfl (HLN.out.trans HX.out)
            have HA3 : Hid (∀ W : World, Calls Tryz.prog 42 #[.string ln, .string ⟨#[114, 101, 102, 32]⟩] W fun e W' => e = .returned (.tuple #[.string ⟨#[]⟩, .bool false]) ∧ W' = W) := fun W => aft_other 3 ln ⟨#[114, 101, 102, 32]⟩ W rfl (by rw [HLN.out, HX.out]; exact Hog.pref_other 2 3 (by decide) (by decide) (by decide) x)
            have HA4 : Hid (∀ W : World, Calls Tryz.prog 42 #[.string ln, .string ⟨#[112, 114, 111, 102, 105, 108, 101, 32]⟩] W fun e W' => e = .returned (.tuple #[.string ⟨#[]⟩, .bool false]) ∧ W' = W) := fun W => aft_other 4 ln ⟨#[112, 114, 111, 102, 105, 108, 101, 32]⟩ W rfl (by rw [HLN.out, HX.out]; exact Hog.pref_other 2 4 (by decide) (by decide) (by decide) x)
            have hpl := rows_len HR.out.names
            obtain ⟨m, hm⟩ : ∃ m, ps.length = m := ⟨_, rfl⟩
            have HM := hide hm
            obtain ⟨V, hV⟩ : ∃ V, V = wr.alloc (.cells #[.string X, .slice none 0 0, .slice none 0 0] 47) := ⟨_, rfl⟩
            have HBX : Hid (Below wr.heap.size wr V) := by rw [hV]; exact below_box _ _
            have HA : Hid (ArgS V (some ⟨wr.heap.size, 0, none⟩) 1 1 [bareP X]) := by rw [hV]; exact argS_one (bare_is wr X)
            have HO : Hid (OwnS (g + 1) V u ps) := HR.out.own.below HBX.out
            have hsz : V.heap.size = wr.heap.size + 1 := by rw [hV]; simp
            have HBW := hide (HB.out.below HBX.out)
            have HWV : Hid (wr.alloc (.cells #[.string X, .slice none 0 0, .slice none 0 0] 47) = V) := hV.symm
            have HSZ := hide hsz
            have hm9 : m < 900000 := by omega
            clear hm hpl hV hsz
            go_wp2_with fail
            try rw [hln]
            refine (show Calls _ _ _ _ _ from HA0.out _).mono ?_
            rintro e w' ⟨rfl, hww⟩
            have hww2 := hww.symm
            subst hww2
            clear hww
            go_wp2_with fail
            refine (show Calls _ _ _ _ _ from HA1.out _).mono ?_
            rintro e w' ⟨rfl, hww⟩
            have hww2 := hww.symm
            subst hww2
            clear hww
            go_wp2_with fail
            refine (show Calls _ _ _ _ _ from HA2.out _).mono ?_
            rintro e w' ⟨rfl, hww⟩
            have hww2 := hww.symm
            subst hww2
            clear hww
            go_wp2_with (at_builtin; rw [HWV.out]; refine wpList_append_items rfl _ _ rfl (g + 1) _ ps rfl HO.out _ _ _ [bareP X] rfl HA.out (m + 1) ?d0 (ps ++ [bareP X]) rfl ?d1 ?d2 ?_)
            case d0 => rw [HM.out]; rfl
            case d1 => omega
            case d2 => have := HSZ.out; omega
            intro b2 c2' w2 ho2 hg2
            have HO2 := hide ho2
            have HG2 := hide hg2
            have HB2 : Hid (BoxP w2 g 25 st.pre u v st.pol) := HBW.out.kept hg2 (fun e => by have := (HO.out.lt g e.symm).1; omega)
            obtain ⟨⟨_, d1, _⟩, ⟨_, k1, _⟩, _⟩ := HB2.out.facts
            clear ho2 hg2 c1 f1
            go_wp2_with fail
            refine (show Calls _ _ _ _ _ from HA3.out _).mono ?_
            rintro e w' ⟨rfl, hww⟩
            have hww2 := hww.symm
            subst hww2
            clear hww
            go_wp2_with fail
            refine (show Calls _ _ _ _ _ from HA4.out _).mono ?_
            rintro e w' ⟨rfl, hww⟩
            have hww2 := hww.symm
            subst hww2
            clear hww
            have hgs := grown_setCell w2 g 1 (.slice b2 (m + 1) c2')
            have hrw := HR.out.item HBX.out X HO2.out HG2.out
            have HEND : Hid (StR s g W0 (w2.setCell ⟨g, 1, none⟩ (.slice b2 (m + 1) c2')) (k + 1) (k + 1) (Hog.putM polD 2 st (Hog.mk x))) := by
              refine HST.out.step HCL.out (by decide) HX.out ?_ (FrG.store ?_ 1 _ ⟨_, _, HB2.out⟩ hrw.low (Nat.lt_succ_self g))
              · rw [Hog.put2, hX]
                exact ⟨_, _, v, HB2.out.set1 _, hrw.kept hgs (fun k e => by cases e; exact Nat.lt_succ_self _)⟩
              · exact ((FrG.refl g (g + 1) wr).after HBX.out HR.out.low (Nat.lt_succ_self g)).grown HG2.out (by have := HSZ.out; omega) (Nat.lt_succ_self g) (fun k e => .inl (HO.out.lt k e).1) (ownS_cells HO.out)
            clear hgs hrw
            go_wp2
            go_roundw
            case rel => exact ⟨k + 1, k + 1, Hog.putM polD 2 st (Hog.mk x), by omega, Nat.le_refl _, by go_num, by go_num, HEND⟩
            case measure => simp [intOf]; omega
          · have HA0 : Hid (∀ W : World, Calls Tryz.prog 42 #[.string ln, .string ⟨#[112, 114, 101, 102, 105, 120, 32]⟩] W fun e W' => e = .returned (.tuple #[.string ⟨#[]⟩, .bool false]) ∧ W' = W) := fun W => aft_other 0 ln ⟨#[112, 114, 101, 102, 105, 120, 32]⟩ W rfl (by rw [HLN.out, HX.out]; exact Hog.pref_other 3 0 (by decide) (by decide) (by decide) x)
            have HA1 : Hid (∀ W : World, Calls Tryz.prog 42 #[.string ln, .string ⟨#[112, 111, 108, 105, 99, 121, 32]⟩] W fun e W' => e = .returned (.tuple #[.string ⟨#[]⟩, .bool false]) ∧ W' = W) := fun W => aft_other 1 ln ⟨#[112, 111, 108, 105, 99, 121, 32]⟩ W rfl (by rw [HLN.out, HX.out]; exact Hog.pref_other 3 1 (by decide) (by decide) (by decide) x)
            have HA2 : Hid (∀ W : World, Calls Tryz.prog 42 #[.string ln, .string ⟨#[105, 116, 101, 109, 32]⟩] W fun e W' => e = .returned (.tuple #[.string ⟨#[]⟩, .bool false]) ∧ W' = W) := fun W => aft_other 2 ln ⟨#[105, 116, 101, 109, 32]⟩ W rfl (by rw [HLN.out, HX.out]; exact Hog.pref_other 3 2 (by decide) (by decide) (by decide) x)
            have HA3 : Hid (∀ W : World, Calls Tryz.prog 42 #[.string ln, .string ⟨#[114, 101, 102, 32]⟩] W fun e W' => e = .returned (.tuple #[.string X, .bool true]) ∧ W' = W) := fun W => by rw [← hX]; exact aft_own 3 ln ⟨#[114, 101, 102, 32]⟩ x W rfl (HLN.out.trans HX.out)
            have HA4 : Hid (∀ W : World, Calls Tryz.prog 42 #[.string ln, .string ⟨#[112, 114, 111, 102, 105, 108, 101, 32]⟩] W fun e W' => e = .returned (.tuple #[.string ⟨#[]⟩, .bool false]) ∧ W' = W) := fun W => aft_other 4 ln ⟨#[112, 114, 111, 102, 105, 108, 101, 32]⟩ W rfl (by rw [HLN.out, HX.out]; exact Hog.pref_other 3 4 (by decide) (by decide) (by decide) x)
            rcases List.eq_nil_or_concat st.items with hi | ⟨is, i, hi⟩
            · have hpl := rows_len HR.out.names
              rw [hi] at hpl
              obtain rfl : ps = [] := List.eq_nil_of_length_eq_zero hpl
              obtain ⟨a, cc, rfl⟩ := HR.out.own.form
              rw [List.length_nil] at c1
              have HI := hide hi
              clear hpl hi
              go_wp2_with fail
              try rw [hln]
              refine (show Calls _ _ _ _ _ from HA0.out _).mono ?_
              rintro e w' ⟨rfl, hww⟩
              have hww2 := hww.symm
              subst hww2
              clear hww
              go_wp2_with fail
              refine (show Calls _ _ _ _ _ from HA1.out _).mono ?_
              rintro e w' ⟨rfl, hww⟩
              have hww2 := hww.symm
              subst hww2
              clear hww
              go_wp2_with fail
              refine (show Calls _ _ _ _ _ from HA2.out _).mono ?_
              rintro e w' ⟨rfl, hww⟩
              have hww2 := hww.symm
              subst hww2
              clear hww
              go_wp2_with fail
              refine (show Calls _ _ _ _ _ from HA3.out _).mono ?_
              rintro e w' ⟨rfl, hww⟩
              have hww2 := hww.symm
              subst hww2
              clear hww
              go_wp2_with fail
              refine (show Calls _ _ _ _ _ from HA4.out _).mono ?_
              rintro e w' ⟨rfl, hww⟩
              have hww2 := hww.symm
              subst hww2
              clear hww
              have HEND : Hid (StR s g W0 wr (k + 1) (k + 1) (Hog.putM polD 3 st (Hog.mk x))) := by
                refine HST.out.step HCL.out (by decide) HX.out ?_ (FrG.refl g (g + 1) wr)
                rw [Hog.put3_none polD st _ HI.out]
                exact ⟨[], _, v, HB.out, HR.out⟩
              go_wp2
              go_roundw
              case rel => exact ⟨k + 1, k + 1, Hog.putM polD 3 st (Hog.mk x), by omega, Nat.le_refl _, by go_num, by go_num, HEND⟩
              case measure => simp [intOf]; omega
            · rw [List.concat_eq_append] at hi
              have hil := HIL.out i (by rw [hi]; exact List.mem_append_right _ List.mem_cons_self)
              have hpl := rows_len HR.out.names
              rw [hi, List.length_append, List.length_singleton] at hpl
              obtain ⟨p0, p, rfl⟩ : ∃ p0 p, ps = p0 ++ [p] := by
                rcases List.eq_nil_or_concat ps with e | ⟨p0, p, e⟩
                · rw [e] at hpl; simp at hpl
                · exact ⟨p0, p, by rw [e, List.concat_eq_append]⟩
              have hnm := HR.out.names
              rw [hi, List.map_append] at hnm
              have hnm2 := List.append_inj' hnm rfl
              have hpi : p.2.1 = i.1 ∧ p.2.2.1 = i.2 := by
                have := hnm2.2
                simp at this
                exact ⟨by rw [← this], by rw [← this]⟩
              obtain ⟨m, hm⟩ : ∃ m, p0.length = m := ⟨_, rfl⟩
              have hm1 : (p0 ++ [p]).length = m + 1 := by rw [List.length_append, hm]; rfl
              obtain ⟨a, cc, hu⟩ := HR.out.own.form
              rw [hm1] at hu
              subst hu
              obtain ⟨gi, rfl, hDi, hgi, hcap⟩ := HR.out.own.block (by omega)
              obtain ⟨p1, p2, p3, p4⟩ := HR.out.each p (List.mem_append_right _ List.mem_cons_self)
              have hlast : (p0 ++ [p])[m]? = some p := by rw [← hm]; simp
              have r1 : wr.cell? ⟨gi, m * 3 + 1, none⟩ = some (refsV p.1) := HR.out.own.cellAt hlast
              have r2 := HR.out.own.free (m * 3 + 1)
              obtain ⟨ra, rn, rc, hrv⟩ : ∃ ra rn rc, refsV p.1 = .slice ra rn rc := ⟨_, _, _, rfl⟩
              rw [hrv] at r1
              have HRV := hide hrv
              have HPI := hide hpi
              have HNM := hide hnm2.1
              have HM := hide hm
              have HI := hide hi
              have hmi : (m : Int) < (m : Int) + 1 := by omega
              have hm0 : (0 : Int) < (m : Int) + 1 := by omega
              have hm9 : m < 900000 := by rw [hi, List.length_append, List.length_singleton] at hilen; omega
              have HBD : Hid (Below wr.heap.size wr (wr.alloc (.cells #[.string X] 9))) := hide (below_box _ _)
              have HO : Hid (Own (g + 1) (wr.alloc (.cells #[.string X] 9)) (.slice ra rn rc) i.2) := by rw [← hpi.2, ← hrv]; exact hide (p2.below HBD.out)
              have HA := hide (arg_one wr X)
              have HVB : Hid (∀ w2, (wr.alloc (.cells #[.string X] 9)).grownBy w2 (Value.slice ra rn rc).ownBlock → BoxP w2 g 25 st.pre (.slice (some ⟨gi, 0, none⟩) (m + 1) cc) v st.pol ∧ w2.cell? ⟨gi, m * 3 + 1, none⟩ = some (.slice ra rn rc) ∧ w2.frozen? ⟨gi, m * 3 + 1, none⟩ = false) := fun w2 hg2 => by
                have h1 := (HB.out.below HBD.out).kept hg2 (fun e => by have := (HO.out.lt g e.symm).1; omega)
                have h2 : OwnS (g + 1) w2 (.slice (some ⟨gi, 0, none⟩) (m + 1) cc) (p0 ++ [p]) := World.ownsRow.kept (HR.out.own.below HBD.out) hg2 (rows_unlike (HR.out.own.below HBD.out) HO.out)
                exact ⟨h1, (h2.cellAt hlast).trans (by rw [hrv]), h2.free _⟩
              have hilc : i.2.length < 900000 := by omega
              clear hm hm1 hpl hnm hnm2 hpi hrv hlast p1 p2 p3 p4 hil hi
              go_wp2_with fail
              try rw [hln]
              refine (show Calls _ _ _ _ _ from HA0.out _).mono ?_
              rintro e w' ⟨rfl, hww⟩
              have hww2 := hww.symm
              subst hww2
              clear hww
              go_wp2_with fail
              refine (show Calls _ _ _ _ _ from HA1.out _).mono ?_
              rintro e w' ⟨rfl, hww⟩
              have hww2 := hww.symm
              subst hww2
              clear hww
              go_wp2_with fail
              refine (show Calls _ _ _ _ _ from HA2.out _).mono ?_
              rintro e w' ⟨rfl, hww⟩
              have hww2 := hww.symm
              subst hww2
              clear hww
              go_wp2_with fail
              refine (show Calls _ _ _ _ _ from HA3.out _).mono ?_
              rintro e w' ⟨rfl, hww⟩
              have hww2 := hww.symm
              subst hww2
              clear hww
              go_wp2_with (at_builtin; refine wpList_append_whereT rfl _ _ rfl (g + 1) _ i.2 rfl HO.out _ _ _ [X] rfl HA.out ?d1 ?d2 ?_)
              case d1 => simp; omega
              case d2 => simp; omega
              intro b2 c2' w2 ho hg2 hs2
              obtain ⟨hbx, q1, q2⟩ := HVB.out w2 hg2
              have HO2 := hide ho
              have HG2 := hide hg2
              have HS2 := hide hs2
              have HBX2 := hide hbx
              clear ho hg2 hs2 hbx c1 f1 r1 r2
              go_wp2_with fail
              refine (show Calls _ _ _ _ _ from HA4.out _).mono ?_
              rintro e w' ⟨rfl, hww⟩
              have hww2 := hww.symm
              subst hww2
              clear hww
              have hrv := HRV.out
              have hg3 := HG2.out
              have hs3 := HS2.out
              rw [← hrv] at hg3 hs3
              have hrw := HR.out.ref HBD.out HO2.out hg3 hs3 (by rw [HM.out])
              rw [HNM.out, HPI.out.1] at hrw
              have hw3 := grown_setCell w2 gi (m * 3 + 1) (.slice b2 (i.2.length + [X].length) c2')
              have fg : FrG g (g + 1) wr w2 := ((FrG.refl g (g + 1) wr).after HBD.out hlow (Nat.lt_succ_self g)).grown HG2.out (by simp; omega) (Nat.lt_succ_self g) (fun k e => .inl (HO.out.lt k e).1) (own_cells HO.out)
              have hu2 : OwnS (g + 1) w2 (.slice (some ⟨gi, 0, none⟩) (m + 1) cc) (p0 ++ [p]) := World.ownsRow.kept (HR.out.own.below HBD.out) HG2.out (rows_unlike (HR.out.own.below HBD.out) HO.out)
              have HEND : Hid (StR s g W0 (w2.setCell ⟨gi, m * 3 + 1, none⟩ (.slice b2 (i.2.length + [X].length) c2')) (k + 1) (k + 1) (Hog.putM polD 3 st (Hog.mk x))) := by
                refine HST.out.step HCL.out (by decide) HX.out ?_ (fg.grown hw3 (Nat.le_trans hlow fg.below.size) (Nat.lt_succ_self g) (fun k e => by cases e; exact .inl hDi) (fun j o e ho => by cases e; exact ownS_cells hu2 _ o rfl ho))
                rw [Hog.put3_last polD st _ is i HI.out, hX]
                exact ⟨_, _, v, HBX2.out.kept hw3 (fun e => by cases e; omega), hrw⟩
              clear hrv hg3 hs3 hrw hw3 fg hu2
              go_wp2
              go_roundw
              case rel => exact ⟨k + 1, k + 1, Hog.putM polD 3 st (Hog.mk x), by omega, Nat.le_refl _, by go_num, by go_num, HEND⟩
              case measure => simp [intOf]; omega
          · have HA0 : Hid (∀ W : World, Calls Tryz.prog 42 #[.string ln, .string ⟨#[112, 114, 101, 102, 105, 120, 32]⟩] W fun e W' => e = .returned (.tuple #[.string ⟨#[]⟩, .bool false]) ∧ W' = W) := fun W => aft_other 0 ln ⟨#[112, 114, 101, 102, 105, 120, 32]⟩ W rfl (by rw [HLN.out, HX.out]; exact Hog.pref_other 4 0 (by decide) (by decide) (by decide) x)
            have HA1 : Hid (∀ W : World, Calls Tryz.prog 42 #[.string ln, .string ⟨#[112, 111, 108, 105, 99, 121, 32]⟩] W fun e W' => e = .returned (.tuple #[.string ⟨#[]⟩, .bool false]) ∧ W' = W) := fun W => aft_other 1 ln ⟨#[112, 111, 108, 105, 99, 121, 32]⟩ W rfl (by rw [HLN.out, HX.out]; exact Hog.pref_other 4 1 (by decide) (by decide) (by decide) x)
            have HA2 : Hid (∀ W : World, Calls Tryz.prog 42 #[.string ln, .string ⟨#[105, 116, 101, 109, 32]⟩] W fun e W' => e = .returned (.tuple #[.string ⟨#[]⟩, .bool false]) ∧ W' = W) := fun W => aft_other 2 ln ⟨#[105, 116, 101, 109, 32]⟩ W rfl (by rw [HLN.out, HX.out]; exact Hog.pref_other 4 2 (by decide) (by decide) (by decide) x)
            have HA3 : Hid (∀ W : World, Calls Tryz.prog 42 #[.string ln, .string ⟨#[114, 101, 102, 32]⟩] W fun e W' => e = .returned (.tuple #[.string ⟨#[]⟩, .bool false]) ∧ W' = W) := fun W => aft_other 3 ln ⟨#[114, 101, 102, 32]⟩ W rfl (by rw [HLN.out, HX.out]; exact Hog.pref_other 4 3 (by decide) (by decide) (by decide) x)
            have HA4 : Hid (∀ W : World, Calls Tryz.prog 42 #[.string ln, .string ⟨#[112, 114, 111, 102, 105, 108, 101, 32]⟩] W fun e W' => e = .returned (.tuple #[.string X, .bool true]) ∧ W' = W) := fun W => by rw [← hX]; exact aft_own 4 ln ⟨#[112, 114, 111, 102, 105, 108, 101, 32]⟩ x W rfl (HLN.out.trans HX.out)
            obtain ⟨V, hV⟩ : ∃ V, V = wr.alloc (.cells #[.string X] 9) := ⟨_, rfl⟩
            have HBX : Hid (Below wr.heap.size wr V) := by rw [hV]; exact below_box _ _
            have HA : Hid (Arg V (some ⟨wr.heap.size, 0, none⟩) 1 1 [X]) := by rw [hV]; exact arg_one wr X
            have HO : Hid (Own (g + 1) V v st.prof) := HR.out.prf.below HBX.out
            have hsz : V.heap.size = wr.heap.size + 1 := by rw [hV]; simp
            have HBW := hide (HB.out.below HBX.out)
            have HWV : Hid (wr.alloc (.cells #[.string X] 9) = V) := hV.symm
            have HSZ := hide hsz
            clear hV hsz
            go_wp2_with fail
            try rw [hln]
            refine (show Calls _ _ _ _ _ from HA0.out _).mono ?_
            rintro e w' ⟨rfl, hww⟩
            have hww2 := hww.symm
            subst hww2
            clear hww
            go_wp2_with fail
            refine (show Calls _ _ _ _ _ from HA1.out _).mono ?_
            rintro e w' ⟨rfl, hww⟩
            have hww2 := hww.symm
            subst hww2
            clear hww
            go_wp2_with fail
            refine (show Calls _ _ _ _ _ from HA2.out _).mono ?_
            rintro e w' ⟨rfl, hww⟩
            have hww2 := hww.symm
            subst hww2
            clear hww
            go_wp2_with fail
            refine (show Calls _ _ _ _ _ from HA3.out _).mono ?_
            rintro e w' ⟨rfl, hww⟩
            have hww2 := hww.symm
            subst hww2
            clear hww
            go_wp2_with fail
            refine (show Calls _ _ _ _ _ from HA4.out _).mono ?_
            rintro e w' ⟨rfl, hww⟩
            have hww2 := hww.symm
            subst hww2
            clear hww
            go_wp2_with (at_builtin; rw [HWV.out]; refine wpList_append_whereT rfl _ _ rfl (g + 1) _ st.prof rfl HO.out _ _ _ [X] rfl HA.out ?d1 ?d2 ?_)
            case d1 => simp; omega
            case d2 => have := HSZ.out; omega
            intro b2 c2' w2 ho2 hg2 hs2
            have HO2 := hide ho2
            have HG2 := hide hg2
            have HS2 := hide hs2
            have HB2 : Hid (BoxP w2 g 25 st.pre u v st.pol) := HBW.out.kept hg2 (fun e => by have := (HO.out.lt g e.symm).1; omega)
            obtain ⟨⟨_, _, d1, _⟩, ⟨_, _, k1, _⟩, _⟩ := HB2.out.facts
            clear ho2 hg2 hs2 c2 f2
            have hgs := grown_setCell w2 g 2 (.slice b2 (st.prof.length + [X].length) c2')
            have hrw := HR.out.profile HBX.out HO2.out HG2.out HS2.out
            have HEND : Hid (StR s g W0 (w2.setCell ⟨g, 2, none⟩ (.slice b2 (st.prof.length + [X].length) c2')) (k + 1) (k + 1) (Hog.putM polD 4 st (Hog.mk x))) := by
              refine HST.out.step HCL.out (by decide) HX.out ?_ (FrG.store ?_ 2 _ ⟨_, _, HB2.out⟩ hrw.low (Nat.lt_succ_self g))
              · rw [Hog.put4, hX]
                exact ⟨_, _, _, HB2.out.set2 _, hrw.kept hgs (fun k e => by cases e; exact Nat.lt_succ_self _)⟩
              · exact ((FrG.refl g (g + 1) wr).after HBX.out HR.out.low (Nat.lt_succ_self g)).grown HG2.out (by have := HSZ.out; omega) (Nat.lt_succ_self g) (fun k e => .inl (HO.out.lt k e).1) (own_cells HO.out)
            clear hgs hrw
            go_wp2
            go_roundw
            case rel => exact ⟨k + 1, k + 1, Hog.putM polD 4 st (Hog.mk x), by omega, Nat.le_refl _, by go_num, by go_num, HEND⟩
            case measure => simp [intOf]; omega
        · have HNO := hide hno
          clear hno
          have HA0 : Hid (∀ W : World, Calls Tryz.prog 42 #[.string ln, .string ⟨#[112, 114, 101, 102, 105, 120, 32]⟩] W fun e W' => e = .returned (.tuple #[.string ⟨#[]⟩, .bool false]) ∧ W' = W) := fun W => aft_other 0 ln ⟨#[112, 114, 101, 102, 105, 120, 32]⟩ W rfl (by rw [HLN.out]; exact HNO.out 0 (by decide))
          have HA1 : Hid (∀ W : World, Calls Tryz.prog 42 #[.string ln, .string ⟨#[112, 111, 108, 105, 99, 121, 32]⟩] W fun e W' => e = .returned (.tuple #[.string ⟨#[]⟩, .bool false]) ∧ W' = W) := fun W => aft_other 1 ln ⟨#[112, 111, 108, 105, 99, 121, 32]⟩ W rfl (by rw [HLN.out]; exact HNO.out 1 (by decide))
          have HA2 : Hid (∀ W : World, Calls Tryz.prog 42 #[.string ln, .string ⟨#[105, 116, 101, 109, 32]⟩] W fun e W' => e = .returned (.tuple #[.string ⟨#[]⟩, .bool false]) ∧ W' = W) := fun W => aft_other 2 ln ⟨#[105, 116, 101, 109, 32]⟩ W rfl (by rw [HLN.out]; exact HNO.out 2 (by decide))
          have HA3 : Hid (∀ W : World, Calls Tryz.prog 42 #[.string ln, .string ⟨#[114, 101, 102, 32]⟩] W fun e W' => e = .returned (.tuple #[.string ⟨#[]⟩, .bool false]) ∧ W' = W) := fun W => aft_other 3 ln ⟨#[114, 101, 102, 32]⟩ W rfl (by rw [HLN.out]; exact HNO.out 3 (by decide))
          have HA4 : Hid (∀ W : World, Calls Tryz.prog 42 #[.string ln, .string ⟨#[112, 114, 111, 102, 105, 108, 101, 32]⟩] W fun e W' => e = .returned (.tuple #[.string ⟨#[]⟩, .bool false]) ∧ W' = W) := fun W => aft_other 4 ln ⟨#[112, 114, 111, 102, 105, 108, 101, 32]⟩ W rfl (by rw [HLN.out]; exact HNO.out 4 (by decide))
          go_wp2_with fail
          try rw [hln]
          refine (show Calls _ _ _ _ _ from HA0.out _).mono ?_
          rintro e w' ⟨rfl, hww⟩
          have hww2 := hww.symm
          subst hww2
          clear hww
          go_wp2_with fail
          refine (show Calls _ _ _ _ _ from HA1.out _).mono ?_
          rintro e w' ⟨rfl, hww⟩
          have hww2 := hww.symm
          subst hww2
          clear hww
          go_wp2_with fail
          refine (show Calls _ _ _ _ _ from HA2.out _).mono ?_
          rintro e w' ⟨rfl, hww⟩
          have hww2 := hww.symm
          subst hww2
          clear hww
          go_wp2_with fail
          refine (show Calls _ _ _ _ _ from HA3.out _).mono ?_
          rintro e w' ⟨rfl, hww⟩
          have hww2 := hww.symm
          subst hww2
          clear hww
          go_wp2_with fail
          refine (show Calls _ _ _ _ _ from HA4.out _).mono ?_
          rintro e w' ⟨rfl, hww⟩
          have hww2 := hww.symm
          subst hww2
          clear hww
          have HEND := hide (HST.out.pass HCL.out HNO.out)
          go_wp2
          go_roundw
          case rel => exact ⟨k + 1, k + 1, st, by omega, Nat.le_refl _, by go_num, by go_num, HEND⟩
          case measure => simp [intOf]; omega
    · obtain rfl : k = n := by omega
      have hkd : (k : Int) ≤ (k : Int) := Int.le_refl _
      obtain ⟨h1, hbd, hrd, hfr⟩ := HST.out
      have hLl : s.data.toList.length = k := by rw [← hn]; simp
      have hre : Hog.readR polD s.data.toList = st := by
        have hd : s.data.toList.drop k = [] := List.drop_of_length_le (by omega)
        rw [h1, hd]; exact rfl
      obtain ⟨ps, u, v, hbx, hrw⟩ := hrd
      have HFP := hide (hbd.fair (by omega) (by omega))
      have HTD := hide (told_of (s := s.data.toList) (st := st) fun r hr e => by
        rw [← hre, ← e]
        exact Hog.readR_lay (mayR_noten hr) (dig_of (mayR_iff.1 hr).2.1 polD_zero polD_one))
      have HBW := hide (HB0.out.trans (hfr.below.mono (by have := HG.out; omega)))
      have hrs : BoxP wr w.heap.size 25 ⟨#[]⟩ (.slice none 0 0) (.slice none 0 0) 0 := by
        have h := hfr.below.block w.heap.size (by have := HG.out; omega)
        unfold BoxP
        rw [h]; exact HBR.out
      obtain ⟨t, ht⟩ : ∃ t, layV st = t := ⟨_, rfl⟩
      obtain ⟨z, hz⟩ : ∃ z, layE st = z := ⟨_, rfl⟩
      have HL := hide (rlay_ok st (itsOf ps) u v t z wr HFP.out hrw.its (by rw [← hrw.names]; unfold rsI itsOf; rw [List.map_map]; rfl) hrw.txt ht hz)
      obtain ⟨ua, uc, hu⟩ := hrw.own.form
      obtain ⟨va, vc, hv⟩ := hrw.prf.form
      obtain ⟨un, hun⟩ : ∃ k, ps.length = k := ⟨_, rfl⟩
      obtain ⟨vn, hvn⟩ : ∃ k, st.prof.length = k := ⟨_, rfl⟩
      rw [hun] at hu
      rw [hvn] at hv
      subst hu hv
      have HBX := hide hbx
      have HRW := hide hrw
      have HRS := hide hrs
      have HT := hide ht
      have HZ := hide hz
      obtain ⟨⟨c0, c1, c2, c3⟩, _, hlt⟩ := hbx.facts
      clear h1 hbd hfr hLl hre hbx hrw hrs ht hz hun hvn HST
      go_wp2_with fail
      refine (show Calls _ _ _ _ _ from HL.out).mono ?_
      rintro e W5 ⟨rfl, hb5⟩
      have HBX5 := hide (HBX.out.below hb5)
      have HRW5 := hide (HRW.out.below hb5)
      have HRS5 := hide (HRS.out.below hb5)
      have HBW5 := hide (below_two HBW.out hb5)
      clear hb5 c0 c1 c2 c3 hlt HL HBW HBX HRW HRS
      obtain ⟨⟨k0, k1, k2, k3⟩, _, hl5⟩ := HBX5.out.facts
      obtain ⟨⟨r0, r1, r2, r3⟩, ⟨f0, f1, f2, f3⟩, hrl⟩ := HRS5.out.facts
      have hne : w.heap.size ≠ g := by have := HG.out; omega
      by_cases hgood : mayR st = true ∧ Hog.layM st = s.data.toList
      · have hz0 : z = 0 := by have := HZ.out; unfold layE at this; rw [if_pos hgood.1] at this; exact this.symm
        have htq : (t.toList == s.toList) = true := by
          have := HT.out
          unfold layV at this
          rw [if_pos hgood.1] at this
          rw [← this, Hog.mk_toList, hgood.2, Lib.toList_data, beq_iff_eq]
        have HTD2 := hide (HTD.out.1 hgood)
        subst hz0
        clear hgood
        have hgw := setP_grown W5 w.heap.size st.pre (.slice ua un uc) (.slice va vn vc) st.pol
        have HBP := hide (HRS5.out.stored st.pre (.slice ua un uc) (.slice va vn vc) st.pol)
        have HBL := hide (HBW5.out.trans ((Below.refl w.heap.size W5).grown hgw (by have := HBW5.out.size; omega) (fun k e => by cases e; exact Nat.le_refl _)))
        have HRO := hide ((HRW5.out : RowsR (g + 1) W5 ps (.slice ua un uc) (.slice va vn vc) st.items st.prof).kept hgw (fun k e => by cases e; have := HG.out; omega))
        clear hgw
        go_wp2
        refine bodyPost_ret (results_pack rfl _ _ w.heap.size st.pre (.slice ua un uc) (.slice va vn vc) st.pol rfl HBP.out) rfl ?_
        exact ⟨st, 0, ps, (.slice ua un uc), (.slice va vn vc), g + 1, rfl, HTD2.out, HRO.out, by have := HG.out; omega, HBL.out⟩
      · have HTD2 := hide (HTD.out.2 hgood)
        cases hm : mayR st with
        | false =>
          have hz2 : z = 2 := by have := HZ.out; unfold layE at this; rw [hm] at this; exact this.symm
          subst hz2
          clear hgood hm
          have hgw := setP_grown W5 w.heap.size ⟨#[]⟩ (.slice none 0 0) (.slice none 0 0) 0
          have HBP := hide (HRS5.out.stored ⟨#[]⟩ (.slice none 0 0) (.slice none 0 0) 0)
          have HBL := hide (HBW5.out.trans ((Below.refl w.heap.size W5).grown hgw (by have := HBW5.out.size; omega) (fun k e => by cases e; exact Nat.le_refl _)))
          clear hgw
          go_wp2
          refine bodyPost_ret (results_pack rfl _ _ w.heap.size ⟨#[]⟩ (.slice none 0 0) (.slice none 0 0) 0 rfl HBP.out) rfl ?_
          exact ⟨Hog.noneM, 5, [], .slice none 0 0, .slice none 0 0, w.heap.size, rfl, HTD2.out, RowsR.nil _ _ HBL.out.size, Nat.le_refl _, HBL.out⟩
        | true =>
          have hz0 : z = 0 := by have := HZ.out; unfold layE at this; rw [if_pos hm] at this; exact this.symm
          have htq : (t.toList == s.toList) = false := by
            have := HT.out
            unfold layV at this
            rw [if_pos hm] at this
            rw [beq_eq_false_iff_ne, ← this, Hog.mk_toList, Lib.toList_data]
            intro e
            exact hgood ⟨hm, e⟩
          subst hz0
          clear hgood hm
          have hgw := setP_grown W5 w.heap.size ⟨#[]⟩ (.slice none 0 0) (.slice none 0 0) 0
          have HBP := hide (HRS5.out.stored ⟨#[]⟩ (.slice none 0 0) (.slice none 0 0) 0)
          have HBL := hide (HBW5.out.trans ((Below.refl w.heap.size W5).grown hgw (by have := HBW5.out.size; omega) (fun k e => by cases e; exact Nat.le_refl _)))
          clear hgw
          go_wp2
          refine bodyPost_ret (results_pack rfl _ _ w.heap.size ⟨#[]⟩ (.slice none 0 0) (.slice none 0 0) 0 rfl HBP.out) rfl ?_
          exact ⟨Hog.noneM, 5, [], .slice none 0 0, .slice none 0 0, w.heap.size, rfl, HTD2.out, RowsR.nil _ _ HBL.out.size, Nat.le_refl _, HBL.out⟩
end Go.Proofs.YtmlkknbndglgaaaGreatDoor
