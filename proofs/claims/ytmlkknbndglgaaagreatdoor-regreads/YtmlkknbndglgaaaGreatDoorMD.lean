/- The walk of package reg's Lay. -/
import Derived.Test.YtmlkknbndglgaaaGreatDoorJ20
import Derived.Deep.RegionWith
import Derived.Deep.DeepCutAuto
import Derived.Deep.CutRange
namespace Go.Proofs.YtmlkknbndglgaaaGreatDoor
open Go.RowKit

theorem txt_one (w : World) (x : ByteArray) : Txt (w.alloc (.cells #[.string x] 9)) (.slice (some ⟨w.heap.size, 0, none⟩) 1 1) [x] := by
  refine .inr ⟨w.heap.size, 0, 1, rfl, Nat.le_refl _, by simp, fun j y hy => ?_⟩
  match j, hy with
  | 0, hy => simp at hy; subst hy; simp
  | j + 1, hy => simp at hy
theorem txt_second (w : World) (o : Obj) (x : ByteArray) : Txt ((w.alloc o).alloc (.cells #[.string x] 9)) (.slice (some ⟨w.heap.size + 1, 0, none⟩) 1 1) [x] := by
  have h := txt_one (w.alloc o) x
  rwa [World.size_alloc] at h
theorem txt_old (w : World) (o : Obj) (x : ByteArray) : Txt ((w.alloc (.cells #[.string x] 9)).alloc o) (.slice (some ⟨w.heap.size, 0, none⟩) 1 1) [x] := (txt_one w x).below (below_box _ _)
theorem Txt.drewT {w : World} {v : Value} {xs : List ByteArray} (h : Txt w v xs) : Txt w.drew v xs := h.below ((Below.refl _ w).drew)
theorem dig_small (p : Int) : (Hog.digM p).size ≤ 40 := by
  unfold Hog.digM
  split <;> decide
theorem dec_dig {p : Int} (h : polB p = true) : ∃ n : Nat, n < 100 ∧ p = n ∧ (⟨(Lib.decDigits n).toArray⟩ : ByteArray) = Hog.digM p := by
  rcases polB_iff.1 h with rfl | rfl
  · exact ⟨0, by decide, rfl, by unfold Lib.decDigits Hog.digM; decide⟩
  · exact ⟨1, by decide, rfl, by unfold Lib.decDigits Hog.digM; decide⟩
theorem lay_no {q : Hog.RegP} (h : mayR q = true) : q.pre.size ≤ 40 ∧ (∀ i ∈ q.items, i.1.size ≤ 40 ∧ i.2.length ≤ 8 ∧ ∀ x ∈ i.2, x.size ≤ 40) ∧ q.prof.length ≤ 8 ∧ (∀ x ∈ q.prof, x.size ≤ 40) ∧ q.items.length ≤ 8 := by
  obtain ⟨a, _, c, d, e⟩ := mayR_iff.1 h
  have hn : ∀ x : ByteArray, Hog.nameL x.data.toList = true → x.size ≤ 40 := fun x hx => by have := (name_small hx).1; rw [Hog.size_len]; omega
  unfold showB at e
  simp only [Bool.and_eq_true, decide_eq_true_eq] at e
  refine ⟨by have := (pref_small a).1; omega, fun i hi => ?_, e.1, fun x hx => hn x (List.all_eq_true.1 e.2 x hx), c⟩
  obtain ⟨k1, k2⟩ := hold_each d i hi
  exact ⟨hn _ k1, (refs_each k2).1, fun x hx => hn x ((refs_each k2).2 x hx)⟩
theorem items_step {l : List RI} {k : Nat} {i : RI} (hi : l[k]? = some i) : (l.take (k + 1)).flatMap Hog.itemL = (l.take k).flatMap Hog.itemL ++ (Hog.linesW (Hog.wordM 2) [i.1] ++ Hog.linesW (Hog.wordM 3) i.2) := by
  obtain ⟨hk, rfl⟩ := List.getElem?_eq_some_iff.1 hi
  rw [List.take_succ_eq_append_getElem hk, List.flatMap_append, List.flatMap_cons, List.flatMap_nil, List.append_nil]
  rfl

set_option maxRecDepth 100000 in
set_option maxHeartbeats 2000000 in
theorem layNo_ok (q : Hog.RegP) (is : List It) (u v : Value) (w0 w : World) (hok : Ok w0 w) (hf : FairP q) (hi : Its w u is) (hq : rsI is = q.items) (hp : Txt w v q.prof) (hv : mayR q = false) :
    Calls Tryz.prog 9 #[.agg #[.string q.pre, u, v, .int .i64 q.pol]] w fun e w' => e = .returned (.tuple #[.string ⟨#[]⟩, .int .i64 2]) ∧ Ok w0 w' ∧ Below w.heap.size w w' := by
  have hil : is.length = q.items.length := by rw [← hq]; exact (List.length_map _).symm
  obtain ⟨W, hW⟩ : ∃ W, W = w.alloc (pcells q.pre u v q.pol) := ⟨_, rfl⟩
  have HB0 : Hid (Below w.heap.size w W) := by rw [hW]; exact below_box _ _
  have HM := hide (mayP_ok q is u v false w0 W (by rw [hW]; exact hok.alloc _) hf (hi.below HB0.out) hq (hp.below HB0.out) hv)
  obtain ⟨ia, ic, rfl⟩ := hi.form
  obtain ⟨pa, pc, rfl⟩ := hp.form
  obtain ⟨m, hm⟩ : ∃ m, is.length = m := ⟨_, rfl⟩
  obtain ⟨n, hn⟩ : ∃ n, q.prof.length = n := ⟨_, rfl⟩
  rw [hm] at HM hW ⊢
  rw [hn] at HM hW ⊢
  have c0 : W.cell? ⟨w.heap.size, 0, none⟩ = some (.string q.pre) := by rw [hW]; simp [pcells]
  have c1 : W.cell? ⟨w.heap.size, 1, none⟩ = some (.slice ia m ic) := by rw [hW]; simp [pcells]
  have c2 : W.cell? ⟨w.heap.size, 2, none⟩ = some (.slice pa n pc) := by rw [hW]; simp [pcells]
  have c3 : W.cell? ⟨w.heap.size, 3, none⟩ = some (.int .i64 q.pol) := by rw [hW]; simp [pcells]
  have HW : Hid (w.alloc (.cells #[.string q.pre, .slice ia m ic, .slice pa n pc, .int .i64 q.pol] 25) = W) := hW.symm
  clear hok hf hi hq hp hv hil hm hn hW
  go_enter Tryz.func9, Tryz.ntmps9
  go_wp2_with fail
  rw [HW.out]
  go_wp2_with fail
  refine HM.out.mono ?_
  rintro e w1 ⟨rfl, ok1, hb1⟩
  go_wp2
  go_ret2
  exact ⟨rfl, ok1, below_two HB0.out hb1⟩

set_option maxRecDepth 100000 in
set_option maxHeartbeats 8000000 in
theorem layYes_ok (q : Hog.RegP) (is : List It) (u v : Value) (w0 w : World) (hok : Ok w0 w) (hf : FairP q) (hi : Its w u is) (hq : rsI is = q.items) (hp : Txt w v q.prof) (hv : mayR q = true) :
    Calls Tryz.prog 9 #[.agg #[.string q.pre, u, v, .int .i64 q.pol]] w fun e w' => e = .returned (.tuple #[.string (Hog.mk (Hog.layM q)), .int .i64 0]) ∧ Ok w0 w' ∧ Below w.heap.size w w' := by
  have hil : is.length = q.items.length := by rw [← hq]; exact (List.length_map _).symm
  obtain ⟨W, hW⟩ : ∃ W, W = w.alloc (pcells q.pre u v q.pol) := ⟨_, rfl⟩
  have HB0 : Hid (Below w.heap.size w W) := by rw [hW]; exact below_box _ _
  have HM := hide (mayP_ok q is u v true w0 W (by rw [hW]; exact hok.alloc _) hf (hi.below HB0.out) hq (hp.below HB0.out) hv)
  have HI := hide hi
  have HP := hide hp
  have HQ := hide hq
  have hsm := lay_no hv
  have HSM := hide hsm
  obtain ⟨pz, _, hpl, _, hl8⟩ := hsm
  obtain ⟨pn, pn1, pn2, pn3⟩ := dec_dig (mayR_iff.1 hv).2.1
  have HPD := hide pn3
  have HPN := hide pn2
  have HDS := hide (dig_small q.pol)
  obtain ⟨ia, ic, rfl⟩ := hi.form
  obtain ⟨pa, pc, rfl⟩ := hp.form
  obtain ⟨m, hm⟩ : ∃ m, is.length = m := ⟨_, rfl⟩
  obtain ⟨n, hn⟩ : ∃ n, q.prof.length = n := ⟨_, rfl⟩
  have hm8 : m ≤ 8 := by omega
  have HMN := hide hm
  rw [hm] at HM HI hW ⊢
  rw [hn] at HM HP hW ⊢
  have c0 : W.cell? ⟨w.heap.size, 0, none⟩ = some (.string q.pre) := by rw [hW]; simp [pcells]
  have c1 : W.cell? ⟨w.heap.size, 1, none⟩ = some (.slice ia m ic) := by rw [hW]; simp [pcells]
  have c2 : W.cell? ⟨w.heap.size, 2, none⟩ = some (.slice pa n pc) := by rw [hW]; simp [pcells]
  have c3 : W.cell? ⟨w.heap.size, 3, none⟩ = some (.int .i64 q.pol) := by rw [hW]; simp [pcells]
  have hsz : w.heap.size < W.heap.size := by rw [hW]; simp
  have HW : Hid (w.alloc (.cells #[.string q.pre, .slice ia m ic, .slice pa n pc, .int .i64 q.pol] 25) = W) := hW.symm
  clear hok hf hi hq hp hv hil hm hn hW pn2 pn3
  go_enter Tryz.func9, Tryz.ntmps9
  go_wp2_with fail
  rw [HW.out]
  go_wp2_with fail
  refine HM.out.mono ?_
  rintro e w1 ⟨rfl, ok1, hb1⟩
  have HOK1 := hide ok1
  have HB1 := hide (below_two HB0.out hb1)
  have d0 := (hb1.cell (p := ⟨w.heap.size, 0, none⟩) hsz).trans c0
  have d1 := (hb1.cell (p := ⟨w.heap.size, 1, none⟩) hsz).trans c1
  have d2 := (hb1.cell (p := ⟨w.heap.size, 2, none⟩) hsz).trans c2
  have d3 := (hb1.cell (p := ⟨w.heap.size, 3, none⟩) hsz).trans c3
  have hsz1 : w.heap.size < w1.heap.size := by have := hb1.size; omega
  clear hb1 ok1 c0 c1 c2 c3 hsz HM HB0
  obtain ⟨t1, ht1⟩ : ∃ t, Hog.mk (Hog.linesW (Hog.wordM 0) [q.pre]) = t := ⟨_, rfl⟩
  obtain ⟨t2, ht2⟩ : ∃ t, Hog.mk (Hog.linesW (Hog.wordM 1) [Hog.digM q.pol]) = t := ⟨_, rfl⟩
  have hs1 : t1.size ≤ 100 := by
    rw [← ht1, Hog.mk_size]
    have := Hog.linesW_len (w := Hog.wordM 0) (xs := [q.pre]) (by decide) (fun x hx => by rw [List.mem_singleton.1 hx]; exact pz)
    simp at this; omega
  have hs2 : t2.size ≤ 100 := by
    rw [← ht2, Hog.mk_size]
    have := Hog.linesW_len (w := Hog.wordM 1) (xs := [Hog.digM q.pol]) (by decide) (fun x hx => by rw [List.mem_singleton.1 hx]; exact HDS.out)
    simp at this; omega
  have HT1 := hide ht1
  have HT2 := hide ht2
  have HC1 : Hid (∀ (W' : World) (a : Value), Txt W' a [q.pre] → Calls Tryz.prog 23 #[.string ⟨#[112, 114, 101, 102, 105, 120, 32]⟩, a] W' fun e w' => e = .returned (.string t1) ∧ w' = W') := fun W' a h =>
    lines_ok (Hog.wordM 0) a [q.pre] t1 W' h (by decide) (by simp) (fun x hx => by rw [List.mem_singleton.1 hx]; exact pz) ht1
  have HC2 : Hid (∀ (W' : World) (a : Value), Txt W' a [Hog.digM q.pol] → Calls Tryz.prog 23 #[.string ⟨#[112, 111, 108, 105, 99, 121, 32]⟩, a] W' fun e w' => e = .returned (.string t2) ∧ w' = W') := fun W' a h =>
    lines_ok (Hog.wordM 1) a [Hog.digM q.pol] t2 W' h (by decide) (by simp) (fun x hx => by rw [List.mem_singleton.1 hx]; exact HDS.out) ht2
  have HC3 : Hid (∀ W' : World, Calls Tryz.prog 24 #[.int .i64 q.pol] W' fun e w' => e = .returned (.string (Hog.digM q.pol)) ∧ w' = W') := fun W' => by
    rw [HPN.out]
    refine (Tryz.strconv_Itoa_small pn pn1 W').mono ?_
    rintro e w' ⟨rfl, rfl⟩
    exact ⟨by rw [HPD.out, ← HPN.out], rfl⟩
  clear ht1 ht2
  go_upto_region 3 with fail
  go_cut [4] from 10 to 20 (fun s wx => s = .string (t1 ++ t2) ∧ Hid (Below w1.heap.size w1 wx))
  case first =>
    have n1 : t1.size + t2.size ≤ 200 := by omega
    go_region_with (first
      | (go_at_call 24; with_reducible refine (HC3.out _).mono ?_; rintro e w' ⟨rfl, rfl⟩)
      | (go_at_call 23; with_reducible refine (HC1.out _ _ ?h).mono ?_; (case h => first | exact (txt_one _ _).drewT | exact (txt_second _ _ _).drewT | exact (txt_old _ _ _).drewT); rintro e w' ⟨rfl, rfl⟩)
      | (go_at_call 23; with_reducible refine (HC2.out _ _ ?h).mono ?_; (case h => first | exact (txt_one _ _).drewT | exact (txt_second _ _ _).drewT | exact (txt_old _ _ _).drewT); rintro e w' ⟨rfl, rfl⟩))
    all_goals
      go_wp2_with fail
      go_meet
      exact ⟨rfl, hide (((Below.refl _ _).alloc (Nat.le_refl _) _).alloc (by simp) _).drew⟩
  case rest =>
    obtain ⟨rfl, hbc⟩ := hcut
    have HB2 := hide (below_two HB1.out hbc.out)
    have HOK2 := hide (HOK1.out.next hbc.out)
    have e0 := (hbc.out.cell (p := ⟨w.heap.size, 0, none⟩) hsz1).trans d0
    have e1 := (hbc.out.cell (p := ⟨w.heap.size, 1, none⟩) hsz1).trans d1
    have e2 := (hbc.out.cell (p := ⟨w.heap.size, 2, none⟩) hsz1).trans d2
    have hszc : w.heap.size < wc.heap.size := by have := hbc.out.size; omega
    obtain ⟨T0, hT0⟩ : ∃ T : List UInt8, Hog.mk T = t1 ++ t2 := ⟨_, Hog.data_mk _⟩
    have HT0 : Hid (T0 = Hog.linesW (Hog.wordM 0) [q.pre] ++ Hog.linesW (Hog.wordM 1) [Hog.digM q.pol]) := by
      have h1 := congrArg (fun x : ByteArray => x.data.toList) hT0
      rw [← HT1.out, ← HT2.out, mk_app] at h1
      simp only [Hog.mk_data] at h1
      exact h1
    have hT0l : T0.length ≤ 200 := by
      have h1 := congrArg ByteArray.size hT0
      rw [Hog.mk_size, ByteArray.size_append] at h1
      omega
    rw [← hT0]
    clear hbc hT0 d0 d1 d2 d3 HC1 HC2 HC3 HT1 HT2 hs1 hs2 HB1 HOK1
    have hms := Hog.mk_size
    go_wp2
    go_loopw [4, 6, 23] (fun s _ i wr => ∃ (k : Nat) (J : List UInt8), k ≤ m ∧ i = .int .i64 k ∧ s = .string (Hog.mk J) ∧ Hid (J = T0 ++ (q.items.take k).flatMap Hog.itemL) ∧ J.length ≤ 200 + 500 * k ∧ Hid (Below wc.heap.size wc wr)) (fun _ _ i _ => m - (intOf i).toNat)
    case atStart => exact ⟨0, T0, Nat.zero_le _, rfl, rfl, by simp [Hid], by omega, Below.refl _ _⟩
    case round =>
      obtain ⟨k, J, hk, rfl, rfl, hJ, hJl, hbl⟩ := hrel
      by_cases hlt : k < m
      · have hlen : is.length = m := HMN.out
        obtain ⟨i, hi⟩ : ∃ i, is[k]? = some i := ⟨is[k]'(by omega), List.getElem?_eq_some_iff.2 ⟨_, rfl⟩⟩
        have hri : q.items[k]? = some (i.1, i.2.1) := by rw [← HQ.out]; unfold rsI; rw [List.getElem?_map, hi]; rfl
        obtain ⟨z1, z2, z3⟩ := HSM.out.2.1 _ (List.mem_of_getElem? hri)
        rcases id HI.out with ⟨e, _⟩ | ⟨b, o, c', e, _, hrun⟩
        · rw [e] at hlen; simp at hlen; omega
        obtain ⟨rfl, hmm, rfl⟩ : ia = some ⟨b, o, none⟩ ∧ m = is.length ∧ ic = c' := by simpa using e
        clear hmm e
        have HBR := hide (below_two HB2.out hbl.out)
        obtain ⟨ra, rn, rc, ta, tn, tc, q0, q1, q2, q3, _⟩ := (hrun.2 k i hi).below HBR.out
        have HRI := hide hri
        have hki : (k : Int) < (m : Int) := by omega
        obtain ⟨W2, hW2⟩ : ∃ W, W = wr.alloc (.cells #[.string i.1, .slice ra rn rc, .slice ta tn tc] 47) := ⟨_, rfl⟩
        have HBX : Hid (Below wr.heap.size wr W2) := by rw [hW2]; exact below_box _ _
        have hszx : wr.heap.size < W2.heap.size := by rw [hW2]; simp
        have g0 : W2.cell? ⟨wr.heap.size, 0, none⟩ = some (.string i.1) := by rw [hW2]; simp
        have g1 : W2.cell? ⟨wr.heap.size, 1, none⟩ = some (.slice ra rn rc) := by rw [hW2]; simp
        have HW2 := hide hW2.symm
        have HR2 : Hid (∀ W', Below W2.heap.size W2 W' → Txt W' (.slice ra rn rc) i.2.1) := fun W' h => (q3.below HBX.out).below h
        obtain ⟨u1, hu1⟩ : ∃ t, Hog.mk (Hog.linesW (Hog.wordM 2) [i.1]) = t := ⟨_, rfl⟩
        obtain ⟨u2, hu2⟩ : ∃ t, Hog.mk (Hog.linesW (Hog.wordM 3) i.2.1) = t := ⟨_, rfl⟩
        have hs1 : u1.size ≤ 49 := by
          rw [← hu1, Hog.mk_size]
          have := Hog.linesW_len (w := Hog.wordM 2) (xs := [i.1]) (by decide) (fun x hx => by rw [List.mem_singleton.1 hx]; exact z1)
          simp at this; omega
        have hs2 : u2.size ≤ 400 := by
          rw [← hu2, Hog.mk_size]
          have := Hog.linesW_len (w := Hog.wordM 3) (xs := i.2.1) (by decide) z3
          have h9 : i.2.1.length ≤ 8 := z2
          omega
        have HC3 : Hid (∀ (W' : World) (a : Value), Txt W' a [i.1] → Calls Tryz.prog 23 #[.string ⟨#[105, 116, 101, 109, 32]⟩, a] W' fun e w' => e = .returned (.string u1) ∧ w' = W') := fun W' a h =>
          lines_ok (Hog.wordM 2) a [i.1] u1 W' h (by decide) (by simp) (fun x hx => by rw [List.mem_singleton.1 hx]; exact z1) hu1
        have HC4 : Hid (∀ (W' : World), Txt W' (.slice ra rn rc) i.2.1 → Calls Tryz.prog 23 #[.string ⟨#[114, 101, 102, 32]⟩, .slice ra rn rc] W' fun e w' => e = .returned (.string u2) ∧ w' = W') := fun W' h =>
          lines_ok (Hog.wordM 3) _ i.2.1 u2 W' h (by decide) z2 z3 hu2
        have HU1 := hide hu1
        have HU2 := hide hu2
        have HZZ := hide (And.intro z2 z3)
        clear hi hri q3 hW2 hu1 hu2 z1 z2 z3 hrun hlen
        go_upto_region 7 with fail
        rw [HW2.out]
        have n0 : u1.size + u2.size ≤ 500 := by omega
        have n1 : J.length + (u1.size + u2.size) ≤ 5000 := by omega
        have HJ2 : Hid (Hog.mk J ++ (u1 ++ u2) = Hog.mk (J ++ Hog.itemL (i.1, i.2.1))) := by
          rw [← HU1.out, ← HU2.out, mk_app, mk_app]; exact rfl
        have HB3 := hide (below_two hbl.out (HBX.out.trans (((Below.refl W2.heap.size W2).alloc (Nat.le_refl _) (.cells #[.string i.1] 9)).drew.mono HBX.out.size)))
        go_region_with (first
          | (go_at_call 23; with_reducible refine (HC3.out _ _ ?h).mono ?_; (case h => first | exact (txt_one _ _).drewT); rintro e w' ⟨rfl, rfl⟩)
          | (go_at_call 23; with_reducible refine (HC4.out _ ?h).mono ?_; (case h => first | exact HR2.out _ (Below.refl _ _).drew | exact HR2.out _ ((Below.refl _ _).alloc (Nat.le_refl _) _).drew); rintro e w' ⟨rfl, rfl⟩))
        all_goals
          rw [HJ2.out]
          go_wp2
          go_roundw
          case rel =>
            refine ⟨k + 1, J ++ Hog.itemL (i.1, i.2.1), by omega, by go_num, rfl, ?_, ?_, HB3⟩
            · have h1 : (q.items.take (k + 1)).flatMap Hog.itemL = (q.items.take k).flatMap Hog.itemL ++ Hog.itemL (i.1, i.2.1) := items_step HRI.out
              have h2 : T0 ++ (q.items.take (k + 1)).flatMap Hog.itemL = J ++ Hog.itemL (i.1, i.2.1) := by rw [hJ.out, h1, List.append_assoc]
              exact h2.symm
            · have h1 : (Hog.itemL (i.1, i.2.1)).length = u1.size + u2.size := by
                rw [← HU1.out, ← HU2.out, Hog.mk_size, Hog.mk_size]; unfold Hog.itemL; rw [List.length_append]
              rw [List.length_append, h1]
              omega
          case measure => simp [intOf]; omega
      · obtain rfl : k = m := by omega
        have hkd : (k : Int) ≤ (k : Int) := Int.le_refl _
        have f2 := (hbl.out.cell (p := ⟨w.heap.size, 2, none⟩) hszc).trans e2
        have HP3 := hide (HP.out.below (below_two HB2.out hbl.out))
        obtain ⟨u3, hu3⟩ : ∃ t, Hog.mk (Hog.linesW (Hog.wordM 4) q.prof) = t := ⟨_, rfl⟩
        have hs3 : u3.size ≤ 400 := by
          rw [← hu3, Hog.mk_size]
          have := Hog.linesW_len (w := Hog.wordM 4) (xs := q.prof) (by decide) HSM.out.2.2.2.1
          have h9 := HSM.out.2.2.1
          omega
        have HC5 : Hid (∀ (W' : World), Txt W' (.slice pa n pc) q.prof → Calls Tryz.prog 23 #[.string ⟨#[112, 114, 111, 102, 105, 108, 101, 32]⟩, .slice pa n pc] W' fun e w' => e = .returned (.string u3) ∧ w' = W') := fun W' h =>
          lines_ok (Hog.wordM 4) _ q.prof u3 W' h (by decide) HSM.out.2.2.1 HSM.out.2.2.2.1 hu3
        have HEND : Hid (Hog.mk J ++ u3 = Hog.mk (Hog.layM q)) := by
          have h1 : q.items.take k = q.items := List.take_of_length_le (by rw [← HQ.out]; unfold rsI; rw [List.length_map, HMN.out]; exact Nat.le_refl _)
          have h2 := hJ.out
          rw [h1, HT0.out] at h2
          rw [← hu3, mk_app, Hog.lay_parts, h2]; exact rfl
        clear hu3
        go_wp2_with fail
        refine (HC5.out _ HP3.out).mono ?_
        rintro e w5 ⟨rfl, rfl⟩
        go_wp2
        go_ret2
        exact ⟨by rw [HEND.out]; rfl, HOK2.out.next hbl.out, below_two HB2.out hbl.out⟩
/-- What Lay answers. -/
def layV (q : Hog.RegP) : ByteArray := if mayR q = true then Hog.mk (Hog.layM q) else ⟨#[]⟩
def layE (q : Hog.RegP) : Int := if mayR q = true then 0 else 2
theorem lay_ok (q : Hog.RegP) (is : List It) (u v : Value) (t : ByteArray) (z : Int) (w0 w : World) (hok : Ok w0 w) (hf : FairP q) (hi : Its w u is) (hq : rsI is = q.items) (hp : Txt w v q.prof) (ht : layV q = t) (hz : layE q = z) :
    Calls Tryz.prog 9 #[.agg #[.string q.pre, u, v, .int .i64 q.pol]] w fun e w' => e = .returned (.tuple #[.string t, .int .i64 z]) ∧ Ok w0 w' ∧ Below w.heap.size w w' := by
  subst ht hz
  unfold layV layE
  cases h : mayR q with
  | true => exact layYes_ok q is u v w0 w hok hf hi hq hp h
  | false => exact layNo_ok q is u v w0 w hok hf hi hq hp h
end Go.Proofs.YtmlkknbndglgaaaGreatDoor
