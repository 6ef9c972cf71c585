/- The walk of package reg's Read. -/
import Derived.Test.YtmlkknbndglgaaaGreatDoorJ19
import Derived.Laws.EntriesVeiled
namespace Go.Proofs.YtmlkknbndglgaaaGreatDoor
open Go.RowKit Go.Shelf

attribute [local go_sem] Oper.semAt_some

/-- What Read answers. -/
def ReadsP (s : ByteArray) (w0 w w' : World) (e : Ending) : Prop := ∃ (q : Hog.RegP) (z : Int) (ps : List Pr) (u v : Value) (D : Nat), e = .returned (.tuple #[.agg #[.string q.pre, u, v, .int .i64 q.pol], .int .i64 z]) ∧ Told s.data.toList q z ∧ RowsR D w' ps u v q.items q.prof ∧ w.heap.size ≤ D ∧ Ok w0 w' ∧ Below w.heap.size w w'

theorem struct_pack : Tryz.prog.underlying 25 = some (.struct (Tryz.prog.fieldsOf 25)) := by kernel_rfl
theorem size_of_pack : (Tryz.prog.info? 25).map (·.size) = some 4 := by kernel_rfl
theorem results_pack {fn : Func} {q u : Tmp} (h : fn.results = #[.cell q 25, .tmp u]) (tmps : Array Value) (w : World) (g : Nat) (pre : ByteArray) (x y : Value) (pol : Int) (hp : tmps.getD q undef = .pointer (some ⟨g, 0, none⟩)) (hg : BoxP w g 25 pre x y pol) :
    (results fn tmps).run Tryz.prog w = .ok (.tuple #[.agg #[.string pre, x, y, .int .i64 pol], tmps.getD u undef]) w := by
  rw [results_cell_tmp h, hp]
  simp [asAddr, Result.andThen, run_loadVar_row w g 25 25 _ (0, 0) _ hg struct_pack rfl size_of_pack]
theorem maker_lines (s : ByteArray) (w : World) :
    Calls Tryz.prog 39 #[.string s] w fun e w' => e = .returned (.func (.func 57) #[] #[.pointer (some ⟨w.heap.size, 0, none⟩)]) ∧ w' = w.alloc (.cells #[.string s] 9) := by
  go_enter Tryz.func39, Tryz.ntmps39
  go_wp2
  go_ret
  exact ⟨rfl, rfl⟩
theorem e0 : ∀ args w, (callFunc 34 args).run Tryz.prog w = .ok (.enter 34 args) w := enters_of Tryz.func34 (by kernel_rfl) rfl
theorem e1 : ∀ args w, (callFunc 35 args).run Tryz.prog w = .ok (.enter 35 args) w := enters_of Tryz.func35 (by kernel_rfl) rfl
theorem e2 : ∀ args w, (callFunc 36 args).run Tryz.prog w = .ok (.enter 36 args) w := enters_of Tryz.func36 (by kernel_rfl) rfl
theorem e3 : ∀ args w, (callFunc 37 args).run Tryz.prog w = .ok (.enter 37 args) w := enters_of Tryz.func37 (by kernel_rfl) rfl
theorem e4 : ∀ args w, (callFunc 38 args).run Tryz.prog w = .ok (.enter 38 args) w := enters_of Tryz.func38 (by kernel_rfl) rfl
/-- The table of the kinds. -/
def kindCells (g : Nat) : Array Value := #[.string ⟨#[112, 114, 101, 102, 105, 120, 32]⟩, .func (.func 34) #[.pointer (some ⟨g, 0, none⟩)] #[], .string ⟨#[112, 111, 108, 105, 99, 121, 32]⟩, .func (.func 35) #[.pointer (some ⟨g, 0, none⟩)] #[], .string ⟨#[105, 116, 101, 109, 32]⟩, .func (.func 36) #[.pointer (some ⟨g, 0, none⟩)] #[], .string ⟨#[114, 101, 102, 32]⟩, .func (.func 37) #[.pointer (some ⟨g, 0, none⟩)] #[], .string ⟨#[112, 114, 111, 102, 105, 108, 101, 32]⟩, .func (.func 38) #[.pointer (some ⟨g, 0, none⟩)] #[]]
/-- A registration's cells, stored. -/
def setP (w : World) (g : Nat) (pre : ByteArray) (u v : Value) (pol : Int) : World := (((w.setCell ⟨g, 0, none⟩ (.string pre)).setCell ⟨g, 1, none⟩ u).setCell ⟨g, 2, none⟩ v).setCell ⟨g, 3, none⟩ (.int .i64 pol)
theorem setP_grown (w : World) (g : Nat) (pre : ByteArray) (u v : Value) (pol : Int) : w.grownBy (setP w g pre u v pol) (some g) :=
  grown_trans (grown_setCell w g 0 _) (grown_trans (grown_setCell _ g 1 _) (grown_trans (grown_setCell _ g 2 _) (grown_setCell _ g 3 _)))
theorem BoxP.stored {w : World} {g : Nat} {ty : TypeId} {pre : ByteArray} {u v : Value} {pol : Int} (h : BoxP w g ty pre u v pol) (pre' : ByteArray) (u' v' : Value) (pol' : Int) : BoxP (setP w g pre' u' v' pol') g ty pre' u' v' pol' :=
  (((h.set0 pre').set1 u').set2 v').set3 pol'
/-- The kinds, each by its method: what is put. -/
theorem meth_ok (w : World) (g D : Nat) (st : Hog.RegP) (y : ByteArray) (hgD : g < D) {M : Nat} (h : RdP 58 w g D st) (hb : BoundM st 1000 M) (hy : y.size < 900000) (hE : Errs w) :
    (Calls Tryz.prog 34 #[.pointer (some ⟨g, 0, none⟩), .string y] w fun e w' => e = .returned (.tuple #[]) ∧ RdP 58 w' g D (Hog.putM polF 0 st y) ∧ FrG g D w w') ∧
    (Calls Tryz.prog 35 #[.pointer (some ⟨g, 0, none⟩), .string y] w fun e w' => e = .returned (.tuple #[]) ∧ RdP 58 w' g D (Hog.putM polF 1 st y) ∧ FrG g D w w') ∧
    (Calls Tryz.prog 36 #[.pointer (some ⟨g, 0, none⟩), .string y] w fun e w' => e = .returned (.tuple #[]) ∧ RdP 58 w' g D (Hog.putM polF 2 st y) ∧ FrG g D w w') ∧
    (Calls Tryz.prog 37 #[.pointer (some ⟨g, 0, none⟩), .string y] w fun e w' => e = .returned (.tuple #[]) ∧ RdP 58 w' g D (Hog.putM polF 3 st y) ∧ FrG g D w w') ∧
    (Calls Tryz.prog 38 #[.pointer (some ⟨g, 0, none⟩), .string y] w fun e w' => e = .returned (.tuple #[]) ∧ RdP 58 w' g D (Hog.putM polF 4 st y) ∧ FrG g D w w') :=
  ⟨mprefix_ok w g D st y hgD h, mpolicy_ok w g D st y hgD h hy hE, mitem_ok w g D st y hgD h (by have := hb.len; omega), mref_ok polF w g D st y hgD h (by have := hb.len; omega) (fun i hi => by have := (hb.item i hi).2.1; omega), mprofile_ok w g D st y hgD h (by have := hb.plen; omega)⟩

set_option maxRecDepth 100000 in
set_option maxHeartbeats 8000000 in
theorem read_ok (s : ByteArray) (w0 w : World) (hok : Ok w0 w) (hE : Errs w0) (hs : s.size < 900000) :
    Calls Tryz.prog 15 #[.string s] w fun e w' => ReadsP s w0 w w' e := by
  have HOK := hide hok
  have HE := hide hE
  obtain ⟨n, hn⟩ : ∃ n, s.data.toList.count 10 = n := ⟨_, rfl⟩
  have HN := hide hn
  clear hok hE hn
  refine (callsIn_wide (n := 3)).1 ?_
  refine callsIn_of_wp_marks Tryz.func15 rfl trivial ?_ rfl
  simp only [Tryz.ntmps15, List.size_toArray, List.length_cons, List.length_nil, Nat.reduceAdd, Nat.reduceSub, Array.replicate_succ, Array.replicate_zero, List.push_toArray, List.append_toArray, List.nil_append, List.cons_append]
  by_cases hmany : 82 < n
  · have hmi : (82 : Int) < (n : Int) := by omega
    gi_wp2_with (refine ⟨trivial, ?_⟩; gi_at_call 33; refine (callsIn_wide.2 (count_ok s n _ HN.out)).mono ?_; rintro e w1 ⟨rfl, rfl⟩)
    have hbl : Below w.heap.size w (w.alloc (.cells #[.string ⟨#[]⟩, .slice none 0 0, .slice none 0 0, .int .i64 0] 25)) := below_box _ _
    refine ⟨_, results_pack rfl _ _ w.heap.size ⟨#[]⟩ (.slice none 0 0) (.slice none 0 0) 0 rfl (BoxP.made w _ _ _ _ _), ?_⟩
    refine ⟨Hog.noneM, 5, [], .slice none 0 0, .slice none 0 0, w.heap.size, rfl, .inr ⟨rfl, rfl, fun r hr e => ?_⟩, RowsR.nil _ _ hbl.size, Nat.le_refl _, HOK.out.next hbl, hbl⟩
    have h1 := mayR_count hr
    rw [e, HN.out] at h1
    omega
  · have hmi : (n : Int) ≤ 82 := by omega
    gi_wp2_with (first
      | (refine ⟨trivial, ?_⟩; gi_at_call 33; refine (callsIn_wide.2 (count_ok s n _ HN.out)).mono ?_; rintro e w1 ⟨rfl, rfl⟩)
      | (refine ⟨trivial, ?_⟩; gi_at_call 39; refine (callsIn_wide.2 (maker_lines s _)).mono ?_; rintro e w1 ⟨rfl, rfl⟩))
    obtain ⟨g, hg⟩ : ∃ g, w.heap.size + 1 = g := ⟨_, rfl⟩
    obtain ⟨W0, hW0⟩ : ∃ W0, ((((w.alloc (.cells #[.string ⟨#[]⟩, .slice none 0 0, .slice none 0 0, .int .i64 0] 25)).alloc (.cells #[.string ⟨#[]⟩, .slice none 0 0, .slice none 0 0, .int .i64 0] 58)).alloc (.cells (kindCells g) 60)).alloc (.cells #[.slice (some ⟨g + 1, 0, none⟩) 5 5] 61)).alloc (.cells #[.string s] 9) = W0 := ⟨_, rfl⟩
    have hW1 := hW0
    unfold kindCells at hW1
    simp only [hg]
    rw [hW1]
    obtain ⟨V1, hV1⟩ : ∃ V, w.alloc (.cells #[.string ⟨#[]⟩, .slice none 0 0, .slice none 0 0, .int .i64 0] 25) = V := ⟨_, rfl⟩
    rw [hV1] at hW0
    obtain ⟨V2, hV2⟩ : ∃ V, V1.alloc (.cells #[.string ⟨#[]⟩, .slice none 0 0, .slice none 0 0, .int .i64 0] 58) = V := ⟨_, rfl⟩
    rw [hV2] at hW0
    obtain ⟨V3, hV3⟩ : ∃ V, V2.alloc (.cells (kindCells g) 60) = V := ⟨_, rfl⟩
    rw [hV3] at hW0
    obtain ⟨V4, hV4⟩ : ∃ V, V3.alloc (.cells #[.slice (some ⟨g + 1, 0, none⟩) 5 5] 61) = V := ⟨_, rfl⟩
    rw [hV4] at hW0
    have z1 : V1.heap.size = g := by rw [← hV1, World.size_alloc, hg]
    have z2 : V2.heap.size = g + 1 := by rw [← hV2, World.size_alloc, z1]
    have z3 : V3.heap.size = g + 1 + 1 := by rw [← hV3, World.size_alloc, z2]
    have z4 : V4.heap.size = g + 1 + 1 + 1 := by rw [← hV4, World.size_alloc, z3]
    have z5 : W0.heap.size = g + 4 := by rw [← hW0, World.size_alloc, z4]
    have y0 : Below w.heap.size w V1 := by rw [← hV1]; exact below_box _ _
    have y1 : Below V1.heap.size V1 V2 := by rw [← hV2]; exact below_box _ _
    have y2 : Below V2.heap.size V2 V3 := by rw [← hV3]; exact below_box _ _
    have y3 : Below V3.heap.size V3 V4 := by rw [← hV4]; exact below_box _ _
    have y4 : Below V4.heap.size V4 W0 := by rw [← hW0]; exact below_box _ _
    have HB0 := hide (below_two y0 (below_two y1 (below_two y2 (below_two y3 y4))))
    have HBR : Hid (BoxP W0 w.heap.size 25 ⟨#[]⟩ (.slice none 0 0) (.slice none 0 0) 0) := by
      have h : BoxP V1 w.heap.size 25 ⟨#[]⟩ (.slice none 0 0) (.slice none 0 0) 0 := by rw [← hV1]; exact BoxP.made _ _ _ _ _ _
      exact h.below (below_two y1 (below_two y2 (below_two y3 y4)))
    have HBG : Hid (BoxP W0 g 58 ⟨#[]⟩ (.slice none 0 0) (.slice none 0 0) 0) := by
      have h : BoxP V2 g 58 ⟨#[]⟩ (.slice none 0 0) (.slice none 0 0) 0 := by rw [← hV2, ← z1]; exact BoxP.made _ _ _ _ _ _
      exact h.below (below_two y2 (below_two y3 y4))
    have HBK : Hid (W0.heap[g + 1]? = some (.cells (kindCells g) 60 (0, 0))) := by
      have h : V3.heap[g + 1]? = some (.cells (kindCells g) 60 (0, 0)) := by rw [← hV3, ← z2]; exact heap_alloc_new _ _
      exact ((below_two y3 y4).block (g + 1) (by omega)).trans h
    have HBC : Hid (W0.heap[g + 1 + 1]? = some (.cells #[.slice (some ⟨g + 1, 0, none⟩) 5 5] 61 (0, 0))) := by
      have h : V4.heap[g + 1 + 1]? = some (.cells #[.slice (some ⟨g + 1, 0, none⟩) 5 5] 61 (0, 0)) := by rw [← hV4, ← z3]; exact heap_alloc_new _ _
      exact (y4.block (g + 1 + 1) (by omega)).trans h
    have hBS : Boxed W0 (g + 1 + 1 + 1) 9 (.string s) := by rw [← hW0, ← z4]; exact Boxed.new _ _ _
    have HG := hide hg
    clear hW0 hW1 hV1 hV2 hV3 hV4 z1 z2 z3 z4 y0 y1 y2 y3 y4
    refine wpIn_lines rfl (by omega) (gf := 57) (lb := #[.pointer (some ⟨g + 1 + 1 + 1, 0, none⟩)]) rfl trivial (enters_of Tryz.func57 (by kernel_rfl) rfl) (B := g + 1 + 1 + 1) (by omega) (lines_seq (3 - 1) (by omega) (g + 1 + 1 + 1) s (by omega) W0 hBS) rfl
      (fun pre W => RdP 58 W g (g + 4) (readB pre) ∧ FrL g (g + 3) W0 W) ?own ?box ?start ?round ?done
    case own =>
      rintro pre A C row ⟨⟨ps, u, v, hb, hr⟩, hf⟩ hgr hrow
      refine ⟨⟨ps, u, v, hb.kept hgr (fun e => by have := (hrow g e.symm).1; omega), hr.notCells hgr (fun r e => (hrow r e).2)⟩, hf.grown hgr (by omega) (by have := hr.low; omega) (fun k e => by have := (hrow k e).1; omega)⟩
    case box =>
      rintro pre A C ⟨⟨ps, u, v, hb, hr⟩, hf⟩ hgr
      exact ⟨⟨ps, u, v, hb.kept hgr (fun e => by have := Option.some.inj e; omega), hr.kept hgr (fun k e => by have := Option.some.inj e; omega)⟩, hf.grown hgr (by omega) (by have := hr.low; omega) (fun k e => by have := Option.some.inj e; omega)⟩
    case start => exact ⟨⟨[], _, _, HBG.out, RowsR.nil _ _ (by omega)⟩, Below.refl _ _, fun _ _ _ => rfl⟩
    case done =>
      rintro D W hD ⟨hrd, hfr⟩ hK
      obtain ⟨st, hst⟩ : ∃ st, readB (linesB s) = st := ⟨_, rfl⟩
      rw [hst] at hrd
      obtain ⟨ps, u, v, hbx, hrw⟩ := hrd
      have hbnd : BoundM st (5 * (linesB s).length) s.size := by rw [← hst]; exact readB_bound _ _ rfl (linesB_size s)
      have hln := linesB_len s
      rw [HN.out] at hln
      have HFP := hide (hbnd.fair (by omega) hs)
      have HTD := hide (told_of (s := s.data.toList) (st := st) fun r hr e => by
        rw [← hst, readB_is, ← e]
        exact Hog.readP_lay (mayR_noten hr) (dig_of (mayR_iff.1 hr).2.1 polF_zero polF_one))
      have hlow := hrw.low
      have HBW := hide (HB0.out.trans (hfr.1.mono (by have := HG.out; omega)))
      have hrs : BoxP W w.heap.size 25 ⟨#[]⟩ (.slice none 0 0) (.slice none 0 0) 0 := by
        have h := hfr.1.block w.heap.size (by have := HG.out; omega)
        unfold BoxP
        rw [h]; exact HBR.out
      have hwsz : w.heap.size < W.heap.size := hrs.facts.2.2
      obtain ⟨t, ht⟩ : ∃ t, layV st = t := ⟨_, rfl⟩
      obtain ⟨z, hz⟩ : ∃ z, layE st = z := ⟨_, rfl⟩
      have HL := hide (lay_ok st (itsOf ps) u v t z w0 W (HOK.out.next HBW.out) HFP.out hrw.its (by rw [← hrw.names]; unfold rsI itsOf; rw [List.map_map]; rfl) hrw.txt ht hz)
      obtain ⟨ua, uc, hu⟩ := hrw.own.form
      obtain ⟨va, vc, hv⟩ := hrw.prf.form
      obtain ⟨un, hun⟩ : ∃ k, ps.length = k := ⟨_, rfl⟩
      obtain ⟨vn, hvn⟩ : ∃ k, st.prof.length = k := ⟨_, rfl⟩
      rw [hun] at hu
      rw [hvn] at hv
      subst hu hv
      have HBX := hide hbx
      have HRW := hide hrw
      have HRS := hide hrs
      have HT := hide ht
      have HZ := hide hz
      obtain ⟨⟨c0, c1, c2, c3⟩, _, hlt⟩ := hbx.facts
      clear hst hbx hrw hbnd hln hrs ht hz hun hvn hfr
      gi_wp2_with (refine ⟨trivial, ?_⟩; gi_at_call 9; refine (callsIn_wide.2 HL.out).mono ?_; rintro e W5 ⟨rfl, ok5, hb5⟩; refine Hid.out ?_)
      refine Lib.hid ?_
      have HOK5 := hide ok5
      have HBX5 := hide (HBX.out.below hb5)
      have HRW5 := hide (HRW.out.below hb5)
      have HRS5 := hide (HRS.out.below hb5)
      have HBW5 := hide (below_two HBW.out hb5)
      have hK5 : W5.heap[D]? = some (.deferred (some [])) := (hb5.block D (Array.getElem?_eq_some_iff.1 hK).1).trans hK
      obtain ⟨⟨k0, k1, k2, k3⟩, _, _⟩ := HBX5.out.facts
      obtain ⟨⟨r0, r1, r2, r3⟩, ⟨f0, f1, f2, f3⟩, hrl⟩ := HRS5.out.facts
      have hDw : w.heap.size < D := by have := HG.out; omega
      have HFIN : Hid (∀ (W6 : World), Below w.heap.size W5 W6 → W6.heap[D]? = some (.deferred (some [])) → Below w.heap.size w (W6.putObj D (.deferred none)) ∧ Ok w0 (W6.putObj D (.deferred none))) := fun W6 h6 hD6 => by
        have h := (HBW5.out.trans h6).trans (belowK_b (w := w) (Nat.le_refl _) W6 D (.deferred (some [])) (.deferred none) (by omega) hD6 rfl rfl)
        exact ⟨h, HOK.out.next h⟩
      clear hb5 ok5 hK c0 c1 c2 c3 hlt HL HBW HBX HRW HRS
      by_cases hgood : mayR st = true ∧ Hog.layM st = s.data.toList
      · have hz0 : z = 0 := by have := HZ.out; unfold layE at this; rw [if_pos hgood.1] at this; exact this.symm
        have htq : (t.toList == s.toList) = true := by
          have := HT.out
          unfold layV at this
          rw [if_pos hgood.1] at this
          rw [← this, Hog.mk_toList, hgood.2, Lib.toList_data, beq_iff_eq]
        have HTD2 := hide (HTD.out.1 hgood)
        subst hz0
        clear hgood
        have hgw := setP_grown W5 w.heap.size st.pre (.slice ua un uc) (.slice va vn vc) st.pol
        have hbp := HRS5.out.stored st.pre (.slice ua un uc) (.slice va vn vc) st.pol
        have hbl6 := (Below.refl w.heap.size W5).grown hgw (by have := HBW5.out.size; omega) (fun k e => by cases e; exact Nat.le_refl _)
        have hK6 := (hgw.block D (Array.getElem?_eq_some_iff.1 hK5).1 (fun e => by have := Option.some.inj e; omega)).trans hK5
        obtain ⟨b6, o6⟩ := HFIN.out _ hbl6 hK6
        have hgr := grownBy_putObj' (setP W5 w.heap.size st.pre (.slice ua un uc) (.slice va vn vc) st.pol) D (.deferred none)
        have hrows := (HRW5.out : RowsR (g + 4) W5 ps (.slice ua un uc) (.slice va vn vc) st.items st.prof).kept hgw (fun k e => by cases e; have := HG.out; omega)
        gi_wp2
        refine ⟨by simp, .inl ⟨_, _, rfl, run_takeDeferred hK6, ?_⟩⟩
        refine ⟨_, results_pack rfl _ _ w.heap.size st.pre (.slice ua un uc) (.slice va vn vc) st.pol rfl (hbp.kept hgr (fun e => by have := Option.some.inj e; omega)), ?_⟩
        exact ⟨st, 0, ps, (.slice ua un uc), (.slice va vn vc), g + 4, rfl, HTD2.out, hrows.notCells hgr (fun r e => by cases e; exact ⟨_, hK6, rfl⟩), by have := HG.out; omega, o6, b6⟩
      · have HTD2 := hide (HTD.out.2 hgood)
        cases hm : mayR st with
        | false =>
          have hz2 : z = 2 := by have := HZ.out; unfold layE at this; rw [hm] at this; exact this.symm
          subst hz2
          clear hgood hm
          have hgw := setP_grown W5 w.heap.size ⟨#[]⟩ (.slice none 0 0) (.slice none 0 0) 0
          have hbp := HRS5.out.stored ⟨#[]⟩ (.slice none 0 0) (.slice none 0 0) 0
          have hbl6 := (Below.refl w.heap.size W5).grown hgw (by have := HBW5.out.size; omega) (fun k e => by cases e; exact Nat.le_refl _)
          have hK6 := (hgw.block D (Array.getElem?_eq_some_iff.1 hK5).1 (fun e => by have := Option.some.inj e; omega)).trans hK5
          obtain ⟨b6, o6⟩ := HFIN.out _ hbl6 hK6
          have hgr := grownBy_putObj' (setP W5 w.heap.size ⟨#[]⟩ (.slice none 0 0) (.slice none 0 0) 0) D (.deferred none)
          have hrows := (RowsR.nil _ _ HRW5.out.low : RowsR (g + 4) W5 [] (.slice none 0 0) (.slice none 0 0) Hog.noneM.items Hog.noneM.prof).kept hgw (fun k e => by cases e; have := HG.out; omega)
          gi_wp2
          refine ⟨by simp, .inl ⟨_, _, rfl, run_takeDeferred hK6, ?_⟩⟩
          refine ⟨_, results_pack rfl _ _ w.heap.size ⟨#[]⟩ (.slice none 0 0) (.slice none 0 0) 0 rfl (hbp.kept hgr (fun e => by have := Option.some.inj e; omega)), ?_⟩
          exact ⟨Hog.noneM, 5, [], (.slice none 0 0), (.slice none 0 0), g + 4, rfl, HTD2.out, hrows.notCells hgr (fun r e => by cases e; exact ⟨_, hK6, rfl⟩), by have := HG.out; omega, o6, b6⟩
        | true =>
          have hz2 : z = 0 := by have := HZ.out; unfold layE at this; rw [if_pos hm] at this; exact this.symm
          have htq : (t.toList == s.toList) = false := by
            have := HT.out
            unfold layV at this
            rw [if_pos hm] at this
            rw [← this, Hog.mk_toList, Lib.toList_data, beq_eq_false_iff_ne]
            exact fun e => hgood ⟨hm, e⟩
          subst hz2
          clear hgood hm
          have hgw := setP_grown W5 w.heap.size ⟨#[]⟩ (.slice none 0 0) (.slice none 0 0) 0
          have hbp := HRS5.out.stored ⟨#[]⟩ (.slice none 0 0) (.slice none 0 0) 0
          have hbl6 := (Below.refl w.heap.size W5).grown hgw (by have := HBW5.out.size; omega) (fun k e => by cases e; exact Nat.le_refl _)
          have hK6 := (hgw.block D (Array.getElem?_eq_some_iff.1 hK5).1 (fun e => by have := Option.some.inj e; omega)).trans hK5
          obtain ⟨b6, o6⟩ := HFIN.out _ hbl6 hK6
          have hgr := grownBy_putObj' (setP W5 w.heap.size ⟨#[]⟩ (.slice none 0 0) (.slice none 0 0) 0) D (.deferred none)
          have hrows := (RowsR.nil _ _ HRW5.out.low : RowsR (g + 4) W5 [] (.slice none 0 0) (.slice none 0 0) Hog.noneM.items Hog.noneM.prof).kept hgw (fun k e => by cases e; have := HG.out; omega)
          gi_wp2
          refine ⟨by simp, .inl ⟨_, _, rfl, run_takeDeferred hK6, ?_⟩⟩
          refine ⟨_, results_pack rfl _ _ w.heap.size ⟨#[]⟩ (.slice none 0 0) (.slice none 0 0) 0 rfl (hbp.kept hgr (fun e => by have := Option.some.inj e; omega)), ?_⟩
          exact ⟨Hog.noneM, 5, [], (.slice none 0 0), (.slice none 0 0), g + 4, rfl, HTD2.out, hrows.notCells hgr (fun r e => by cases e; exact ⟨_, hK6, rfl⟩), by have := HG.out; omega, o6, b6⟩
    case round =>
      rintro l pre x post W hls _
      gi_wp2
      refine ⟨trivial, ?_⟩
      rintro W2 ⟨hrd, hfr⟩
      have hc2 : W2.cell? ⟨g + 1 + 1, 0, none⟩ = some (.slice (some ⟨g + 1, 0, none⟩) 5 5) := by
        have h := (hfr.2 (g + 1 + 1) (by omega) (by omega)).trans HBC.out
        rw [cell_of_row W2 (g + 1 + 1) 0 _ _ (0, 0) h]; rfl
      have HRD := hide hrd
      have HFR := hide hfr
      have hlen : pre.length + 1 ≤ 83 := by
        have h1 := linesB_len s
        rw [hls, HN.out, List.length_append, List.length_cons] at h1
        omega
      have HSZ : Hid (∀ y ∈ pre ++ [x], y.size ≤ s.size) := fun y hy => linesB_size s y (by
        rw [hls]
        rcases List.mem_append.1 hy with h | h
        · exact List.mem_append_left _ h
        · rw [List.mem_singleton.1 h]; exact List.mem_append_right _ List.mem_cons_self)
      have HXL : Hid (x.size < 900000) := by have := HSZ.out x (List.mem_append_right _ List.mem_cons_self); show _ < _; omega
      have HBM : Hid (∀ k, k ≤ 5 → BoundM (upK (readB pre) x.data.toList k) 1000 s.size) := fun k hk =>
        (upK_bound (readB_bound pre.length pre rfl fun y hy => HSZ.out y (List.mem_append_left _ hy)) x.data.toList (by rw [← Hog.size_len]; exact HSZ.out x (List.mem_append_right _ List.mem_cons_self)) k).more (by omega)
      have HER : Hid (∀ W', Below g W2 W' → Errs W') := fun W' hb =>
        HE.out.below (below_two HOK.out.2 (HB0.out.trans ((hfr.1.trans hb).mono (by have := HG.out; omega))))
      clear hrd hfr hls
      gi_wp2
      gi_loopw [8, 9, 10, 40] (fun _ _ _ i wr => ∃ k : Nat, k ≤ 5 ∧ i = .int .i64 k ∧ Hid (RdP 58 wr g (g + 4) (upK (readB pre) x.data.toList k)) ∧ Hid (FrG g (g + 4) W2 wr)) (fun _ _ _ i _ => 5 - (intOf i).toNat)
      case atStart => exact ⟨0, Nat.zero_le _, rfl, HRD, FrG.refl _ _ _⟩
      case round =>
        obtain ⟨k, hk, rfl, hrd, hfg⟩ := hrel
        by_cases hlt : k < 5
        · have hki : (k : Int) < 5 := by omega
          have HKC : Hid (∀ j : Nat, wr.cell? ⟨g + 1, j, none⟩ = (kindCells g)[j]?) := fun j => by
            have h := (hfg.out.low (g + 1) (by omega) (by omega)).trans ((HFR.out.2 (g + 1) (by omega) (by omega)).trans HBK.out)
            rw [cell_of_row wr (g + 1) j _ _ (0, 0) h]
          have HLO : Hid (g + 4 ≤ wr.heap.size) := by obtain ⟨_, _, _, _, h⟩ := hrd.out; exact h.low
          have hc : k = 0 ∨ k = 1 ∨ k = 2 ∨ k = 3 ∨ k = 4 := by omega
          rcases hc with rfl | rfl | rfl | rfl | rfl
          · have q0 : wr.cell? ⟨g + 1, 0, none⟩ = some (.string ⟨#[112, 114, 101, 102, 105, 120, 32]⟩) := by rw [HKC.out 0]; rfl
            have q1 : wr.cell? ⟨g + 1, 1, none⟩ = some (.func (.func 34) #[.pointer (some ⟨g, 0, none⟩)] #[]) := by rw [HKC.out 1]; rfl
            have hent := e0
            obtain ⟨r, hr⟩ : ∃ r : ByteArray, (⟨(Lib.trimPrefix x.data.toList (Hog.wordM 0)).toArray⟩ : ByteArray) = r := ⟨_, rfl⟩
            have HR := hide hr
            cases hp : Lib.hasPrefix x.data.toList (Hog.wordM 0) with
            | false =>
              have HP := hide hp
              clear hp hr
              gi_wp2_with (refine ⟨trivial, ?_⟩; gi_at_call 40; refine (CallsIn.inRound l (callsIn_wide.2 (cut_ok x ⟨#[112, 114, 101, 102, 105, 120, 32]⟩ r false _ HR.out HP.out))).mono ?_; rintro e w1 ⟨rfl, rfl⟩)
              gi_wp2
              go_roundw
              case rel => exact ⟨1, by omega, by go_num, by rw [upK_succ, kind_no HP.out]; exact hrd.out.below (below_box _ _), hfg.out.after (below_box _ _) HLO.out (by omega)⟩
              case measure => simp [intOf]
            | true =>
              have HP := hide hp
              have hrl : r.size ≤ x.size := by
                rw [← hr]; show (Lib.trimPrefix x.data.toList (Hog.wordM 0)).toArray.size ≤ _
                unfold Lib.trimPrefix
                rw [if_pos hp, List.size_toArray, List.length_drop, ← Hog.size_len]; omega
              obtain ⟨y, hy⟩ : ∃ y, Hog.mk (Hog.trimM r.data.toList) = y := ⟨_, rfl⟩
              have hyl : y.size ≤ x.size := by
                rw [← hy, Hog.mk_size]
                have := trim_le r.data.toList
                rw [← Hog.size_len] at this; omega
              have HY := hide hy
              have HRL : Hid (r.size < 900000) := by have := HXL.out; show _ < _; omega
              have HPUT : Hid (Hog.putM polF 0 (upK (readB pre) x.data.toList 0) y = upK (readB pre) x.data.toList 1) := by
                rw [show (1 : Nat) = 0 + 1 from rfl, upK_succ (readB pre) x.data.toList 0, kind_yes hp, ← hy, ← hr, show ((⟨(Lib.trimPrefix x.data.toList (Hog.wordM 0)).toArray⟩ : ByteArray)).data.toList = Lib.trimPrefix x.data.toList (Hog.wordM 0) from Hog.mk_data _]; exact rfl
              have HM : Hid (∀ W', Below wr.heap.size wr W' → Calls Tryz.prog 34 #[.pointer (some ⟨g, 0, none⟩), .string y] W' fun e w' => e = .returned (.tuple #[]) ∧ RdP 58 w' g (g + 4) (upK (readB pre) x.data.toList 1) ∧ FrG g (g + 4) W2 w') := fun W' hb => by
                refine ((meth_ok W' g (g + 4) _ y (by omega) (hrd.out.below hb) (HBM.out 0 (by omega)) (by have := HXL.out; omega) (HER.out W' (hfg.out.below.trans (hb.mono (by have := HLO.out; omega))))).1).mono ?_
                rintro e w' ⟨h1, h2, h3⟩
                rw [HPUT.out] at h2
                exact ⟨h1, h2, (hfg.out.after hb HLO.out (by omega)).trans h3⟩
              clear hp hr hy
              gi_wp2_with (refine ⟨trivial, ?_⟩; gi_at_call 40; refine (CallsIn.inRound l (callsIn_wide.2 (cut_ok x ⟨#[112, 114, 101, 102, 105, 120, 32]⟩ r true _ HR.out HP.out))).mono ?_; rintro e w1 ⟨rfl, rfl⟩)
              refine wpIn_region_any (by kernel_rfl) ?_
              change wpAnyIn _ _ _ _ _ _ _ _ _ (World.drew _)
              refine wpAnyIn_ready (rs := [0, 2]) (by kernel_rfl) (by simp) (AllReadyIn.cons rfl (fun K hK => ?_) (AllReadyIn.cons rfl (fun K hK => ?_) (AllReadyIn.nil)))
              · go_simp
                refine hK _ _ ?_
                clear hK K
                refine wpAnyIn_ready (rs := [1, 2]) (by kernel_rfl) (by simp) (AllReadyIn.cons rfl (fun K hK => ?_) (AllReadyIn.cons rfl (fun K hK => ?_) (AllReadyIn.nil)))
                · go_simp
                  refine hK _ _ ?_
                  clear hK K
                  refine wpAnyIn_ready (rs := [2]) (by kernel_rfl) (by simp) (AllReadyIn.cons rfl (fun K hK => ?_) (AllReadyIn.nil))
                  · go_simp
                    refine hK _ _ ?_
                    clear hK K
                    refine wpAnyIn_ready (rs := [3]) (by kernel_rfl) (by simp) (AllReadyIn.cons rfl (fun K hK => ?_) (AllReadyIn.nil))
                    · go_simp
                      refine ⟨trivial, ?_⟩
                      refine (CallsIn.inRound l (callsIn_wide.2 (trimS_ok r y _ HRL.out HY.out))).mono ?_
                      rintro e w4 ⟨rfl, rfl⟩
                      go_simp
                      refine hK _ _ ?_
                      clear hK K
                      refine wpAnyIn_ready (rs := [4]) (by kernel_rfl) (by simp) (AllReadyIn.cons rfl (fun K hK => ?_) (AllReadyIn.nil))
                      · go_simp
                        refine ⟨trivial, ?_⟩
                        refine (CallsIn.inRound l (callsIn_wide.2 (HM.out _ ?h))).mono ?_
                        case h => exact (below_box _ _).drew
                        rintro e w5 ⟨rfl, hrd4, hfg4⟩
                        have HRD4 := hide hrd4
                        have HFG4 := hide hfg4
                        clear hrd4 hfg4
                        go_simp
                        refine hK _ _ ?_
                        clear hK K
                        refine wpAnyIn_done (by kernel_rfl) ?_ _
                        gi_wp2
                        go_roundw
                        case rel => exact ⟨1, by omega, by go_num, HRD4, HFG4⟩
                        case measure => simp [intOf]
                · go_simp
                  refine hK _ _ ?_
                  clear hK K
                  refine wpAnyIn_ready (rs := [1, 3]) (by kernel_rfl) (by simp) (AllReadyIn.cons rfl (fun K hK => ?_) (AllReadyIn.cons rfl (fun K hK => ?_) (AllReadyIn.nil)))
                  · go_simp
                    refine hK _ _ ?_
                    clear hK K
                    refine wpAnyIn_ready (rs := [3]) (by kernel_rfl) (by simp) (AllReadyIn.cons rfl (fun K hK => ?_) (AllReadyIn.nil))
                    · go_simp
                      refine ⟨trivial, ?_⟩
                      refine (CallsIn.inRound l (callsIn_wide.2 (trimS_ok r y _ HRL.out HY.out))).mono ?_
                      rintro e w4 ⟨rfl, rfl⟩
                      go_simp
                      refine hK _ _ ?_
                      clear hK K
                      refine wpAnyIn_ready (rs := [4]) (by kernel_rfl) (by simp) (AllReadyIn.cons rfl (fun K hK => ?_) (AllReadyIn.nil))
                      · go_simp
                        refine ⟨trivial, ?_⟩
                        refine (CallsIn.inRound l (callsIn_wide.2 (HM.out _ ?h))).mono ?_
                        case h => exact (below_box _ _).drew
                        rintro e w5 ⟨rfl, hrd4, hfg4⟩
                        have HRD4 := hide hrd4
                        have HFG4 := hide hfg4
                        clear hrd4 hfg4
                        go_simp
                        refine hK _ _ ?_
                        clear hK K
                        refine wpAnyIn_done (by kernel_rfl) ?_ _
                        gi_wp2
                        go_roundw
                        case rel => exact ⟨1, by omega, by go_num, HRD4, HFG4⟩
                        case measure => simp [intOf]
                  · go_simp
                    refine ⟨trivial, ?_⟩
                    refine (CallsIn.inRound l (callsIn_wide.2 (trimS_ok r y _ HRL.out HY.out))).mono ?_
                    rintro e w4 ⟨rfl, rfl⟩
                    go_simp
                    refine hK _ _ ?_
                    clear hK K
                    refine wpAnyIn_ready (rs := [1]) (by kernel_rfl) (by simp) (AllReadyIn.cons rfl (fun K hK => ?_) (AllReadyIn.nil))
                    · go_simp
                      refine hK _ _ ?_
                      clear hK K
                      refine wpAnyIn_ready (rs := [4]) (by kernel_rfl) (by simp) (AllReadyIn.cons rfl (fun K hK => ?_) (AllReadyIn.nil))
                      · go_simp
                        refine ⟨trivial, ?_⟩
                        refine (CallsIn.inRound l (callsIn_wide.2 (HM.out _ ?h))).mono ?_
                        case h => exact (below_box _ _).drew
                        rintro e w5 ⟨rfl, hrd4, hfg4⟩
                        have HRD4 := hide hrd4
                        have HFG4 := hide hfg4
                        clear hrd4 hfg4
                        go_simp
                        refine hK _ _ ?_
                        clear hK K
                        refine wpAnyIn_done (by kernel_rfl) ?_ _
                        gi_wp2
                        go_roundw
                        case rel => exact ⟨1, by omega, by go_num, HRD4, HFG4⟩
                        case measure => simp [intOf]
              · go_simp
                refine hK _ _ ?_
                clear hK K
                refine wpAnyIn_ready (rs := [0, 3]) (by kernel_rfl) (by simp) (AllReadyIn.cons rfl (fun K hK => ?_) (AllReadyIn.cons rfl (fun K hK => ?_) (AllReadyIn.nil)))
                · go_simp
                  refine hK _ _ ?_
                  clear hK K
                  refine wpAnyIn_ready (rs := [1, 3]) (by kernel_rfl) (by simp) (AllReadyIn.cons rfl (fun K hK => ?_) (AllReadyIn.cons rfl (fun K hK => ?_) (AllReadyIn.nil)))
                  · go_simp
                    refine hK _ _ ?_
                    clear hK K
                    refine wpAnyIn_ready (rs := [3]) (by kernel_rfl) (by simp) (AllReadyIn.cons rfl (fun K hK => ?_) (AllReadyIn.nil))
                    · go_simp
                      refine ⟨trivial, ?_⟩
                      refine (CallsIn.inRound l (callsIn_wide.2 (trimS_ok r y _ HRL.out HY.out))).mono ?_
                      rintro e w4 ⟨rfl, rfl⟩
                      go_simp
                      refine hK _ _ ?_
                      clear hK K
                      refine wpAnyIn_ready (rs := [4]) (by kernel_rfl) (by simp) (AllReadyIn.cons rfl (fun K hK => ?_) (AllReadyIn.nil))
                      · go_simp
                        refine ⟨trivial, ?_⟩
                        refine (CallsIn.inRound l (callsIn_wide.2 (HM.out _ ?h))).mono ?_
                        case h => exact (below_box _ _).drew
                        rintro e w5 ⟨rfl, hrd4, hfg4⟩
                        have HRD4 := hide hrd4
                        have HFG4 := hide hfg4
                        clear hrd4 hfg4
                        go_simp
                        refine hK _ _ ?_
                        clear hK K
                        refine wpAnyIn_done (by kernel_rfl) ?_ _
                        gi_wp2
                        go_roundw
                        case rel => exact ⟨1, by omega, by go_num, HRD4, HFG4⟩
                        case measure => simp [intOf]
                  · go_simp
                    refine ⟨trivial, ?_⟩
                    refine (CallsIn.inRound l (callsIn_wide.2 (trimS_ok r y _ HRL.out HY.out))).mono ?_
                    rintro e w4 ⟨rfl, rfl⟩
                    go_simp
                    refine hK _ _ ?_
                    clear hK K
                    refine wpAnyIn_ready (rs := [1]) (by kernel_rfl) (by simp) (AllReadyIn.cons rfl (fun K hK => ?_) (AllReadyIn.nil))
                    · go_simp
                      refine hK _ _ ?_
                      clear hK K
                      refine wpAnyIn_ready (rs := [4]) (by kernel_rfl) (by simp) (AllReadyIn.cons rfl (fun K hK => ?_) (AllReadyIn.nil))
                      · go_simp
                        refine ⟨trivial, ?_⟩
                        refine (CallsIn.inRound l (callsIn_wide.2 (HM.out _ ?h))).mono ?_
                        case h => exact (below_box _ _).drew
                        rintro e w5 ⟨rfl, hrd4, hfg4⟩
                        have HRD4 := hide hrd4
                        have HFG4 := hide hfg4
                        clear hrd4 hfg4
                        go_simp
                        refine hK _ _ ?_
                        clear hK K
                        refine wpAnyIn_done (by kernel_rfl) ?_ _
                        gi_wp2
                        go_roundw
                        case rel => exact ⟨1, by omega, by go_num, HRD4, HFG4⟩
                        case measure => simp [intOf]
                · go_simp
                  refine ⟨trivial, ?_⟩
                  refine (CallsIn.inRound l (callsIn_wide.2 (trimS_ok r y _ HRL.out HY.out))).mono ?_
                  rintro e w4 ⟨rfl, rfl⟩
                  go_simp
                  refine hK _ _ ?_
                  clear hK K
                  refine wpAnyIn_ready (rs := [0]) (by kernel_rfl) (by simp) (AllReadyIn.cons rfl (fun K hK => ?_) (AllReadyIn.nil))
                  · go_simp
                    refine hK _ _ ?_
                    clear hK K
                    refine wpAnyIn_ready (rs := [1]) (by kernel_rfl) (by simp) (AllReadyIn.cons rfl (fun K hK => ?_) (AllReadyIn.nil))
                    · go_simp
                      refine hK _ _ ?_
                      clear hK K
                      refine wpAnyIn_ready (rs := [4]) (by kernel_rfl) (by simp) (AllReadyIn.cons rfl (fun K hK => ?_) (AllReadyIn.nil))
                      · go_simp
                        refine ⟨trivial, ?_⟩
                        refine (CallsIn.inRound l (callsIn_wide.2 (HM.out _ ?h))).mono ?_
                        case h => exact (below_box _ _).drew
                        rintro e w5 ⟨rfl, hrd4, hfg4⟩
                        have HRD4 := hide hrd4
                        have HFG4 := hide hfg4
                        clear hrd4 hfg4
                        go_simp
                        refine hK _ _ ?_
                        clear hK K
                        refine wpAnyIn_done (by kernel_rfl) ?_ _
                        gi_wp2
                        go_roundw
                        case rel => exact ⟨1, by omega, by go_num, HRD4, HFG4⟩
                        case measure => simp [intOf]
          · have q0 : wr.cell? ⟨g + 1, 2, none⟩ = some (.string ⟨#[112, 111, 108, 105, 99, 121, 32]⟩) := by rw [HKC.out 2]; rfl
            have q1 : wr.cell? ⟨g + 1, 3, none⟩ = some (.func (.func 35) #[.pointer (some ⟨g, 0, none⟩)] #[]) := by rw [HKC.out 3]; rfl
            have hent := e1
            obtain ⟨r, hr⟩ : ∃ r : ByteArray, (⟨(Lib.trimPrefix x.data.toList (Hog.wordM 1)).toArray⟩ : ByteArray) = r := ⟨_, rfl⟩
            have HR := hide hr
            cases hp : Lib.hasPrefix x.data.toList (Hog.wordM 1) with
            | false =>
              have HP := hide hp
              clear hp hr
              gi_wp2_with (refine ⟨trivial, ?_⟩; gi_at_call 40; refine (CallsIn.inRound l (callsIn_wide.2 (cut_ok x ⟨#[112, 111, 108, 105, 99, 121, 32]⟩ r false _ HR.out HP.out))).mono ?_; rintro e w1 ⟨rfl, rfl⟩)
              gi_wp2
              go_roundw
              case rel => exact ⟨2, by omega, by go_num, by rw [upK_succ, kind_no HP.out]; exact hrd.out.below (below_box _ _), hfg.out.after (below_box _ _) HLO.out (by omega)⟩
              case measure => simp [intOf]
            | true =>
              have HP := hide hp
              have hrl : r.size ≤ x.size := by
                rw [← hr]; show (Lib.trimPrefix x.data.toList (Hog.wordM 1)).toArray.size ≤ _
                unfold Lib.trimPrefix
                rw [if_pos hp, List.size_toArray, List.length_drop, ← Hog.size_len]; omega
              obtain ⟨y, hy⟩ : ∃ y, Hog.mk (Hog.trimM r.data.toList) = y := ⟨_, rfl⟩
              have hyl : y.size ≤ x.size := by
                rw [← hy, Hog.mk_size]
                have := trim_le r.data.toList
                rw [← Hog.size_len] at this; omega
              have HY := hide hy
              have HRL : Hid (r.size < 900000) := by have := HXL.out; show _ < _; omega
              have HPUT : Hid (Hog.putM polF 1 (upK (readB pre) x.data.toList 1) y = upK (readB pre) x.data.toList 2) := by
                rw [show (2 : Nat) = 1 + 1 from rfl, upK_succ (readB pre) x.data.toList 1, kind_yes hp, ← hy, ← hr, show ((⟨(Lib.trimPrefix x.data.toList (Hog.wordM 1)).toArray⟩ : ByteArray)).data.toList = Lib.trimPrefix x.data.toList (Hog.wordM 1) from Hog.mk_data _]; exact rfl
              have HM : Hid (∀ W', Below wr.heap.size wr W' → Calls Tryz.prog 35 #[.pointer (some ⟨g, 0, none⟩), .string y] W' fun e w' => e = .returned (.tuple #[]) ∧ RdP 58 w' g (g + 4) (upK (readB pre) x.data.toList 2) ∧ FrG g (g + 4) W2 w') := fun W' hb => by
                refine ((meth_ok W' g (g + 4) _ y (by omega) (hrd.out.below hb) (HBM.out 1 (by omega)) (by have := HXL.out; omega) (HER.out W' (hfg.out.below.trans (hb.mono (by have := HLO.out; omega))))).2.1).mono ?_
                rintro e w' ⟨h1, h2, h3⟩
                rw [HPUT.out] at h2
                exact ⟨h1, h2, (hfg.out.after hb HLO.out (by omega)).trans h3⟩
              clear hp hr hy
              gi_wp2_with (refine ⟨trivial, ?_⟩; gi_at_call 40; refine (CallsIn.inRound l (callsIn_wide.2 (cut_ok x ⟨#[112, 111, 108, 105, 99, 121, 32]⟩ r true _ HR.out HP.out))).mono ?_; rintro e w1 ⟨rfl, rfl⟩)
              refine wpIn_region_any (by kernel_rfl) ?_
              change wpAnyIn _ _ _ _ _ _ _ _ _ (World.drew _)
              refine wpAnyIn_ready (rs := [0, 2]) (by kernel_rfl) (by simp) (AllReadyIn.cons rfl (fun K hK => ?_) (AllReadyIn.cons rfl (fun K hK => ?_) (AllReadyIn.nil)))
              · go_simp
                refine hK _ _ ?_
                clear hK K
                refine wpAnyIn_ready (rs := [1, 2]) (by kernel_rfl) (by simp) (AllReadyIn.cons rfl (fun K hK => ?_) (AllReadyIn.cons rfl (fun K hK => ?_) (AllReadyIn.nil)))
                · go_simp
                  refine hK _ _ ?_
                  clear hK K
                  refine wpAnyIn_ready (rs := [2]) (by kernel_rfl) (by simp) (AllReadyIn.cons rfl (fun K hK => ?_) (AllReadyIn.nil))
                  · go_simp
                    refine hK _ _ ?_
                    clear hK K
                    refine wpAnyIn_ready (rs := [3]) (by kernel_rfl) (by simp) (AllReadyIn.cons rfl (fun K hK => ?_) (AllReadyIn.nil))
                    · go_simp
                      refine ⟨trivial, ?_⟩
                      refine (CallsIn.inRound l (callsIn_wide.2 (trimS_ok r y _ HRL.out HY.out))).mono ?_
                      rintro e w4 ⟨rfl, rfl⟩
                      go_simp
                      refine hK _ _ ?_
                      clear hK K
                      refine wpAnyIn_ready (rs := [4]) (by kernel_rfl) (by simp) (AllReadyIn.cons rfl (fun K hK => ?_) (AllReadyIn.nil))
                      · go_simp
                        refine ⟨trivial, ?_⟩
                        refine (CallsIn.inRound l (callsIn_wide.2 (HM.out _ ?h))).mono ?_
                        case h => exact (below_box _ _).drew
                        rintro e w5 ⟨rfl, hrd4, hfg4⟩
                        have HRD4 := hide hrd4
                        have HFG4 := hide hfg4
                        clear hrd4 hfg4
                        go_simp
                        refine hK _ _ ?_
                        clear hK K
                        refine wpAnyIn_done (by kernel_rfl) ?_ _
                        gi_wp2
                        go_roundw
                        case rel => exact ⟨2, by omega, by go_num, HRD4, HFG4⟩
                        case measure => simp [intOf]
                · go_simp
                  refine hK _ _ ?_
                  clear hK K
                  refine wpAnyIn_ready (rs := [1, 3]) (by kernel_rfl) (by simp) (AllReadyIn.cons rfl (fun K hK => ?_) (AllReadyIn.cons rfl (fun K hK => ?_) (AllReadyIn.nil)))
                  · go_simp
                    refine hK _ _ ?_
                    clear hK K
                    refine wpAnyIn_ready (rs := [3]) (by kernel_rfl) (by simp) (AllReadyIn.cons rfl (fun K hK => ?_) (AllReadyIn.nil))
                    · go_simp
                      refine ⟨trivial, ?_⟩
                      refine (CallsIn.inRound l (callsIn_wide.2 (trimS_ok r y _ HRL.out HY.out))).mono ?_
                      rintro e w4 ⟨rfl, rfl⟩
                      go_simp
                      refine hK _ _ ?_
                      clear hK K
                      refine wpAnyIn_ready (rs := [4]) (by kernel_rfl) (by simp) (AllReadyIn.cons rfl (fun K hK => ?_) (AllReadyIn.nil))
                      · go_simp
                        refine ⟨trivial, ?_⟩
                        refine (CallsIn.inRound l (callsIn_wide.2 (HM.out _ ?h))).mono ?_
                        case h => exact (below_box _ _).drew
                        rintro e w5 ⟨rfl, hrd4, hfg4⟩
                        have HRD4 := hide hrd4
                        have HFG4 := hide hfg4
                        clear hrd4 hfg4
                        go_simp
                        refine hK _ _ ?_
                        clear hK K
                        refine wpAnyIn_done (by kernel_rfl) ?_ _
                        gi_wp2
                        go_roundw
                        case rel => exact ⟨2, by omega, by go_num, HRD4, HFG4⟩
                        case measure => simp [intOf]
                  · go_simp
                    refine ⟨trivial, ?_⟩
                    refine (CallsIn.inRound l (callsIn_wide.2 (trimS_ok r y _ HRL.out HY.out))).mono ?_
                    rintro e w4 ⟨rfl, rfl⟩
                    go_simp
                    refine hK _ _ ?_
                    clear hK K
                    refine wpAnyIn_ready (rs := [1]) (by kernel_rfl) (by simp) (AllReadyIn.cons rfl (fun K hK => ?_) (AllReadyIn.nil))
                    · go_simp
                      refine hK _ _ ?_
                      clear hK K
                      refine wpAnyIn_ready (rs := [4]) (by kernel_rfl) (by simp) (AllReadyIn.cons rfl (fun K hK => ?_) (AllReadyIn.nil))
                      · go_simp
                        refine ⟨trivial, ?_⟩
                        refine (CallsIn.inRound l (callsIn_wide.2 (HM.out _ ?h))).mono ?_
                        case h => exact (below_box _ _).drew
                        rintro e w5 ⟨rfl, hrd4, hfg4⟩
                        have HRD4 := hide hrd4
                        have HFG4 := hide hfg4
                        clear hrd4 hfg4
                        go_simp
                        refine hK _ _ ?_
                        clear hK K
                        refine wpAnyIn_done (by kernel_rfl) ?_ _
                        gi_wp2
                        go_roundw
                        case rel => exact ⟨2, by omega, by go_num, HRD4, HFG4⟩
                        case measure => simp [intOf]
              · go_simp
                refine hK _ _ ?_
                clear hK K
                refine wpAnyIn_ready (rs := [0, 3]) (by kernel_rfl) (by simp) (AllReadyIn.cons rfl (fun K hK => ?_) (AllReadyIn.cons rfl (fun K hK => ?_) (AllReadyIn.nil)))
                · go_simp
                  refine hK _ _ ?_
                  clear hK K
                  refine wpAnyIn_ready (rs := [1, 3]) (by kernel_rfl) (by simp) (AllReadyIn.cons rfl (fun K hK => ?_) (AllReadyIn.cons rfl (fun K hK => ?_) (AllReadyIn.nil)))
                  · go_simp
                    refine hK _ _ ?_
                    clear hK K
                    refine wpAnyIn_ready (rs := [3]) (by kernel_rfl) (by simp) (AllReadyIn.cons rfl (fun K hK => ?_) (AllReadyIn.nil))
                    · go_simp
                      refine ⟨trivial, ?_⟩
                      refine (CallsIn.inRound l (callsIn_wide.2 (trimS_ok r y _ HRL.out HY.out))).mono ?_
                      rintro e w4 ⟨rfl, rfl⟩
                      go_simp
                      refine hK _ _ ?_
                      clear hK K
                      refine wpAnyIn_ready (rs := [4]) (by kernel_rfl) (by simp) (AllReadyIn.cons rfl (fun K hK => ?_) (AllReadyIn.nil))
                      · go_simp
                        refine ⟨trivial, ?_⟩
                        refine (CallsIn.inRound l (callsIn_wide.2 (HM.out _ ?h))).mono ?_
                        case h => exact (below_box _ _).drew
                        rintro e w5 ⟨rfl, hrd4, hfg4⟩
                        have HRD4 := hide hrd4
                        have HFG4 := hide hfg4
                        clear hrd4 hfg4
                        go_simp
                        refine hK _ _ ?_
                        clear hK K
                        refine wpAnyIn_done (by kernel_rfl) ?_ _
                        gi_wp2
                        go_roundw
                        case rel => exact ⟨2, by omega, by go_num, HRD4, HFG4⟩
                        case measure => simp [intOf]
                  · go_simp
                    refine ⟨trivial, ?_⟩
                    refine (CallsIn.inRound l (callsIn_wide.2 (trimS_ok r y _ HRL.out HY.out))).mono ?_
                    rintro e w4 ⟨rfl, rfl⟩
                    go_simp
                    refine hK _ _ ?_
                    clear hK K
                    refine wpAnyIn_ready (rs := [1]) (by kernel_rfl) (by simp) (AllReadyIn.cons rfl (fun K hK => ?_) (AllReadyIn.nil))
                    · go_simp
                      refine hK _ _ ?_
                      clear hK K
                      refine wpAnyIn_ready (rs := [4]) (by kernel_rfl) (by simp) (AllReadyIn.cons rfl (fun K hK => ?_) (AllReadyIn.nil))
                      · go_simp
                        refine ⟨trivial, ?_⟩
                        refine (CallsIn.inRound l (callsIn_wide.2 (HM.out _ ?h))).mono ?_
                        case h => exact (below_box _ _).drew
                        rintro e w5 ⟨rfl, hrd4, hfg4⟩
                        have HRD4 := hide hrd4
                        have HFG4 := hide hfg4
                        clear hrd4 hfg4
                        go_simp
                        refine hK _ _ ?_
                        clear hK K
                        refine wpAnyIn_done (by kernel_rfl) ?_ _
                        gi_wp2
                        go_roundw
                        case rel => exact ⟨2, by omega, by go_num, HRD4, HFG4⟩
                        case measure => simp [intOf]
                · go_simp
                  refine ⟨trivial, ?_⟩
                  refine (CallsIn.inRound l (callsIn_wide.2 (trimS_ok r y _ HRL.out HY.out))).mono ?_
                  rintro e w4 ⟨rfl, rfl⟩
                  go_simp
                  refine hK _ _ ?_
                  clear hK K
                  refine wpAnyIn_ready (rs := [0]) (by kernel_rfl) (by simp) (AllReadyIn.cons rfl (fun K hK => ?_) (AllReadyIn.nil))
                  · go_simp
                    refine hK _ _ ?_
                    clear hK K
                    refine wpAnyIn_ready (rs := [1]) (by kernel_rfl) (by simp) (AllReadyIn.cons rfl (fun K hK => ?_) (AllReadyIn.nil))
                    · go_simp
                      refine hK _ _ ?_
                      clear hK K
                      refine wpAnyIn_ready (rs := [4]) (by kernel_rfl) (by simp) (AllReadyIn.cons rfl (fun K hK => ?_) (AllReadyIn.nil))
                      · go_simp
                        refine ⟨trivial, ?_⟩
                        refine (CallsIn.inRound l (callsIn_wide.2 (HM.out _ ?h))).mono ?_
                        case h => exact (below_box _ _).drew
                        rintro e w5 ⟨rfl, hrd4, hfg4⟩
                        have HRD4 := hide hrd4
                        have HFG4 := hide hfg4
                        clear hrd4 hfg4
                        go_simp
                        refine hK _ _ ?_
                        clear hK K
                        refine wpAnyIn_done (by kernel_rfl) ?_ _
                        gi_wp2
                        go_roundw
                        case rel => exact ⟨2, by omega, by go_num, HRD4, HFG4⟩
                        case measure => simp [intOf]
          · have q0 : wr.cell? ⟨g + 1, 4, none⟩ = some (.string ⟨#[105, 116, 101, 109, 32]⟩) := by rw [HKC.out 4]; rfl
            have q1 : wr.cell? ⟨g + 1, 5, none⟩ = some (.func (.func 36) #[.pointer (some ⟨g, 0, none⟩)] #[]) := by rw [HKC.out 5]; rfl
            have hent := e2
            obtain ⟨r, hr⟩ : ∃ r : ByteArray, (⟨(Lib.trimPrefix x.data.toList (Hog.wordM 2)).toArray⟩ : ByteArray) = r := ⟨_, rfl⟩
            have HR := hide hr
            cases hp : Lib.hasPrefix x.data.toList (Hog.wordM 2) with
            | false =>
              have HP := hide hp
              clear hp hr
              gi_wp2_with (refine ⟨trivial, ?_⟩; gi_at_call 40; refine (CallsIn.inRound l (callsIn_wide.2 (cut_ok x ⟨#[105, 116, 101, 109, 32]⟩ r false _ HR.out HP.out))).mono ?_; rintro e w1 ⟨rfl, rfl⟩)
              gi_wp2
              go_roundw
              case rel => exact ⟨3, by omega, by go_num, by rw [upK_succ, kind_no HP.out]; exact hrd.out.below (below_box _ _), hfg.out.after (below_box _ _) HLO.out (by omega)⟩
              case measure => simp [intOf]
            | true =>
              have HP := hide hp
              have hrl : r.size ≤ x.size := by
                rw [← hr]; show (Lib.trimPrefix x.data.toList (Hog.wordM 2)).toArray.size ≤ _
                unfold Lib.trimPrefix
                rw [if_pos hp, List.size_toArray, List.length_drop, ← Hog.size_len]; omega
              obtain ⟨y, hy⟩ : ∃ y, Hog.mk (Hog.trimM r.data.toList) = y := ⟨_, rfl⟩
              have hyl : y.size ≤ x.size := by
                rw [← hy, Hog.mk_size]
                have := trim_le r.data.toList
                rw [← Hog.size_len] at this; omega
              have HY := hide hy
              have HRL : Hid (r.size < 900000) := by have := HXL.out; show _ < _; omega
              have HPUT : Hid (Hog.putM polF 2 (upK (readB pre) x.data.toList 2) y = upK (readB pre) x.data.toList 3) := by
                rw [show (3 : Nat) = 2 + 1 from rfl, upK_succ (readB pre) x.data.toList 2, kind_yes hp, ← hy, ← hr, show ((⟨(Lib.trimPrefix x.data.toList (Hog.wordM 2)).toArray⟩ : ByteArray)).data.toList = Lib.trimPrefix x.data.toList (Hog.wordM 2) from Hog.mk_data _]; exact rfl
              have HM : Hid (∀ W', Below wr.heap.size wr W' → Calls Tryz.prog 36 #[.pointer (some ⟨g, 0, none⟩), .string y] W' fun e w' => e = .returned (.tuple #[]) ∧ RdP 58 w' g (g + 4) (upK (readB pre) x.data.toList 3) ∧ FrG g (g + 4) W2 w') := fun W' hb => by
                refine ((meth_ok W' g (g + 4) _ y (by omega) (hrd.out.below hb) (HBM.out 2 (by omega)) (by have := HXL.out; omega) (HER.out W' (hfg.out.below.trans (hb.mono (by have := HLO.out; omega))))).2.2.1).mono ?_
                rintro e w' ⟨h1, h2, h3⟩
                rw [HPUT.out] at h2
                exact ⟨h1, h2, (hfg.out.after hb HLO.out (by omega)).trans h3⟩
              clear hp hr hy
              gi_wp2_with (refine ⟨trivial, ?_⟩; gi_at_call 40; refine (CallsIn.inRound l (callsIn_wide.2 (cut_ok x ⟨#[105, 116, 101, 109, 32]⟩ r true _ HR.out HP.out))).mono ?_; rintro e w1 ⟨rfl, rfl⟩)
              refine wpIn_region_any (by kernel_rfl) ?_
              change wpAnyIn _ _ _ _ _ _ _ _ _ (World.drew _)
              refine wpAnyIn_ready (rs := [0, 2]) (by kernel_rfl) (by simp) (AllReadyIn.cons rfl (fun K hK => ?_) (AllReadyIn.cons rfl (fun K hK => ?_) (AllReadyIn.nil)))
              · go_simp
                refine hK _ _ ?_
                clear hK K
                refine wpAnyIn_ready (rs := [1, 2]) (by kernel_rfl) (by simp) (AllReadyIn.cons rfl (fun K hK => ?_) (AllReadyIn.cons rfl (fun K hK => ?_) (AllReadyIn.nil)))
                · go_simp
                  refine hK _ _ ?_
                  clear hK K
                  refine wpAnyIn_ready (rs := [2]) (by kernel_rfl) (by simp) (AllReadyIn.cons rfl (fun K hK => ?_) (AllReadyIn.nil))
                  · go_simp
                    refine hK _ _ ?_
                    clear hK K
                    refine wpAnyIn_ready (rs := [3]) (by kernel_rfl) (by simp) (AllReadyIn.cons rfl (fun K hK => ?_) (AllReadyIn.nil))
                    · go_simp
                      refine ⟨trivial, ?_⟩
                      refine (CallsIn.inRound l (callsIn_wide.2 (trimS_ok r y _ HRL.out HY.out))).mono ?_
                      rintro e w4 ⟨rfl, rfl⟩
                      go_simp
                      refine hK _ _ ?_
                      clear hK K
                      refine wpAnyIn_ready (rs := [4]) (by kernel_rfl) (by simp) (AllReadyIn.cons rfl (fun K hK => ?_) (AllReadyIn.nil))
                      · go_simp
                        refine ⟨trivial, ?_⟩
                        refine (CallsIn.inRound l (callsIn_wide.2 (HM.out _ ?h))).mono ?_
                        case h => exact (below_box _ _).drew
                        rintro e w5 ⟨rfl, hrd4, hfg4⟩
                        have HRD4 := hide hrd4
                        have HFG4 := hide hfg4
                        clear hrd4 hfg4
                        go_simp
                        refine hK _ _ ?_
                        clear hK K
                        refine wpAnyIn_done (by kernel_rfl) ?_ _
                        gi_wp2
                        go_roundw
                        case rel => exact ⟨3, by omega, by go_num, HRD4, HFG4⟩
                        case measure => simp [intOf]
                · go_simp
                  refine hK _ _ ?_
                  clear hK K
                  refine wpAnyIn_ready (rs := [1, 3]) (by kernel_rfl) (by simp) (AllReadyIn.cons rfl (fun K hK => ?_) (AllReadyIn.cons rfl (fun K hK => ?_) (AllReadyIn.nil)))
                  · go_simp
                    refine hK _ _ ?_
                    clear hK K
                    refine wpAnyIn_ready (rs := [3]) (by kernel_rfl) (by simp) (AllReadyIn.cons rfl (fun K hK => ?_) (AllReadyIn.nil))
                    · go_simp
                      refine ⟨trivial, ?_⟩
                      refine (CallsIn.inRound l (callsIn_wide.2 (trimS_ok r y _ HRL.out HY.out))).mono ?_
                      rintro e w4 ⟨rfl, rfl⟩
                      go_simp
                      refine hK _ _ ?_
                      clear hK K
                      refine wpAnyIn_ready (rs := [4]) (by kernel_rfl) (by simp) (AllReadyIn.cons rfl (fun K hK => ?_) (AllReadyIn.nil))
                      · go_simp
                        refine ⟨trivial, ?_⟩
                        refine (CallsIn.inRound l (callsIn_wide.2 (HM.out _ ?h))).mono ?_
                        case h => exact (below_box _ _).drew
                        rintro e w5 ⟨rfl, hrd4, hfg4⟩
                        have HRD4 := hide hrd4
                        have HFG4 := hide hfg4
                        clear hrd4 hfg4
                        go_simp
                        refine hK _ _ ?_
                        clear hK K
                        refine wpAnyIn_done (by kernel_rfl) ?_ _
                        gi_wp2
                        go_roundw
                        case rel => exact ⟨3, by omega, by go_num, HRD4, HFG4⟩
                        case measure => simp [intOf]
                  · go_simp
                    refine ⟨trivial, ?_⟩
                    refine (CallsIn.inRound l (callsIn_wide.2 (trimS_ok r y _ HRL.out HY.out))).mono ?_
                    rintro e w4 ⟨rfl, rfl⟩
                    go_simp
                    refine hK _ _ ?_
                    clear hK K
                    refine wpAnyIn_ready (rs := [1]) (by kernel_rfl) (by simp) (AllReadyIn.cons rfl (fun K hK => ?_) (AllReadyIn.nil))
                    · go_simp
                      refine hK _ _ ?_
                      clear hK K
                      refine wpAnyIn_ready (rs := [4]) (by kernel_rfl) (by simp) (AllReadyIn.cons rfl (fun K hK => ?_) (AllReadyIn.nil))
                      · go_simp
                        refine ⟨trivial, ?_⟩
                        refine (CallsIn.inRound l (callsIn_wide.2 (HM.out _ ?h))).mono ?_
                        case h => exact (below_box _ _).drew
                        rintro e w5 ⟨rfl, hrd4, hfg4⟩
                        have HRD4 := hide hrd4
                        have HFG4 := hide hfg4
                        clear hrd4 hfg4
                        go_simp
                        refine hK _ _ ?_
                        clear hK K
                        refine wpAnyIn_done (by kernel_rfl) ?_ _
                        gi_wp2
                        go_roundw
                        case rel => exact ⟨3, by omega, by go_num, HRD4, HFG4⟩
                        case measure => simp [intOf]
              · go_simp
                refine hK _ _ ?_
                clear hK K
                refine wpAnyIn_ready (rs := [0, 3]) (by kernel_rfl) (by simp) (AllReadyIn.cons rfl (fun K hK => ?_) (AllReadyIn.cons rfl (fun K hK => ?_) (AllReadyIn.nil)))
                · go_simp
                  refine hK _ _ ?_
                  clear hK K
                  refine wpAnyIn_ready (rs := [1, 3]) (by kernel_rfl) (by simp) (AllReadyIn.cons rfl (fun K hK => ?_) (AllReadyIn.cons rfl (fun K hK => ?_) (AllReadyIn.nil)))
                  · go_simp
                    refine hK _ _ ?_
                    clear hK K
                    refine wpAnyIn_ready (rs := [3]) (by kernel_rfl) (by simp) (AllReadyIn.cons rfl (fun K hK => ?_) (AllReadyIn.nil))
                    · go_simp
                      refine ⟨trivial, ?_⟩
                      refine (CallsIn.inRound l (callsIn_wide.2 (trimS_ok r y _ HRL.out HY.out))).mono ?_
                      rintro e w4 ⟨rfl, rfl⟩
                      go_simp
                      refine hK _ _ ?_
                      clear hK K
                      refine wpAnyIn_ready (rs := [4]) (by kernel_rfl) (by simp) (AllReadyIn.cons rfl (fun K hK => ?_) (AllReadyIn.nil))
                      · go_simp
                        refine ⟨trivial, ?_⟩
                        refine (CallsIn.inRound l (callsIn_wide.2 (HM.out _ ?h))).mono ?_
                        case h => exact (below_box _ _).drew
                        rintro e w5 ⟨rfl, hrd4, hfg4⟩
                        have HRD4 := hide hrd4
                        have HFG4 := hide hfg4
                        clear hrd4 hfg4
                        go_simp
                        refine hK _ _ ?_
                        clear hK K
                        refine wpAnyIn_done (by kernel_rfl) ?_ _
                        gi_wp2
                        go_roundw
                        case rel => exact ⟨3, by omega, by go_num, HRD4, HFG4⟩
                        case measure => simp [intOf]
                  · go_simp
                    refine ⟨trivial, ?_⟩
                    refine (CallsIn.inRound l (callsIn_wide.2 (trimS_ok r y _ HRL.out HY.out))).mono ?_
                    rintro e w4 ⟨rfl, rfl⟩
                    go_simp
                    refine hK _ _ ?_
                    clear hK K
                    refine wpAnyIn_ready (rs := [1]) (by kernel_rfl) (by simp) (AllReadyIn.cons rfl (fun K hK => ?_) (AllReadyIn.nil))
                    · go_simp
                      refine hK _ _ ?_
                      clear hK K
                      refine wpAnyIn_ready (rs := [4]) (by kernel_rfl) (by simp) (AllReadyIn.cons rfl (fun K hK => ?_) (AllReadyIn.nil))
                      · go_simp
                        refine ⟨trivial, ?_⟩
                        refine (CallsIn.inRound l (callsIn_wide.2 (HM.out _ ?h))).mono ?_
                        case h => exact (below_box _ _).drew
                        rintro e w5 ⟨rfl, hrd4, hfg4⟩
                        have HRD4 := hide hrd4
                        have HFG4 := hide hfg4
                        clear hrd4 hfg4
                        go_simp
                        refine hK _ _ ?_
                        clear hK K
                        refine wpAnyIn_done (by kernel_rfl) ?_ _
                        gi_wp2
                        go_roundw
                        case rel => exact ⟨3, by omega, by go_num, HRD4, HFG4⟩
                        case measure => simp [intOf]
                · go_simp
                  refine ⟨trivial, ?_⟩
                  refine (CallsIn.inRound l (callsIn_wide.2 (trimS_ok r y _ HRL.out HY.out))).mono ?_
                  rintro e w4 ⟨rfl, rfl⟩
                  go_simp
                  refine hK _ _ ?_
                  clear hK K
                  refine wpAnyIn_ready (rs := [0]) (by kernel_rfl) (by simp) (AllReadyIn.cons rfl (fun K hK => ?_) (AllReadyIn.nil))
                  · go_simp
                    refine hK _ _ ?_
                    clear hK K
                    refine wpAnyIn_ready (rs := [1]) (by kernel_rfl) (by simp) (AllReadyIn.cons rfl (fun K hK => ?_) (AllReadyIn.nil))
                    · go_simp
                      refine hK _ _ ?_
                      clear hK K
                      refine wpAnyIn_ready (rs := [4]) (by kernel_rfl) (by simp) (AllReadyIn.cons rfl (fun K hK => ?_) (AllReadyIn.nil))
                      · go_simp
                        refine ⟨trivial, ?_⟩
                        refine (CallsIn.inRound l (callsIn_wide.2 (HM.out _ ?h))).mono ?_
                        case h => exact (below_box _ _).drew
                        rintro e w5 ⟨rfl, hrd4, hfg4⟩
                        have HRD4 := hide hrd4
                        have HFG4 := hide hfg4
                        clear hrd4 hfg4
                        go_simp
                        refine hK _ _ ?_
                        clear hK K
                        refine wpAnyIn_done (by kernel_rfl) ?_ _
                        gi_wp2
                        go_roundw
                        case rel => exact ⟨3, by omega, by go_num, HRD4, HFG4⟩
                        case measure => simp [intOf]
          · have q0 : wr.cell? ⟨g + 1, 6, none⟩ = some (.string ⟨#[114, 101, 102, 32]⟩) := by rw [HKC.out 6]; rfl
            have q1 : wr.cell? ⟨g + 1, 7, none⟩ = some (.func (.func 37) #[.pointer (some ⟨g, 0, none⟩)] #[]) := by rw [HKC.out 7]; rfl
            have hent := e3
            obtain ⟨r, hr⟩ : ∃ r : ByteArray, (⟨(Lib.trimPrefix x.data.toList (Hog.wordM 3)).toArray⟩ : ByteArray) = r := ⟨_, rfl⟩
            have HR := hide hr
            cases hp : Lib.hasPrefix x.data.toList (Hog.wordM 3) with
            | false =>
              have HP := hide hp
              clear hp hr
              gi_wp2_with (refine ⟨trivial, ?_⟩; gi_at_call 40; refine (CallsIn.inRound l (callsIn_wide.2 (cut_ok x ⟨#[114, 101, 102, 32]⟩ r false _ HR.out HP.out))).mono ?_; rintro e w1 ⟨rfl, rfl⟩)
              gi_wp2
              go_roundw
              case rel => exact ⟨4, by omega, by go_num, by rw [upK_succ, kind_no HP.out]; exact hrd.out.below (below_box _ _), hfg.out.after (below_box _ _) HLO.out (by omega)⟩
              case measure => simp [intOf]
            | true =>
              have HP := hide hp
              have hrl : r.size ≤ x.size := by
                rw [← hr]; show (Lib.trimPrefix x.data.toList (Hog.wordM 3)).toArray.size ≤ _
                unfold Lib.trimPrefix
                rw [if_pos hp, List.size_toArray, List.length_drop, ← Hog.size_len]; omega
              obtain ⟨y, hy⟩ : ∃ y, Hog.mk (Hog.trimM r.data.toList) = y := ⟨_, rfl⟩
              have hyl : y.size ≤ x.size := by
                rw [← hy, Hog.mk_size]
                have := trim_le r.data.toList
                rw [← Hog.size_len] at this; omega
              have HY := hide hy
              have HRL : Hid (r.size < 900000) := by have := HXL.out; show _ < _; omega
              have HPUT : Hid (Hog.putM polF 3 (upK (readB pre) x.data.toList 3) y = upK (readB pre) x.data.toList 4) := by
                rw [show (4 : Nat) = 3 + 1 from rfl, upK_succ (readB pre) x.data.toList 3, kind_yes hp, ← hy, ← hr, show ((⟨(Lib.trimPrefix x.data.toList (Hog.wordM 3)).toArray⟩ : ByteArray)).data.toList = Lib.trimPrefix x.data.toList (Hog.wordM 3) from Hog.mk_data _]; exact rfl
              have HM : Hid (∀ W', Below wr.heap.size wr W' → Calls Tryz.prog 37 #[.pointer (some ⟨g, 0, none⟩), .string y] W' fun e w' => e = .returned (.tuple #[]) ∧ RdP 58 w' g (g + 4) (upK (readB pre) x.data.toList 4) ∧ FrG g (g + 4) W2 w') := fun W' hb => by
                refine ((meth_ok W' g (g + 4) _ y (by omega) (hrd.out.below hb) (HBM.out 3 (by omega)) (by have := HXL.out; omega) (HER.out W' (hfg.out.below.trans (hb.mono (by have := HLO.out; omega))))).2.2.2.1).mono ?_
                rintro e w' ⟨h1, h2, h3⟩
                rw [HPUT.out] at h2
                exact ⟨h1, h2, (hfg.out.after hb HLO.out (by omega)).trans h3⟩
              clear hp hr hy
              gi_wp2_with (refine ⟨trivial, ?_⟩; gi_at_call 40; refine (CallsIn.inRound l (callsIn_wide.2 (cut_ok x ⟨#[114, 101, 102, 32]⟩ r true _ HR.out HP.out))).mono ?_; rintro e w1 ⟨rfl, rfl⟩)
              refine wpIn_region_any (by kernel_rfl) ?_
              change wpAnyIn _ _ _ _ _ _ _ _ _ (World.drew _)
              refine wpAnyIn_ready (rs := [0, 2]) (by kernel_rfl) (by simp) (AllReadyIn.cons rfl (fun K hK => ?_) (AllReadyIn.cons rfl (fun K hK => ?_) (AllReadyIn.nil)))
              · go_simp
                refine hK _ _ ?_
                clear hK K
                refine wpAnyIn_ready (rs := [1, 2]) (by kernel_rfl) (by simp) (AllReadyIn.cons rfl (fun K hK => ?_) (AllReadyIn.cons rfl (fun K hK => ?_) (AllReadyIn.nil)))
                · go_simp
                  refine hK _ _ ?_
                  clear hK K
                  refine wpAnyIn_ready (rs := [2]) (by kernel_rfl) (by simp) (AllReadyIn.cons rfl (fun K hK => ?_) (AllReadyIn.nil))
                  · go_simp
                    refine hK _ _ ?_
                    clear hK K
                    refine wpAnyIn_ready (rs := [3]) (by kernel_rfl) (by simp) (AllReadyIn.cons rfl (fun K hK => ?_) (AllReadyIn.nil))
                    · go_simp
                      refine ⟨trivial, ?_⟩
                      refine (CallsIn.inRound l (callsIn_wide.2 (trimS_ok r y _ HRL.out HY.out))).mono ?_
                      rintro e w4 ⟨rfl, rfl⟩
                      go_simp
                      refine hK _ _ ?_
                      clear hK K
                      refine wpAnyIn_ready (rs := [4]) (by kernel_rfl) (by simp) (AllReadyIn.cons rfl (fun K hK => ?_) (AllReadyIn.nil))
                      · go_simp
                        refine ⟨trivial, ?_⟩
                        refine (CallsIn.inRound l (callsIn_wide.2 (HM.out _ ?h))).mono ?_
                        case h => exact (below_box _ _).drew
                        rintro e w5 ⟨rfl, hrd4, hfg4⟩
                        have HRD4 := hide hrd4
                        have HFG4 := hide hfg4
                        clear hrd4 hfg4
                        go_simp
                        refine hK _ _ ?_
                        clear hK K
                        refine wpAnyIn_done (by kernel_rfl) ?_ _
                        gi_wp2
                        go_roundw
                        case rel => exact ⟨4, by omega, by go_num, HRD4, HFG4⟩
                        case measure => simp [intOf]
                · go_simp
                  refine hK _ _ ?_
                  clear hK K
                  refine wpAnyIn_ready (rs := [1, 3]) (by kernel_rfl) (by simp) (AllReadyIn.cons rfl (fun K hK => ?_) (AllReadyIn.cons rfl (fun K hK => ?_) (AllReadyIn.nil)))
                  · go_simp
                    refine hK _ _ ?_
                    clear hK K
                    refine wpAnyIn_ready (rs := [3]) (by kernel_rfl) (by simp) (AllReadyIn.cons rfl (fun K hK => ?_) (AllReadyIn.nil))
                    · go_simp
                      refine ⟨trivial, ?_⟩
                      refine (CallsIn.inRound l (callsIn_wide.2 (trimS_ok r y _ HRL.out HY.out))).mono ?_
                      rintro e w4 ⟨rfl, rfl⟩
                      go_simp
                      refine hK _ _ ?_
                      clear hK K
                      refine wpAnyIn_ready (rs := [4]) (by kernel_rfl) (by simp) (AllReadyIn.cons rfl (fun K hK => ?_) (AllReadyIn.nil))
                      · go_simp
                        refine ⟨trivial, ?_⟩
                        refine (CallsIn.inRound l (callsIn_wide.2 (HM.out _ ?h))).mono ?_
                        case h => exact (below_box _ _).drew
                        rintro e w5 ⟨rfl, hrd4, hfg4⟩
                        have HRD4 := hide hrd4
                        have HFG4 := hide hfg4
                        clear hrd4 hfg4
                        go_simp
                        refine hK _ _ ?_
                        clear hK K
                        refine wpAnyIn_done (by kernel_rfl) ?_ _
                        gi_wp2
                        go_roundw
                        case rel => exact ⟨4, by omega, by go_num, HRD4, HFG4⟩
                        case measure => simp [intOf]
                  · go_simp
                    refine ⟨trivial, ?_⟩
                    refine (CallsIn.inRound l (callsIn_wide.2 (trimS_ok r y _ HRL.out HY.out))).mono ?_
                    rintro e w4 ⟨rfl, rfl⟩
                    go_simp
                    refine hK _ _ ?_
                    clear hK K
                    refine wpAnyIn_ready (rs := [1]) (by kernel_rfl) (by simp) (AllReadyIn.cons rfl (fun K hK => ?_) (AllReadyIn.nil))
                    · go_simp
                      refine hK _ _ ?_
                      clear hK K
                      refine wpAnyIn_ready (rs := [4]) (by kernel_rfl) (by simp) (AllReadyIn.cons rfl (fun K hK => ?_) (AllReadyIn.nil))
                      · go_simp
                        refine ⟨trivial, ?_⟩
                        refine (CallsIn.inRound l (callsIn_wide.2 (HM.out _ ?h))).mono ?_
                        case h => exact (below_box _ _).drew
                        rintro e w5 ⟨rfl, hrd4, hfg4⟩
                        have HRD4 := hide hrd4
                        have HFG4 := hide hfg4
                        clear hrd4 hfg4
                        go_simp
                        refine hK _ _ ?_
                        clear hK K
                        refine wpAnyIn_done (by kernel_rfl) ?_ _
                        gi_wp2
                        go_roundw
                        case rel => exact ⟨4, by omega, by go_num, HRD4, HFG4⟩
                        case measure => simp [intOf]
              · go_simp
                refine hK _ _ ?_
                clear hK K
                refine wpAnyIn_ready (rs := [0, 3]) (by kernel_rfl) (by simp) (AllReadyIn.cons rfl (fun K hK => ?_) (AllReadyIn.cons rfl (fun K hK => ?_) (AllReadyIn.nil)))
                · go_simp
                  refine hK _ _ ?_
                  clear hK K
                  refine wpAnyIn_ready (rs := [1, 3]) (by kernel_rfl) (by simp) (AllReadyIn.cons rfl (fun K hK => ?_) (AllReadyIn.cons rfl (fun K hK => ?_) (AllReadyIn.nil)))
                  · go_simp
                    refine hK _ _ ?_
                    clear hK K
                    refine wpAnyIn_ready (rs := [3]) (by kernel_rfl) (by simp) (AllReadyIn.cons rfl (fun K hK => ?_) (AllReadyIn.nil))
                    · go_simp
                      refine ⟨trivial, ?_⟩
                      refine (CallsIn.inRound l (callsIn_wide.2 (trimS_ok r y _ HRL.out HY.out))).mono ?_
                      rintro e w4 ⟨rfl, rfl⟩
                      go_simp
                      refine hK _ _ ?_
                      clear hK K
                      refine wpAnyIn_ready (rs := [4]) (by kernel_rfl) (by simp) (AllReadyIn.cons rfl (fun K hK => ?_) (AllReadyIn.nil))
                      · go_simp
                        refine ⟨trivial, ?_⟩
                        refine (CallsIn.inRound l (callsIn_wide.2 (HM.out _ ?h))).mono ?_
                        case h => exact (below_box _ _).drew
                        rintro e w5 ⟨rfl, hrd4, hfg4⟩
                        have HRD4 := hide hrd4
                        have HFG4 := hide hfg4
                        clear hrd4 hfg4
                        go_simp
                        refine hK _ _ ?_
                        clear hK K
                        refine wpAnyIn_done (by kernel_rfl) ?_ _
                        gi_wp2
                        go_roundw
                        case rel => exact ⟨4, by omega, by go_num, HRD4, HFG4⟩
                        case measure => simp [intOf]
                  · go_simp
                    refine ⟨trivial, ?_⟩
                    refine (CallsIn.inRound l (callsIn_wide.2 (trimS_ok r y _ HRL.out HY.out))).mono ?_
                    rintro e w4 ⟨rfl, rfl⟩
                    go_simp
                    refine hK _ _ ?_
                    clear hK K
                    refine wpAnyIn_ready (rs := [1]) (by kernel_rfl) (by simp) (AllReadyIn.cons rfl (fun K hK => ?_) (AllReadyIn.nil))
                    · go_simp
                      refine hK _ _ ?_
                      clear hK K
                      refine wpAnyIn_ready (rs := [4]) (by kernel_rfl) (by simp) (AllReadyIn.cons rfl (fun K hK => ?_) (AllReadyIn.nil))
                      · go_simp
                        refine ⟨trivial, ?_⟩
                        refine (CallsIn.inRound l (callsIn_wide.2 (HM.out _ ?h))).mono ?_
                        case h => exact (below_box _ _).drew
                        rintro e w5 ⟨rfl, hrd4, hfg4⟩
                        have HRD4 := hide hrd4
                        have HFG4 := hide hfg4
                        clear hrd4 hfg4
                        go_simp
                        refine hK _ _ ?_
                        clear hK K
                        refine wpAnyIn_done (by kernel_rfl) ?_ _
                        gi_wp2
                        go_roundw
                        case rel => exact ⟨4, by omega, by go_num, HRD4, HFG4⟩
                        case measure => simp [intOf]
                · go_simp
                  refine ⟨trivial, ?_⟩
                  refine (CallsIn.inRound l (callsIn_wide.2 (trimS_ok r y _ HRL.out HY.out))).mono ?_
                  rintro e w4 ⟨rfl, rfl⟩
                  go_simp
                  refine hK _ _ ?_
                  clear hK K
                  refine wpAnyIn_ready (rs := [0]) (by kernel_rfl) (by simp) (AllReadyIn.cons rfl (fun K hK => ?_) (AllReadyIn.nil))
                  · go_simp
                    refine hK _ _ ?_
                    clear hK K
                    refine wpAnyIn_ready (rs := [1]) (by kernel_rfl) (by simp) (AllReadyIn.cons rfl (fun K hK => ?_) (AllReadyIn.nil))
                    · go_simp
                      refine hK _ _ ?_
                      clear hK K
                      refine wpAnyIn_ready (rs := [4]) (by kernel_rfl) (by simp) (AllReadyIn.cons rfl (fun K hK => ?_) (AllReadyIn.nil))
                      · go_simp
                        refine ⟨trivial, ?_⟩
                        refine (CallsIn.inRound l (callsIn_wide.2 (HM.out _ ?h))).mono ?_
                        case h => exact (below_box _ _).drew
                        rintro e w5 ⟨rfl, hrd4, hfg4⟩
                        have HRD4 := hide hrd4
                        have HFG4 := hide hfg4
                        clear hrd4 hfg4
                        go_simp
                        refine hK _ _ ?_
                        clear hK K
                        refine wpAnyIn_done (by kernel_rfl) ?_ _
                        gi_wp2
                        go_roundw
                        case rel => exact ⟨4, by omega, by go_num, HRD4, HFG4⟩
                        case measure => simp [intOf]
          · have q0 : wr.cell? ⟨g + 1, 8, none⟩ = some (.string ⟨#[112, 114, 111, 102, 105, 108, 101, 32]⟩) := by rw [HKC.out 8]; rfl
            have q1 : wr.cell? ⟨g + 1, 9, none⟩ = some (.func (.func 38) #[.pointer (some ⟨g, 0, none⟩)] #[]) := by rw [HKC.out 9]; rfl
            have hent := e4
            obtain ⟨r, hr⟩ : ∃ r : ByteArray, (⟨(Lib.trimPrefix x.data.toList (Hog.wordM 4)).toArray⟩ : ByteArray) = r := ⟨_, rfl⟩
            have HR := hide hr
            cases hp : Lib.hasPrefix x.data.toList (Hog.wordM 4) with
            | false =>
              have HP := hide hp
              clear hp hr
              gi_wp2_with (refine ⟨trivial, ?_⟩; gi_at_call 40; refine (CallsIn.inRound l (callsIn_wide.2 (cut_ok x ⟨#[112, 114, 111, 102, 105, 108, 101, 32]⟩ r false _ HR.out HP.out))).mono ?_; rintro e w1 ⟨rfl, rfl⟩)
              gi_wp2
              go_roundw
              case rel => exact ⟨5, by omega, by go_num, by rw [upK_succ, kind_no HP.out]; exact hrd.out.below (below_box _ _), hfg.out.after (below_box _ _) HLO.out (by omega)⟩
              case measure => simp [intOf]
            | true =>
              have HP := hide hp
              have hrl : r.size ≤ x.size := by
                rw [← hr]; show (Lib.trimPrefix x.data.toList (Hog.wordM 4)).toArray.size ≤ _
                unfold Lib.trimPrefix
                rw [if_pos hp, List.size_toArray, List.length_drop, ← Hog.size_len]; omega
              obtain ⟨y, hy⟩ : ∃ y, Hog.mk (Hog.trimM r.data.toList) = y := ⟨_, rfl⟩
              have hyl : y.size ≤ x.size := by
                rw [← hy, Hog.mk_size]
                have := trim_le r.data.toList
                rw [← Hog.size_len] at this; omega
              have HY := hide hy
              have HRL : Hid (r.size < 900000) := by have := HXL.out; show _ < _; omega
              have HPUT : Hid (Hog.putM polF 4 (upK (readB pre) x.data.toList 4) y = upK (readB pre) x.data.toList 5) := by
                rw [show (5 : Nat) = 4 + 1 from rfl, upK_succ (readB pre) x.data.toList 4, kind_yes hp, ← hy, ← hr, show ((⟨(Lib.trimPrefix x.data.toList (Hog.wordM 4)).toArray⟩ : ByteArray)).data.toList = Lib.trimPrefix x.data.toList (Hog.wordM 4) from Hog.mk_data _]; exact rfl
              have HM : Hid (∀ W', Below wr.heap.size wr W' → Calls Tryz.prog 38 #[.pointer (some ⟨g, 0, none⟩), .string y] W' fun e w' => e = .returned (.tuple #[]) ∧ RdP 58 w' g (g + 4) (upK (readB pre) x.data.toList 5) ∧ FrG g (g + 4) W2 w') := fun W' hb => by
                refine ((meth_ok W' g (g + 4) _ y (by omega) (hrd.out.below hb) (HBM.out 4 (by omega)) (by have := HXL.out; omega) (HER.out W' (hfg.out.below.trans (hb.mono (by have := HLO.out; omega))))).2.2.2.2).mono ?_
                rintro e w' ⟨h1, h2, h3⟩
                rw [HPUT.out] at h2
                exact ⟨h1, h2, (hfg.out.after hb HLO.out (by omega)).trans h3⟩
              clear hp hr hy
              gi_wp2_with (refine ⟨trivial, ?_⟩; gi_at_call 40; refine (CallsIn.inRound l (callsIn_wide.2 (cut_ok x ⟨#[112, 114, 111, 102, 105, 108, 101, 32]⟩ r true _ HR.out HP.out))).mono ?_; rintro e w1 ⟨rfl, rfl⟩)
              refine wpIn_region_any (by kernel_rfl) ?_
              change wpAnyIn _ _ _ _ _ _ _ _ _ (World.drew _)
              refine wpAnyIn_ready (rs := [0, 2]) (by kernel_rfl) (by simp) (AllReadyIn.cons rfl (fun K hK => ?_) (AllReadyIn.cons rfl (fun K hK => ?_) (AllReadyIn.nil)))
              · go_simp
                refine hK _ _ ?_
                clear hK K
                refine wpAnyIn_ready (rs := [1, 2]) (by kernel_rfl) (by simp) (AllReadyIn.cons rfl (fun K hK => ?_) (AllReadyIn.cons rfl (fun K hK => ?_) (AllReadyIn.nil)))
                · go_simp
                  refine hK _ _ ?_
                  clear hK K
                  refine wpAnyIn_ready (rs := [2]) (by kernel_rfl) (by simp) (AllReadyIn.cons rfl (fun K hK => ?_) (AllReadyIn.nil))
                  · go_simp
                    refine hK _ _ ?_
                    clear hK K
                    refine wpAnyIn_ready (rs := [3]) (by kernel_rfl) (by simp) (AllReadyIn.cons rfl (fun K hK => ?_) (AllReadyIn.nil))
                    · go_simp
                      refine ⟨trivial, ?_⟩
                      refine (CallsIn.inRound l (callsIn_wide.2 (trimS_ok r y _ HRL.out HY.out))).mono ?_
                      rintro e w4 ⟨rfl, rfl⟩
                      go_simp
                      refine hK _ _ ?_
                      clear hK K
                      refine wpAnyIn_ready (rs := [4]) (by kernel_rfl) (by simp) (AllReadyIn.cons rfl (fun K hK => ?_) (AllReadyIn.nil))
                      · go_simp
                        refine ⟨trivial, ?_⟩
                        refine (CallsIn.inRound l (callsIn_wide.2 (HM.out _ ?h))).mono ?_
                        case h => exact (below_box _ _).drew
                        rintro e w5 ⟨rfl, hrd4, hfg4⟩
                        have HRD4 := hide hrd4
                        have HFG4 := hide hfg4
                        clear hrd4 hfg4
                        go_simp
                        refine hK _ _ ?_
                        clear hK K
                        refine wpAnyIn_done (by kernel_rfl) ?_ _
                        gi_wp2
                        go_roundw
                        case rel => exact ⟨5, by omega, by go_num, HRD4, HFG4⟩
                        case measure => simp [intOf]
                · go_simp
                  refine hK _ _ ?_
                  clear hK K
                  refine wpAnyIn_ready (rs := [1, 3]) (by kernel_rfl) (by simp) (AllReadyIn.cons rfl (fun K hK => ?_) (AllReadyIn.cons rfl (fun K hK => ?_) (AllReadyIn.nil)))
                  · go_simp
                    refine hK _ _ ?_
                    clear hK K
                    refine wpAnyIn_ready (rs := [3]) (by kernel_rfl) (by simp) (AllReadyIn.cons rfl (fun K hK => ?_) (AllReadyIn.nil))
                    · go_simp
                      refine ⟨trivial, ?_⟩
                      refine (CallsIn.inRound l (callsIn_wide.2 (trimS_ok r y _ HRL.out HY.out))).mono ?_
                      rintro e w4 ⟨rfl, rfl⟩
                      go_simp
                      refine hK _ _ ?_
                      clear hK K
                      refine wpAnyIn_ready (rs := [4]) (by kernel_rfl) (by simp) (AllReadyIn.cons rfl (fun K hK => ?_) (AllReadyIn.nil))
                      · go_simp
                        refine ⟨trivial, ?_⟩
                        refine (CallsIn.inRound l (callsIn_wide.2 (HM.out _ ?h))).mono ?_
                        case h => exact (below_box _ _).drew
                        rintro e w5 ⟨rfl, hrd4, hfg4⟩
                        have HRD4 := hide hrd4
                        have HFG4 := hide hfg4
                        clear hrd4 hfg4
                        go_simp
                        refine hK _ _ ?_
                        clear hK K
                        refine wpAnyIn_done (by kernel_rfl) ?_ _
                        gi_wp2
                        go_roundw
                        case rel => exact ⟨5, by omega, by go_num, HRD4, HFG4⟩
                        case measure => simp [intOf]
                  · go_simp
                    refine ⟨trivial, ?_⟩
                    refine (CallsIn.inRound l (callsIn_wide.2 (trimS_ok r y _ HRL.out HY.out))).mono ?_
                    rintro e w4 ⟨rfl, rfl⟩
                    go_simp
                    refine hK _ _ ?_
                    clear hK K
                    refine wpAnyIn_ready (rs := [1]) (by kernel_rfl) (by simp) (AllReadyIn.cons rfl (fun K hK => ?_) (AllReadyIn.nil))
                    · go_simp
                      refine hK _ _ ?_
                      clear hK K
                      refine wpAnyIn_ready (rs := [4]) (by kernel_rfl) (by simp) (AllReadyIn.cons rfl (fun K hK => ?_) (AllReadyIn.nil))
                      · go_simp
                        refine ⟨trivial, ?_⟩
                        refine (CallsIn.inRound l (callsIn_wide.2 (HM.out _ ?h))).mono ?_
                        case h => exact (below_box _ _).drew
                        rintro e w5 ⟨rfl, hrd4, hfg4⟩
                        have HRD4 := hide hrd4
                        have HFG4 := hide hfg4
                        clear hrd4 hfg4
                        go_simp
                        refine hK _ _ ?_
                        clear hK K
                        refine wpAnyIn_done (by kernel_rfl) ?_ _
                        gi_wp2
                        go_roundw
                        case rel => exact ⟨5, by omega, by go_num, HRD4, HFG4⟩
                        case measure => simp [intOf]
              · go_simp
                refine hK _ _ ?_
                clear hK K
                refine wpAnyIn_ready (rs := [0, 3]) (by kernel_rfl) (by simp) (AllReadyIn.cons rfl (fun K hK => ?_) (AllReadyIn.cons rfl (fun K hK => ?_) (AllReadyIn.nil)))
                · go_simp
                  refine hK _ _ ?_
                  clear hK K
                  refine wpAnyIn_ready (rs := [1, 3]) (by kernel_rfl) (by simp) (AllReadyIn.cons rfl (fun K hK => ?_) (AllReadyIn.cons rfl (fun K hK => ?_) (AllReadyIn.nil)))
                  · go_simp
                    refine hK _ _ ?_
                    clear hK K
                    refine wpAnyIn_ready (rs := [3]) (by kernel_rfl) (by simp) (AllReadyIn.cons rfl (fun K hK => ?_) (AllReadyIn.nil))
                    · go_simp
                      refine ⟨trivial, ?_⟩
                      refine (CallsIn.inRound l (callsIn_wide.2 (trimS_ok r y _ HRL.out HY.out))).mono ?_
                      rintro e w4 ⟨rfl, rfl⟩
                      go_simp
                      refine hK _ _ ?_
                      clear hK K
                      refine wpAnyIn_ready (rs := [4]) (by kernel_rfl) (by simp) (AllReadyIn.cons rfl (fun K hK => ?_) (AllReadyIn.nil))
                      · go_simp
                        refine ⟨trivial, ?_⟩
                        refine (CallsIn.inRound l (callsIn_wide.2 (HM.out _ ?h))).mono ?_
                        case h => exact (below_box _ _).drew
                        rintro e w5 ⟨rfl, hrd4, hfg4⟩
                        have HRD4 := hide hrd4
                        have HFG4 := hide hfg4
                        clear hrd4 hfg4
                        go_simp
                        refine hK _ _ ?_
                        clear hK K
                        refine wpAnyIn_done (by kernel_rfl) ?_ _
                        gi_wp2
                        go_roundw
                        case rel => exact ⟨5, by omega, by go_num, HRD4, HFG4⟩
                        case measure => simp [intOf]
                  · go_simp
                    refine ⟨trivial, ?_⟩
                    refine (CallsIn.inRound l (callsIn_wide.2 (trimS_ok r y _ HRL.out HY.out))).mono ?_
                    rintro e w4 ⟨rfl, rfl⟩
                    go_simp
                    refine hK _ _ ?_
                    clear hK K
                    refine wpAnyIn_ready (rs := [1]) (by kernel_rfl) (by simp) (AllReadyIn.cons rfl (fun K hK => ?_) (AllReadyIn.nil))
                    · go_simp
                      refine hK _ _ ?_
                      clear hK K
                      refine wpAnyIn_ready (rs := [4]) (by kernel_rfl) (by simp) (AllReadyIn.cons rfl (fun K hK => ?_) (AllReadyIn.nil))
                      · go_simp
                        refine ⟨trivial, ?_⟩
                        refine (CallsIn.inRound l (callsIn_wide.2 (HM.out _ ?h))).mono ?_
                        case h => exact (below_box _ _).drew
                        rintro e w5 ⟨rfl, hrd4, hfg4⟩
                        have HRD4 := hide hrd4
                        have HFG4 := hide hfg4
                        clear hrd4 hfg4
                        go_simp
                        refine hK _ _ ?_
                        clear hK K
                        refine wpAnyIn_done (by kernel_rfl) ?_ _
                        gi_wp2
                        go_roundw
                        case rel => exact ⟨5, by omega, by go_num, HRD4, HFG4⟩
                        case measure => simp [intOf]
                · go_simp
                  refine ⟨trivial, ?_⟩
                  refine (CallsIn.inRound l (callsIn_wide.2 (trimS_ok r y _ HRL.out HY.out))).mono ?_
                  rintro e w4 ⟨rfl, rfl⟩
                  go_simp
                  refine hK _ _ ?_
                  clear hK K
                  refine wpAnyIn_ready (rs := [0]) (by kernel_rfl) (by simp) (AllReadyIn.cons rfl (fun K hK => ?_) (AllReadyIn.nil))
                  · go_simp
                    refine hK _ _ ?_
                    clear hK K
                    refine wpAnyIn_ready (rs := [1]) (by kernel_rfl) (by simp) (AllReadyIn.cons rfl (fun K hK => ?_) (AllReadyIn.nil))
                    · go_simp
                      refine hK _ _ ?_
                      clear hK K
                      refine wpAnyIn_ready (rs := [4]) (by kernel_rfl) (by simp) (AllReadyIn.cons rfl (fun K hK => ?_) (AllReadyIn.nil))
                      · go_simp
                        refine ⟨trivial, ?_⟩
                        refine (CallsIn.inRound l (callsIn_wide.2 (HM.out _ ?h))).mono ?_
                        case h => exact (below_box _ _).drew
                        rintro e w5 ⟨rfl, hrd4, hfg4⟩
                        have HRD4 := hide hrd4
                        have HFG4 := hide hfg4
                        clear hrd4 hfg4
                        go_simp
                        refine hK _ _ ?_
                        clear hK K
                        refine wpAnyIn_done (by kernel_rfl) ?_ _
                        gi_wp2
                        go_roundw
                        case rel => exact ⟨5, by omega, by go_num, HRD4, HFG4⟩
                        case measure => simp [intOf]
        · obtain rfl : k = 5 := by omega
          have HEND : Hid (RdP 58 wr g (g + 4) (readB (pre ++ [x]))) := by rw [readB_snoc]; exact hrd.out
          gi_wp2
          exact ⟨hfg.out.oth, hfg.out.low _ (by omega) (by omega), HEND.out, HFR.out.next hfg.out (by omega)⟩
end Go.Proofs.YtmlkknbndglgaaaGreatDoor
