/- copy of nodes within one row of one's own, as a step of a region; the plain facts of an insertion; the walk of the reference's Sort. -/
import Derived.Test.YteablfekfijnhaaDoorT4
import Derived.Test.YteablfekfijnhaaDoorS8
import Derived.Laws.CopyRow
import Derived.Laws.IdiomCopy
import Derived.Deep.RegionLaw
namespace Go.Proofs.YteablfekfijnhaaDoor
open Go.RowKit

theorem run_copy_wide {P : Program} (w : World) (dT sT ty elem : TypeId) (g o dLen dCap : Nat) (a : Addr) (sLen sCap size : Nat) (cur : Array Value) (t : TypeId) (cs : List Value)
    (hu : P.underlying dT = some (.slice elem)) (hs : (P.info? elem).map (·.size) = some size)
    (hg : w.heap[g]? = some (.cells cur t (0, 0))) (hn : cs.length = Nat.min sLen dLen * size)
    (hsrc : ∀ j v, cs[j]? = some v → w.cell? (a.add j) = some v) (hfit : o + cs.length ≤ cur.size) (h1 : ∀ v ∈ cs, v.oneCell' = true) :
    (Builtin.copy_ #[dT, sT] ty #[.slice (some ⟨g, o, none⟩) dLen dCap, .slice (some a) sLen sCap]).run P w =
      .ok (goInt (Nat.min sLen dLen)) (w.setRow g (cur.toList.take o ++ cs ++ cur.toList.drop (o + cs.length)).toArray) := by
  have hl := run_loadCells_list (P := P) w a cs hsrc
  have hst := run_storeCells_at P g o t cs 0 cur w hg (by simpa using hfit) h1
  cases hq : P.info? elem with
  | none => simp [hq] at hs
  | some i =>
    have hi : i.size = size := by simpa [hq] using hs
    rw [hn] at hl
    simp [Builtin.copy_, run_underlying hu, Builtin.lenOf, Builtin.firstCells, sizeOf, typeInfo, hq, hi, hl, hst]
theorem run_copy_wide_none {P : Program} (w : World) (dT sT ty elem : TypeId) (d a : Option Addr) (dLen dCap sLen sCap size : Nat) (hu : P.underlying dT = some (.slice elem)) (hs : (P.info? elem).map (·.size) = some size) (hn : Nat.min sLen dLen = 0) :
    (Builtin.copy_ #[dT, sT] ty #[.slice d dLen dCap, .slice a sLen sCap]).run P w = .ok (goInt 0) w := by
  cases hq : P.info? elem with
  | none => simp [hq] at hs
  | some i =>
    have hl : ∀ (x : Addr), (loadCells x 0).run P w = .ok #[] w := fun x => by simpa using run_loadCells_list (P := P) w x [] (by simp)
    cases d <;> cases a <;> simp [Builtin.copy_, run_underlying hu, Builtin.lenOf, Builtin.firstCells, sizeOf, typeInfo, hq, hn, storeCells, hl]

theorem size_node : (Tryd.prog.info? 37).map (·.size) = some 3 := by
  obtain ⟨i0, hi, hz0, hz1, hz2⟩ := info_parts A24
  rw [hi]; simp [hz1]

/-- The row of nodes xs, of length m + 1, moved one place back from place k on. -/
def shifted (xs : List Nd) (k m : Nat) : List Nd := xs.take (k + 1) ++ (xs.drop k).take (m - k)
theorem shifted_len {xs : List Nd} {k m : Nat} (hm : xs.length = m + 1) (hk : k ≤ m) : (shifted xs k m).length = m + 1 := by
  unfold shifted; simp; omega
theorem run_shift (base : Nat) (w : World) (g cap m k : Nat) (xs : List Nd) (ty : TypeId) (h : OwnN base w (.slice (some ⟨g, 0, none⟩) xs.length cap) xs) (hm : xs.length = m + 1) (hk : k ≤ m)
    (dp sp : Option Addr) (dc sc : Nat) (hd : k < m → dp = some ⟨g, (k + 1) * 3, none⟩) (hs : k < m → sp = some ⟨g, k * 3, none⟩) (dl sl : Nat) (hdl : dl = m - k) (hsl : sl = m + 1 - k) :
    ∃ r w', (Builtin.copy_ #[25, 25] ty #[.slice dp dl dc, .slice sp sl sc]).run Tryd.prog w = .ok r w' ∧ OwnN base w' (.slice (some ⟨g, 0, none⟩) (shifted xs k m).length cap) (shifted xs k m) ∧ w.grownBy w' (some g) := by
  have hmin : Nat.min sl dl = m - k := by subst hdl hsl; exact Nat.min_eq_right (by omega)
  by_cases hkm : k < m
  · obtain rfl := hd hkm
    obtain rfl := hs hkm
    have h' := h
    rcases h.2 with ⟨e, _⟩ | ⟨g', cap', cur, e, hb, hg, hn, hcm, hcs, htake⟩
    · cases e
    · simp only [Value.slice.injEq, Option.some.injEq, Addr.mk.injEq, and_true, true_and] at e
      obtain ⟨rfl, rfl⟩ := e
      have hcl : (flat ((xs.drop k).take (m - k))).length = (m - k) * 3 := by rw [flat_len]; simp; omega
      have hrun := run_copy_wide (P := Tryd.prog) w 25 25 ty 37 g ((k + 1) * 3) dl dc ⟨g, k * 3, none⟩ sl sc 3 cur 37 (flat ((xs.drop k).take (m - k))) Tryd.underlying25 size_node hg
        (by rw [hmin, hcl])
        (fun j v hj => by
          rw [addN_plain]
          rw [← flat_take, ← flat_drop, List.getElem?_take] at hj
          split at hj
          · rw [List.getElem?_drop] at hj
            have := h'.cells (g := g) rfl _ _ hj
            rw [addN_plain, Nat.zero_add] at this
            exact this
          · cases hj)
        (by rw [hcl, hcs]; omega) (flat_one _)
      rw [hmin] at hrun
      refine ⟨_, _, hrun, ?_, ?_⟩
      · refine ⟨flat_len _, .inr ⟨g, cap, _, rfl, hb, setRow_heap w g cur _ 37 _ hg, ?_, hcm, ?_, ?_⟩⟩
        · rw [shifted_len hm hk]; omega
        · simp [hcl, hcs]; omega
        · have hlen : (shifted xs k m).length * 3 = (k + 1) * 3 + (m - k) * 3 := by rw [shifted_len hm hk]; omega
          have ht : cur.toList.take ((k + 1) * 3) = flat (xs.take (k + 1)) := by
            rw [← flat_take, ← htake, List.take_take, Nat.min_eq_left (by omega)]
          rw [hlen, ht]
          unfold shifted
          rw [flat_app]
          rw [List.take_append_of_le_length (by rw [List.length_append, flat_len, hcl]; simp; omega), List.take_of_length_le (by rw [List.length_append, flat_len, hcl]; simp; omega)]
      · exact ⟨rfl, rfl, rfl, by simp [World.setRow], fun j _ hne => setRow_other w g j _ (fun e => hne (by rw [e]))⟩
  · have e : m - k = 0 := by omega
    have hkk : k = m := by omega
    refine ⟨goInt 0, w, ?_, ?_, grown_refl _ _⟩
    · exact run_copy_wide_none w _ _ ty 37 dp sp dl dc sl sc 3 Tryd.underlying25 size_node (by rw [hmin, e])
    · have e2 : shifted xs k m = xs := by unfold shifted; rw [e, List.take_zero, List.append_nil, List.take_of_length_le (by omega)]
      rw [e2]
      exact h

theorem step_shift {ops : Array Oper} {o : Oper} {a : Act} {w : World} {K : Act → World → Prop} {Q : Exit → Act → World → Prop} {E : Prop} (hgd : o.guard = none) (d s : Operand)
    (ho : o.op = .call { callee := .builtin .copy, args := #[d, s], argTypes := #[25, 25] })
    (base g cap m k : Nat) (xs : List Nd) (h : OwnN base w (.slice (some ⟨g, 0, none⟩) xs.length cap) xs) (hm : xs.length = m + 1) (hk : k ≤ m)
    (dp sp : Option Addr) (dl dc sl sc : Nat) (hd : a.eval d = .slice dp dl dc) (hs : a.eval s = .slice sp sl sc) (hdp : k < m → dp = some ⟨g, (k + 1) * 3, none⟩) (hsp : k < m → sp = some ⟨g, k * 3, none⟩) (hdl : dl = m - k) (hsl : sl = m + 1 - k)
    (hK : ∀ r w', OwnN base w' (.slice (some ⟨g, 0, none⟩) (shifted xs k m).length cap) (shifted xs k m) → w.grownBy w' (some g) → K (a.put o.dst r) w') :
    if Region.wanted o (yielded ops a.tmps) = true then Oper.wp Tryd.prog o a w K Q else E := by
  have hw : Region.wanted o (yielded ops a.tmps) = true := by simp [Region.wanted, hgd]
  rw [if_pos hw]
  obtain ⟨r, w', hr, h1, h2⟩ := run_shift base w g cap m k xs o.type h hm hk dp sp dc sc hdp hsp dl sl hdl hsl
  unfold Oper.wp
  simp [execOp, ho, resolve, invoke, builtin, hd, hs, hr, Result.andThen]
  exact hK r w' h1 h2

/-- A node put in at place k. -/
theorem shifted_set {es : List Nd} {z y : Nd} {k : Nat} (hk : k ≤ es.length) : (shifted (es ++ [z]) k es.length).set k y = es.take k ++ y :: es.drop k := by
  unfold shifted
  have e1 : ((es ++ [z]).drop k).take (es.length - k) = es.drop k := by
    rw [List.drop_append_of_le_length hk, List.take_append_of_le_length (by simp), List.take_of_length_le (by simp)]
  have e2 : ∃ u, (es ++ [z]).take (k + 1) = es.take k ++ [u] := by
    have hlt : k < (es ++ [z]).length := by simp; omega
    refine ⟨(es ++ [z])[k], ?_⟩
    rw [List.take_succ_eq_append_getElem hlt, List.take_append_of_le_length hk]
  obtain ⟨u, e2⟩ := e2
  rw [e1, e2, List.append_assoc, List.set_append_right _ _ (by simp; omega)]
  have e3 : k - (es.take k).length = 0 := by simp; omega
  rw [e3]
  rfl

theorem ins_place {es : List Nd} {y : Nd} {k : Nat} (hs : Srtd es) (hk : k ≤ es.length) (h2 : ∀ x ∈ es.drop k, ltN y x = true) (h1 : k = 0 ∨ ∃ x, es[k - 1]? = some x ∧ ltN y x = false) :
    Srtd (es.take k ++ y :: es.drop k) ∧ Alike (es ++ [y]) (es.take k ++ y :: es.drop k) := by
  have hsp : Srtd (es.take k ++ es.drop k) := by rw [List.take_append_drop]; exact hs
  have h := ins_back hsp (fun x hx => by
    rcases h1 with rfl | ⟨z, hz, hzy⟩
    · simp at hx
    · obtain ⟨j, hj⟩ := List.mem_iff_getElem?.1 hx
      rw [List.getElem?_take] at hj
      split at hj
      · rename_i hjk
        by_cases e : j = k - 1
        · subst e
          rw [hz] at hj
          cases hj
          exact hzy
        · exact leN_trans (srtd_get.1 hs j (k - 1) x z (by omega) hj hz) hzy
      · cases hj) h2
  rw [List.take_append_drop] at h
  exact h
theorem drop_less {es : List Nd} {y x : Nd} {k : Nat} (hk : 0 < k) (hx : es[k - 1]? = some x) (h : ltN y x = true) (h2 : ∀ z ∈ es.drop k, ltN y z = true) : ∀ z ∈ es.drop (k - 1), ltN y z = true := by
  obtain ⟨hlt, rfl⟩ := List.getElem?_eq_some_iff.1 hx
  intro z hz
  rw [List.drop_eq_getElem_cons hlt, show k - 1 + 1 = k by omega] at hz
  rcases List.mem_cons.1 hz with rfl | hz
  · exact h
  · exact h2 z hz

theorem OwnN.some {base : Nat} {w : World} {b : Option Addr} {n c : Nat} {xs : List Nd} (h : OwnN base w (.slice b n c) xs) (hn : 0 < n) : ∃ g, b = .some ⟨g, 0, none⟩ ∧ base ≤ g ∧ g < w.heap.size ∧ n ≤ c := by
  rcases h.2 with ⟨e, h0⟩ | ⟨g, cap, cur, e, hb, hg, hnc, _⟩
  · simp at e; omega
  · simp only [Value.slice.injEq] at e
    obtain ⟨rfl, rfl, rfl⟩ := e
    exact ⟨g, rfl, hb, (Array.getElem?_eq_some_iff.1 hg).1, hnc⟩

theorem wpList_append_one {w : World} {ops : Array Oper} {rest : List Oper} {o : Oper} {a : Act} {Q : Exit → Act → World → Prop} (hgd : o.guard = none) (s x : Operand)
    (ho : o.op = .call { callee := .builtin .append, args := #[s, x], argTypes := #[25, 25] })
    (base : Nat) (v : Value) (i : Nat) (xs : List Nd) (hi : xs.length = i) (hs : a.eval s = v) (hown : OwnN base w v xs) (ao : Option Addr) (m c : Nat) (y : Nd) (hx : a.eval x = .slice ao m c) (hu : ArgN w ao m c [y])
    (hlen : i < 1000) (hbase : base ≤ w.heap.size)
    (h : ∀ g c w', OwnN base w' (.slice (some ⟨g, 0, none⟩) (xs ++ [y]).length c) (xs ++ [y]) → Below base w w' → base ≤ g → i + 1 ≤ c → wpList Tryd.prog ops Q rest (a.put o.dst (.slice (some ⟨g, 0, none⟩) (i + 1) c)) w') : wpList Tryd.prog ops Q (o :: rest) a w := by
  subst hi
  refine wpList_append_nodes hgd s x ho base v xs hs hown ao m c [y] hx hu (by simp; omega) hbase ?_
  intro b c1 w1 h1 h2
  obtain ⟨g, rfl, hb, _, hc⟩ := h1.some (by simp)
  exact h g c1 w1 (by rw [List.length_append]; exact h1) h2 hb hc

theorem more_yes {y x : Nd} (h : ltN y x = true) : Op.bytesLess x.1.toList y.1.toList = false ∧ (x.1.toList == y.1.toList) = false := by
  have k := ltN_yes h
  exact ⟨k.2, by simpa using k.1⟩
theorem more_no {y x : Nd} (h : ltN y x = false) : (!Op.bytesLess x.1.toList y.1.toList) = false ∨ (!x.1.toList == y.1.toList) = false := by
  rcases ltN_not h with k | k
  · exact .inr (by simpa using k)
  · exact .inl (by simpa using k)
theorem more_val {y x : Nd} (h : ltN y x = false) : (!Op.bytesLess x.1.toList y.1.toList && !x.1.toList == y.1.toList) = false := by
  rw [Bool.and_eq_false_iff]; exact more_no h

theorem wrap_in (n : Int) (h : -9223372036854775808 ≤ n ∧ n ≤ 9223372036854775807) : IntKind.i64.wrap n = n := by
  simp only [IntKind.wrap, IntKind.bits, IntKind.signed, Bool.true_and]
  split <;> rename_i h' <;> simp only [ge_iff_le, decide_eq_true_eq] at h' <;> omega

set_option maxRecDepth 100000 in
set_option maxHeartbeats 4000000 in
theorem rsort_some (b o c n : Nat) (ns : List Nd) (w : World) (hr : Run w b o ns) (hl : ns.length = n) (hn : n < 900) :
    Calls Tryd.prog 24 #[.slice (some ⟨b, o, none⟩) n c] w fun e w' => ∃ v es, e = .returned v ∧ OwnN w.heap.size w' v es ∧ Srtd es ∧ Alike ns es ∧ Below w.heap.size w w' := by
  have HR := hide hr
  have HL := hide hl
  clear hr hl
  obtain ⟨base, hbase⟩ : ∃ base, base = w.heap.size := ⟨_, rfl⟩
  have HBW : Hid (Below base w w) := by rw [hbase]; exact Below.refl _ _
  have HRB : Hid (b < base) := by rw [hbase]; exact HR.out.1
  rw [← hbase]
  have HBE := hide hbase
  clear hbase
  go_enter Tryd.func24, Tryd.ntmps24
  go_wp2
  go_loopw [3, 4] (fun v s wr => ∃ (i cc : Nat) (a : Option Addr), i ≤ n ∧ s = .int .i64 i ∧ v = .slice a i cc ∧ Hid (∃ es, es.length = i ∧ OwnN base wr (.slice a i cc) es ∧ Srtd es ∧ Alike (ns.take i) es) ∧ Hid (Below base w wr)) (fun _ s _ => n - (intOf s).toNat)
  case atStart => exact ⟨0, 0, none, by omega, rfl, rfl, ⟨[], rfl, OwnN.nil _ _, srtd_nil, by simp; exact Alike.refl _⟩, HBW⟩
  case round =>
    obtain ⟨i, cc, a, hin, rfl, rfl, HD, HB⟩ := hrel
    by_cases hlt : i < n
    · have hlt' : (i : Int) < (n : Int) := by omega
      obtain ⟨es, hes, ho, hs, hal⟩ := HD.out
      have HES := hide hes
      have HO := hide ho
      have HSR := hide hs
      have HAL := hide hal
      obtain ⟨y, hy⟩ : ∃ y, ns[i]? = some y := ⟨ns[i]'(by have := HL.out; omega), List.getElem?_eq_some_iff.2 ⟨_, rfl⟩⟩
      have HY := hide hy
      clear hes ho hs hal HD hy
      go_wp2
      go_loopw [5] (fun t wq => ∃ k : Nat, k ≤ i ∧ t = .int .i64 k ∧ Hid (∀ x ∈ es.drop k, ltN y x = true) ∧ Hid (OwnN base wq (.slice a i cc) es) ∧ Hid (Below base w wq)) (fun t _ => (intOf t).toNat)
      case atStart => exact ⟨i, Nat.le_refl _, rfl, by rw [← HES.out, List.drop_length]; exact fun x hx => by simp at hx, HO, HB⟩
      case round =>
        clear HO HB
        obtain ⟨k, hki, rfl, HDR, HOQ, HBQ⟩ := hrel
        by_cases hk0 : 0 < k
        · obtain ⟨q, rfl⟩ : ∃ q, k = q + 1 := ⟨k - 1, by omega⟩
          obtain ⟨g, rfl, hbg, hgl, hicc⟩ := HOQ.out.some (by omega)
          obtain ⟨x, hx⟩ : ∃ x, es[q]? = some x := ⟨es[q]'(by have := HES.out; omega), List.getElem?_eq_some_iff.2 ⟨_, rfl⟩⟩
          have HX := hide hx
          have hax := fun j (hj : j < es.length * 3) => World.ownsRow.cellAt (w := wr) (base := base) (e := 37) (size := 3) (g := g) (cap := cc) (n := es.length) (xs := flat es) (by have := HOQ.out; rw [← HES.out] at this; exact this) j hj
          have f1 : wr.cell? ⟨g, q * 3, none⟩ = some (.string x.1) := (hax (q * 3) (by have := HES.out; omega)).trans (flat_get hx).1
          have g1 : wr.cell? ⟨b, o + i * 3, none⟩ = some (.string y.1) := ((HR.out.2 i y HY.out).below HBQ.out HRB.out).path
          clear hax hx
          have hq0 : (0 : Int) < (q : Int) + 1 := by omega
          cases hyx : ltN y x with
          | true =>
            obtain ⟨hb1, hb2⟩ := more_yes hyx
            have HYX := hide hyx
            clear hyx
            go_wp2
            go_quiet (fail)
            go_wp2
            go_roundw
            case rel => exact ⟨q, by omega, by go_num, by have := drop_less (k := q + 1) (by omega) HX.out HYX.out HDR.out; exact this, HOQ.out.below (below_drewN (Below.refl _ _) nq), below_drewN HBQ.out nq⟩
            case measure => simp [intOf]
          | false =>
            have hb1 := more_no hyx
            have hb2 := more_val hyx
            have HYX := hide hyx
            clear hyx
            go_wp2
            go_quiet (fail)
            have HOQ2 : Hid (OwnN base (wr.drewN nq) (.slice (some ⟨g, 0, none⟩) i cc) es) := HOQ.out.below (below_drewN (Below.refl _ _) nq)
            have HBQ2 : Hid (Below base w (wr.drewN nq)) := below_drewN HBQ.out nq
            have hzs : base ≤ (wr.drewN nq).heap.size := by rw [HBE.out]; exact HBQ2.out.size
            have hzs2 : base ≤ wr.heap.size := by rw [HBE.out]; exact HBQ.out.size
            have HINS : Hid (Srtd (es.take (q + 1) ++ y :: es.drop (q + 1)) ∧ Alike (es ++ [y]) (es.take (q + 1) ++ y :: es.drop (q + 1))) := ins_place HSR.out (by have := HES.out; omega) HDR.out (.inr ⟨x, HX.out, HYX.out⟩)
            have HOA := hide (HOQ2.out.alloc (.cells #[.string ⟨#[]⟩, .int .i64 0, .string ⟨#[]⟩] 37))
            have HAA := hide ((Run.one (wr.drewN nq) ((⟨#[]⟩ : ByteArray), (0 : Int), (⟨#[]⟩ : ByteArray))).arg (c := 1) (by simp))
            have HOA2 : Hid (OwnN base ((wr.drewN nq).alloc (.cells #[.string ⟨#[]⟩, .int .i64 0, .string ⟨#[]⟩] 37)) (.slice (some ⟨g, 0, none⟩) i cc) es) := HOA.out
            clear HOA
            go_wp2_with (at_builtin; refine wpList_append_one rfl _ _ rfl base (.slice (some ⟨g, 0, none⟩) i cc) i es HES.out rfl HOA2.out _ _ _ ((⟨#[]⟩ : ByteArray), (0 : Int), (⟨#[]⟩ : ByteArray)) rfl HAA.out (by omega) (by simp; omega) ?_)
            intro g5 c5 w5 ho hb hg5 hc5
            have HB5 : Hid (Below base w w5) := HBQ2.out.trans (((Below.refl base (wr.drewN nq)).alloc hzs (.cells #[.string ⟨#[]⟩, .int .i64 0, .string ⟨#[]⟩] 37)).trans hb)
            have HOX : Hid (OwnN base w5.drew (.slice (some ⟨g5, 0, none⟩) (es ++ [((⟨#[]⟩ : ByteArray), (0 : Int), (⟨#[]⟩ : ByteArray))]).length c5) (es ++ [((⟨#[]⟩ : ByteArray), (0 : Int), (⟨#[]⟩ : ByteArray))])) := by
              have h := ho.below (Below.refl _ w5).drew
              show OwnN _ _ _ _
              rw [List.length_append]
              exact h
            have HXL : Hid ((es ++ [((⟨#[]⟩ : ByteArray), (0 : Int), (⟨#[]⟩ : ByteArray))]).length = i + 1) := by show _ = _; rw [List.length_append, HES.out]; rfl
            clear ho hb HOA2 HAA HOQ2 HBQ2 hzs
            obtain ⟨dp, hif⟩ : ∃ dp : Option Addr, (if c5 = q + 2 then some (⟨g5, 0, none⟩ : Addr) else some ⟨g5, (q + 2) * 3, none⟩) = dp := ⟨_, rfl⟩
            have HDP : Hid (q + 1 < i → dp = some ⟨g5, (q + 1 + 1) * 3, none⟩) := fun h => by rw [← hif, if_neg (by omega)]
            have hw1 : IntKind.i64.wrap (((q : Int) + 1) + 1) = ((q : Int) + 1) + 1 := wrap_in _ (by omega)
            have b1 : (0 : Int) ≤ ((q : Int) + 1) + 1 := by omega
            have b2 : ((q : Int) + 1) ≤ (i : Int) := by omega
            have b3 : (0 : Int) ≤ ((q : Int) + 1) := by omega
            have b4 : ((q : Int) + 1) ≤ (i : Int) + 1 := by omega
            have b5 : (((q : Int) + 1) + 1).toNat = q + 2 := by omega
            have hck : ¬ c5 = q + 1 := by omega
            go_wp2
            go_region_law (refine step_shift rfl (.tmp 39) (.tmp 42) rfl base g5 c5 i (q + 1) _ HOX.out HXL.out hki dp (some ⟨g5, (q + 1) * 3, none⟩) (i - (q + 1)) (c5 - (q + 2)) (i + 1 - (q + 1)) (c5 - (q + 1)) (by simp [Act.eval, Act.put]) (by simp [Act.eval, Act.put]) HDP.out (fun _ => rfl) (by omega) (by omega) ?_; intro r6 w6 ho6 hg6)
            have HO6 := hide ho6
            have HB6 := hide ((HB5.out.drew).grown hg6 (by rw [HBE.out]; exact HB5.out.drew.size) (fun j hj => by simp at hj; omega))
            have HS6 := hide (HO6.out.stored (q + 1) (by rw [shifted_len HXL.out hki]; omega) y)
            clear ho6 hg6 HOX HDP
            obtain ⟨y1, y2, y3⟩ := (HR.out.2 i y HY.out).below HB6.out HRB.out
            have hf := fun j => World.ownsRow.frozenAt HO6.out j
            have hcl := fun j (hj : j < (shifted (es ++ [((⟨#[]⟩ : ByteArray), (0 : Int), (⟨#[]⟩ : ByteArray))]) (q + 1) i).length * 3) => World.ownsRow.cellAt HO6.out j hj
            have hsl := shifted_len HXL.out hki
            obtain ⟨v1, e1⟩ : ∃ v, w6.cell? ⟨g5, (q + 1) * 3, none⟩ = some v := by
              have hj : (q + 1) * 3 < (flat (shifted (es ++ [((⟨#[]⟩ : ByteArray), (0 : Int), (⟨#[]⟩ : ByteArray))]) (q + 1) i)).length := by rw [flat_len, hsl]; omega
              exact ⟨_, (hcl ((q + 1) * 3) (by rw [hsl]; omega)).trans (List.getElem?_eq_getElem hj)⟩
            obtain ⟨v2, e2⟩ : ∃ v, w6.cell? ⟨g5, (q + 1) * 3 + 1, none⟩ = some v := by
              have hj : (q + 1) * 3 + 1 < (flat (shifted (es ++ [((⟨#[]⟩ : ByteArray), (0 : Int), (⟨#[]⟩ : ByteArray))]) (q + 1) i)).length := by rw [flat_len, hsl]; omega
              exact ⟨_, (hcl ((q + 1) * 3 + 1) (by rw [hsl]; omega)).trans (List.getElem?_eq_getElem hj)⟩
            obtain ⟨v3, e3⟩ : ∃ v, w6.cell? ⟨g5, (q + 1) * 3 + 2, none⟩ = some v := by
              have hj : (q + 1) * 3 + 2 < (flat (shifted (es ++ [((⟨#[]⟩ : ByteArray), (0 : Int), (⟨#[]⟩ : ByteArray))]) (q + 1) i)).length := by rw [flat_len, hsl]; omega
              exact ⟨_, (hcl ((q + 1) * 3 + 2) (by rw [hsl]; omega)).trans (List.getElem?_eq_getElem hj)⟩
            have p1 := hf ((q + 1) * 3)
            have p2 := hf ((q + 1) * 3 + 1)
            have p3 := hf ((q + 1) * 3 + 2)
            clear hf hcl hsl hif
            go_wp2
            go_roundw
            case rel =>
              refine ⟨i + 1, c5, some ⟨g5, 0, none⟩, by omega, by go_num, rfl, ⟨es.take (q + 1) ++ y :: es.drop (q + 1), by simp; have := HES.out; omega, ?_, HINS.out.1, ?_⟩, ?_⟩
              · have h7 := HS6.out
                rw [← HES.out, shifted_set (by have := HES.out; omega)] at h7
                have h8 : (es.take (q + 1) ++ y :: es.drop (q + 1)).length = i + 1 := by simp; have := HES.out; omega
                rw [h8] at h7
                simpa using h7
              · have h9 : ns.take (i + 1) = ns.take i ++ [y] := by
                  obtain ⟨h10, h11⟩ := List.getElem?_eq_some_iff.1 HY.out
                  rw [List.take_succ_eq_append_getElem h10, h11]
                rw [h9]
                exact (HAL.out.app (Alike.refl [y])).trans HINS.out.2
              · exact ((HB6.out.setCell (by omega) _).setCell (by omega) _).setCell (by omega) _
            case measure => simp [intOf]; omega
        · have e : k = 0 := by omega
          subst e
          have hw2 : IntKind.i64.wrap 1 = 1 := by decide
          have hb0 : (1 : Int) ≤ (i : Int) + 1 := by omega
          have hno : decide ((0 : Int) < 0) = false := by decide
          go_wp2
          go_quiet (fail)
          have HOQ2 : Hid (OwnN base (wr.drewN nq) (.slice a i cc) es) := HOQ.out.below (below_drewN (Below.refl _ _) nq)
          have HBQ2 : Hid (Below base w (wr.drewN nq)) := below_drewN HBQ.out nq
          have hzs : base ≤ (wr.drewN nq).heap.size := by rw [HBE.out]; exact HBQ2.out.size
          have hzs2 : base ≤ wr.heap.size := by rw [HBE.out]; exact HBQ.out.size
          have HINS : Hid (Srtd (es.take (0) ++ y :: es.drop (0)) ∧ Alike (es ++ [y]) (es.take (0) ++ y :: es.drop (0))) := ins_place HSR.out (by have := HES.out; omega) HDR.out (.inl rfl)
          have HOA := hide (HOQ2.out.alloc (.cells #[.string ⟨#[]⟩, .int .i64 0, .string ⟨#[]⟩] 37))
          have HAA := hide ((Run.one (wr.drewN nq) ((⟨#[]⟩ : ByteArray), (0 : Int), (⟨#[]⟩ : ByteArray))).arg (c := 1) (by simp))
          have HOA2 : Hid (OwnN base ((wr.drewN nq).alloc (.cells #[.string ⟨#[]⟩, .int .i64 0, .string ⟨#[]⟩] 37)) (.slice a i cc) es) := HOA.out
          clear HOA
          go_wp2_with (at_builtin; refine wpList_append_one rfl _ _ rfl base (.slice a i cc) i es HES.out rfl HOA2.out _ _ _ ((⟨#[]⟩ : ByteArray), (0 : Int), (⟨#[]⟩ : ByteArray)) rfl HAA.out (by omega) (by simp; omega) ?_)
          intro g5 c5 w5 ho hb hg5 hc5
          have HB5 : Hid (Below base w w5) := HBQ2.out.trans (((Below.refl base (wr.drewN nq)).alloc hzs (.cells #[.string ⟨#[]⟩, .int .i64 0, .string ⟨#[]⟩] 37)).trans hb)
          have HOX : Hid (OwnN base w5.drew (.slice (some ⟨g5, 0, none⟩) (es ++ [((⟨#[]⟩ : ByteArray), (0 : Int), (⟨#[]⟩ : ByteArray))]).length c5) (es ++ [((⟨#[]⟩ : ByteArray), (0 : Int), (⟨#[]⟩ : ByteArray))])) := by
            have h := ho.below (Below.refl _ w5).drew
            show OwnN _ _ _ _
            rw [List.length_append]
            exact h
          have HXL : Hid ((es ++ [((⟨#[]⟩ : ByteArray), (0 : Int), (⟨#[]⟩ : ByteArray))]).length = i + 1) := by show _ = _; rw [List.length_append, HES.out]; rfl
          clear ho hb HOA2 HAA HOQ2 HBQ2 hzs
          obtain ⟨dp, hif⟩ : ∃ dp : Option Addr, (if c5 = 1 then some (⟨g5, 0, none⟩ : Addr) else some ⟨g5, 3, none⟩) = dp := ⟨_, rfl⟩
          have HDP : Hid (0 < i → dp = some ⟨g5, (0 + 1) * 3, none⟩) := fun h => by rw [← hif, if_neg (by omega)]
          have hw1 : IntKind.i64.wrap ((0 : Int) + 1) = (0 : Int) + 1 := wrap_in _ (by omega)
          have b1 : (0 : Int) ≤ (0 : Int) + 1 := by omega
          have b2 : (0 : Int) ≤ (i : Int) := by omega
          have b3 : (0 : Int) ≤ (0 : Int) := by omega
          have b4 : (0 : Int) ≤ (i : Int) + 1 := by omega
          have b5 : ((0 : Int) + 1).toNat = 1 := by omega
          have hck : ¬ c5 = 0 := by omega
          go_wp2
          go_region_law (refine step_shift rfl (.tmp 39) (.tmp 42) rfl base g5 c5 i (0) _ HOX.out HXL.out hki dp (some ⟨g5, 0, none⟩) (i) (c5 - 1) (i + 1) (c5) (by simp [Act.eval, Act.put]) (by simp [Act.eval, Act.put]) HDP.out (fun _ => rfl) (by omega) (by omega) ?_; intro r6 w6 ho6 hg6)
          have HO6 := hide ho6
          have HB6 := hide ((HB5.out.drew).grown hg6 (by rw [HBE.out]; exact HB5.out.drew.size) (fun j hj => by simp at hj; omega))
          have HS6 := hide (HO6.out.stored (0) (by rw [shifted_len HXL.out hki]; omega) y)
          clear ho6 hg6 HOX HDP
          obtain ⟨y1, y2, y3⟩ := (HR.out.2 i y HY.out).below HB6.out HRB.out
          have hf := fun j => World.ownsRow.frozenAt HO6.out j
          have hcl := fun j (hj : j < (shifted (es ++ [((⟨#[]⟩ : ByteArray), (0 : Int), (⟨#[]⟩ : ByteArray))]) (0) i).length * 3) => World.ownsRow.cellAt HO6.out j hj
          have hsl := shifted_len HXL.out hki
          obtain ⟨v1, e1⟩ : ∃ v, w6.cell? ⟨g5, 0, none⟩ = some v := by
            have hj : 0 < (flat (shifted (es ++ [((⟨#[]⟩ : ByteArray), (0 : Int), (⟨#[]⟩ : ByteArray))]) (0) i)).length := by rw [flat_len, hsl]; omega
            exact ⟨_, (hcl (0) (by rw [hsl]; omega)).trans (List.getElem?_eq_getElem hj)⟩
          obtain ⟨v2, e2⟩ : ∃ v, w6.cell? ⟨g5, 0 + 1, none⟩ = some v := by
            have hj : 0 + 1 < (flat (shifted (es ++ [((⟨#[]⟩ : ByteArray), (0 : Int), (⟨#[]⟩ : ByteArray))]) (0) i)).length := by rw [flat_len, hsl]; omega
            exact ⟨_, (hcl (0 + 1) (by rw [hsl]; omega)).trans (List.getElem?_eq_getElem hj)⟩
          obtain ⟨v3, e3⟩ : ∃ v, w6.cell? ⟨g5, 0 + 2, none⟩ = some v := by
            have hj : 0 + 2 < (flat (shifted (es ++ [((⟨#[]⟩ : ByteArray), (0 : Int), (⟨#[]⟩ : ByteArray))]) (0) i)).length := by rw [flat_len, hsl]; omega
            exact ⟨_, (hcl (0 + 2) (by rw [hsl]; omega)).trans (List.getElem?_eq_getElem hj)⟩
          have p1 := hf (0)
          have p2 := hf (0 + 1)
          have p3 := hf (0 + 2)
          clear hf hcl hsl hif
          go_wp2
          go_roundw
          case rel =>
            refine ⟨i + 1, c5, some ⟨g5, 0, none⟩, by omega, by go_num, rfl, ⟨es.take (0) ++ y :: es.drop (0), by simp; have := HES.out; omega, ?_, HINS.out.1, ?_⟩, ?_⟩
            · have h7 := HS6.out
              rw [← HES.out, shifted_set (by have := HES.out; omega)] at h7
              have h8 : (es.take (0) ++ y :: es.drop (0)).length = i + 1 := by simp; have := HES.out; omega
              rw [h8] at h7
              simpa using h7
            · have h9 : ns.take (i + 1) = ns.take i ++ [y] := by
                obtain ⟨h10, h11⟩ := List.getElem?_eq_some_iff.1 HY.out
                rw [List.take_succ_eq_append_getElem h10, h11]
              rw [h9]
              exact (HAL.out.app (Alike.refl [y])).trans HINS.out.2
            · exact ((HB6.out.setCell (by omega) _).setCell (by omega) _).setCell (by omega) _
          case measure => simp [intOf]; omega
    · have e : i = n := by omega
      subst e
      go_wp2
      go_ret
      obtain ⟨es, hes, ho, hs, hal⟩ := HD.out
      refine ⟨_, es, rfl, ho, hs, ?_, HB.out⟩
      rw [← HL.out, List.take_length] at hal
      exact hal
set_option maxHeartbeats 400000 in
theorem rsort_none (a : Option Addr) (c : Nat) (w : World) :
    Calls Tryd.prog 24 #[.slice a 0 c] w fun e w' => e = .returned (.slice none 0 0) ∧ w' = w := by
  go_enter Tryd.func24, Tryd.ntmps24
  go_wp2
  go_loop [3, 4] (fun v s => v = .slice none 0 0 ∧ s = .int .i64 0) (fun _ _ => 0)
  case atStart => exact ⟨rfl, rfl⟩
  case round =>
    obtain ⟨rfl, rfl⟩ := hrel
    go_wp2
    go_ret
    exact ⟨rfl, rfl⟩
theorem rsort_any (v : Value) (ns : List Nd) (w : World) (h : Nods w v ns) (hn : ns.length < 900) :
    Calls Tryd.prog 24 #[v] w fun e w' => ∃ v es, e = .returned v ∧ OwnN w.heap.size w' v es ∧ Srtd es ∧ Alike ns es ∧ Below w.heap.size w w' := by
  rcases h with ⟨rfl, a, c, rfl⟩ | ⟨b, o, c, rfl, _, hr⟩
  · refine (rsort_none a c w).mono ?_
    rintro e w' ⟨rfl, rfl⟩
    exact ⟨_, [], rfl, OwnN.nil _ _, srtd_nil, Alike.refl _, Below.refl _ _⟩
  · exact rsort_some b o c ns.length ns w hr rfl hn
end Go.Proofs.YteablfekfijnhaaDoor
