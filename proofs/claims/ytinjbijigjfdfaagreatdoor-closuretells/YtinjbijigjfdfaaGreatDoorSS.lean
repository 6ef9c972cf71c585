/- The walks of the document's own answer, chapter 8: Tree, Text. -/
import Derived.Test.YtinjbijigjfdfaaGreatDoorSR
import Derived.Test.YtinjbijigjfdfaaGreatDoorSO
import Derived.Test.YtinjbijigjfdfaaGreatDoorXD
import Derived.Test.YtinjbijigjfdfaaGreatDoorJ10
namespace Go.Proofs.YtinjbijigjfdfaaGreatDoor
open Go.RowKit

/-- The slice v holds the truths bs in a row of its own, from block number base on. -/
def OwnQ (base : Nat) (w : World) (v : Value) (bs : List Bool) : Prop := w.ownsRow base 4 1 v bs.length (bs.map Value.bool)
theorem A4q : (Tryz.prog.info? 4).map (fun i => (i.zero, i.size, i.bytes)) = some (some (.bool false), 1, 1) := by kernel_rfl
theorem OwnQ.below {base : Nat} {w w' : World} {v : Value} {bs : List Bool} (h : OwnQ base w v bs) (hb : Below w.heap.size w w') : OwnQ base w' v bs := by
  refine ⟨h.1, ?_⟩
  rcases h.2 with h2 | ⟨g, cap, cur, rfl, hbs, hg, r⟩
  · exact .inl h2
  · exact .inr ⟨g, cap, cur, rfl, hbs, by rw [hb.block g (Array.getElem?_eq_some_iff.1 hg).1]; exact hg, r⟩
theorem OwnQ.form {base : Nat} {w : World} {v : Value} {bs : List Bool} (h : OwnQ base w v bs) : ∃ a c, v = .slice a bs.length c := by
  obtain ⟨_, h2⟩ := h
  rcases h2 with ⟨rfl, h0⟩ | ⟨g, cap, cur, rfl, _⟩
  · exact ⟨none, 0, by rw [h0]⟩
  · exact ⟨_, _, rfl⟩
theorem OwnQ.cellAt {base : Nat} {w : World} {g n c : Nat} {bs : List Bool} (h : OwnQ base w (.slice (some ⟨g, 0, none⟩) n c) bs) {j : Nat} {z : Bool} (hz : bs[j]? = some z) : w.cell? ⟨g, j, none⟩ = some (.bool z) := by
  obtain ⟨a, c', e⟩ := h.form
  have hj := (List.getElem?_eq_some_iff.1 hz).1
  simp only [Value.slice.injEq] at e
  obtain ⟨rfl, rfl, rfl⟩ := e
  have h1 := World.ownsRow.cellAt h j (by omega)
  rw [h1]; simp [hz]
theorem OwnQ.free {base : Nat} {w : World} {g n c : Nat} {bs : List Bool} (h : OwnQ base w (.slice (some ⟨g, 0, none⟩) n c) bs) (j : Nat) : w.frozen? ⟨g, j, none⟩ = false := by
  obtain ⟨a, c', e⟩ := h.form
  simp only [Value.slice.injEq] at e
  obtain ⟨rfl, rfl, rfl⟩ := e
  exact World.ownsRow.frozenAt h j
theorem OwnQ.put {base : Nat} {w : World} {g n c : Nat} {bs : List Bool} (h : OwnQ base w (.slice (some ⟨g, 0, none⟩) n c) bs) (j : Nat) (x : Bool) : OwnQ base (w.setCell ⟨g, j, none⟩ (.bool x)) (.slice (some ⟨g, 0, none⟩) n c) (bs.set j x) := by
  obtain ⟨a, c', e⟩ := h.form
  simp only [Value.slice.injEq] at e
  obtain ⟨rfl, rfl, rfl⟩ := e
  have h2 := World.ownsRow.stored h j (.bool x)
  unfold OwnQ
  rw [List.map_set, List.length_set]
  exact h2.1
theorem OwnQ.lt {base : Nat} {w : World} {g n c : Nat} {bs : List Bool} (h : OwnQ base w (.slice (some ⟨g, 0, none⟩) n c) bs) : g < w.heap.size := by
  rcases h.2 with ⟨e, _⟩ | ⟨g', cap, cur, e, hbs, hg, r⟩
  · cases e
  · cases e
    exact (Array.getElem?_eq_some_iff.1 hg).1

/-- Of the names ahead of i the truths are told; at i stands b; behind it nothing is true yet. -/
structure Told (act : ByteArray → Bool) (xs : List ByteArray) (bs : List Bool) (i : Nat) : Prop where
  len : bs.length = xs.length
  done : ∀ j x, j < i → xs[j]? = some x → bs[j]? = some (act (hashT x))
  left : ∀ j, i ≤ j → j < xs.length → bs[j]? = some false
structure Telling (act : ByteArray → Bool) (xs : List ByteArray) (bs : List Bool) (i : Nat) (b : Bool) : Prop where
  len : bs.length = xs.length
  done : ∀ j x, j < i → xs[j]? = some x → bs[j]? = some (act (hashT x))
  here : bs[i]? = some b
  left : ∀ j, i < j → j < xs.length → bs[j]? = some false
theorem Told.begin {act : ByteArray → Bool} {xs : List ByteArray} {bs : List Bool} {i : Nat} (h : Told act xs bs i) (hi : i < xs.length) : Telling act xs bs i false :=
  ⟨h.len, h.done, h.left i (Nat.le_refl _) hi, fun j hj => h.left j (by omega)⟩
theorem Telling.put {act : ByteArray → Bool} {xs : List ByteArray} {bs : List Bool} {i : Nat} {b b' : Bool} (h : Telling act xs bs i b) : Telling act xs (bs.set i b') i b' := by
  have hi := (List.getElem?_eq_some_iff.1 h.here).1
  refine ⟨by rw [List.length_set]; exact h.len, fun j x hj hx => ?_, by rw [List.getElem?_set_self hi], fun j hj hjl => ?_⟩
  · rw [List.getElem?_set_ne (by omega)]
    exact h.done j x hj hx
  · rw [List.getElem?_set_ne (by omega)]
    exact h.left j hj hjl
theorem Telling.done_ {act : ByteArray → Bool} {xs : List ByteArray} {bs : List Bool} {i : Nat} {x : ByteArray} (hx : xs[i]? = some x) (h : Telling act xs bs i (act (hashT x))) : Told act xs bs (i + 1) := by
  refine ⟨h.len, fun j y hj hy => ?_, fun j hj => h.left j (by omega)⟩
  by_cases e : j = i
  · subst e
    rw [hx] at hy
    cases hy
    exact h.here
  · exact h.done j y (by omega) hy
theorem told_on {act : ByteArray → Bool} {xs : List ByteArray} {bs : List Bool} {n : Nat} (hn : xs.length = n) (h : Told act xs bs n) : Hog.rise (plainT (toldT act xs)) ∧ ∀ y, y ∈ plainT (toldT act xs) ↔ onT xs bs n y := by
  unfold toldT
  rw [plain_mk]
  refine ⟨Hog.pick_rise _, fun y => ?_⟩
  rw [Hog.pick_mem]
  unfold plainT seenT
  rw [List.mem_map]
  constructor
  · rintro ⟨x, hx, rfl⟩
    obtain ⟨h1, h2⟩ := List.mem_filter.1 hx
    obtain ⟨j, hj, e⟩ := List.getElem_of_mem h1
    have hxj : xs[j]? = some x := List.getElem?_eq_some_iff.2 ⟨hj, e⟩
    exact ⟨j, x, by omega, hxj, by rw [h.done j x (by omega) hxj, h2], rfl⟩
  · rintro ⟨j, x, hj, h1, h2, rfl⟩
    refine ⟨x, List.mem_filter.2 ⟨List.mem_of_getElem? h1, ?_⟩, rfl⟩
    rw [h.done j x hj h1] at h2
    exact Option.some.inj h2
theorem hash_eight (x : ByteArray) : (hashT x).data.toList.length = 8 ∨ (hashT x).data.toList = [] := by
  unfold hashT
  rw [Hog.mk_data]
  cases hb : Hog.nameL x.data.toList with
  | false => exact .inr (Hog.hash_none hb)
  | true =>
    refine .inl ?_
    have h := (Hog.name_iff.1 hb).low
    rw [Hog.hash_name hb, List.length_take]
    omega
theorem hash_less (x : ByteArray) : (hashT x).size ≤ 8 := by
  rw [Hog.size_len]
  rcases hash_eight x with h | h
  · omega
  · rw [h]; simp
theorem hit_has (s x : ByteArray) : hitB s (hashT x) = Hog.hasL (hashT x).data.toList s.data.toList := by
  unfold hitB
  rcases hash_eight x with h | h
  · rw [decide_eq_true h, Bool.true_and]
  · rw [h, Hog.hasL_not (Hog.places_none (.inl rfl)), Bool.and_false]
theorem has_len (q s : ByteArray) : Hog.hasL q.data.toList s.data.toList = decide (0 < (Hog.placesL q.data.toList s.data.toList).length) := by
  unfold Hog.hasL
  cases Hog.placesL q.data.toList s.data.toList <;> simp
theorem bools_zero (n : Nat) : (madeCells #[Value.bool false] n).toList = (List.replicate n false).map Value.bool := by
  rw [toList_madeCells_one, List.map_replicate]

set_option maxRecDepth 100000 in
set_option maxHeartbeats 2000000 in
theorem rtree_ok (u : Value) (ns : List Nd) (v : Value) (xs R : List ByteArray) (w : World) (hu : Nods w u ns) (hm : ns.length < 900000) (hd : ∀ x ∈ ns, x.2.2.size < 900000) (hv : Txt w v xs) (hl : xs.length ≤ 900) (hz : ∀ x ∈ xs, x.size ≤ maxLen) (hR : toldT (hitN ns) xs = R) :
    Calls Tryz.prog 36 #[u, v] w fun e w' => ∃ a c', e = .returned (.slice a R.length c') ∧ Own w.heap.size w' (.slice a R.length c') R ∧ Below w.heap.size w w' := by
  obtain ⟨i0, hi, hz0, hz1, hz2⟩ := info_parts A4q
  obtain ⟨n, hn⟩ : ∃ n, xs.length = n := ⟨_, rfl⟩
  obtain ⟨m, hmm⟩ : ∃ m, ns.length = m := ⟨_, rfl⟩
  obtain ⟨av, cv, e⟩ := hv.form
  rw [hn] at e
  subst e
  obtain ⟨au, cu, e⟩ := hu.form
  rw [hmm] at e
  subst e
  have hni : (n : Int) ≤ 900 := by omega
  have hmi : (m : Int) < 900000 := by omega
  have HU := hide hu
  have HV := hide hv
  have HN := hide hn
  have HM := hide hmm
  have HZ := hide hz
  have HD := hide hd
  have HR := hide hR
  clear hu hv hn hmm hz hd hR hm hl
  go_enter Tryz.func36, Tryz.ntmps36
  go_wp2_with (at_make; refine wpList_make_full w rfl _ _ 72 rfl w.heap.size 4 i0 (.bool false) 1 Tryz.underlying72 hi hz0 hz1 .i64 .i64 _ _ n rfl rfl ?c1 ?c2 ?c3 ?c4 (Nat.le_refl _) ?_)
  case c1 => simp
  case c2 => simp
  case c3 => rw [hz2]; omega
  case c4 => unfold maxLen; omega
  intro w1 hown1 hgrow1
  have HB1 : Hid (Below w.heap.size w w1) := (Below.refl _ w).grown hgrow1 (Nat.le_refl _) (fun k hk => by cases hk)
  rw [bools_zero] at hown1
  have HO1 : Hid (OwnQ w.heap.size w1 (.slice (some ⟨w.heap.size, 0, none⟩) n n) (List.replicate n false)) := by
    unfold OwnQ
    rw [List.length_replicate]
    exact hown1
  clear hown1 hgrow1 hi hz0 hz1 hz2
  go_wp2
  go_loopw [6] (fun i wr => ∃ k : Nat, k ≤ n ∧ i = .int .i64 k ∧ Hid (∃ bs, OwnQ w.heap.size wr (.slice (some ⟨w.heap.size, 0, none⟩) n n) bs ∧ Told (hitN ns) xs bs k) ∧ Hid (Below w.heap.size w wr)) (fun i _ => n - (intOf i).toNat)
  case atStart =>
    exact ⟨0, Nat.zero_le _, rfl, ⟨_, HO1.out, ⟨by rw [List.length_replicate, HN.out], fun j _ hj => by omega, fun j _ hj => by rw [List.getElem?_replicate, if_pos (by rw [← HN.out]; exact hj)]⟩⟩, HB1⟩
  case round =>
    obtain ⟨i, hi, rfl, hex, hbl⟩ := hrel
    by_cases hlt : i < n
    case neg =>
      have hii : decide (i < n) = false := by rw [decide_eq_false_iff_not]; omega
      have HN9 : Hid (n ≤ 900) := by show _ ≤ _; omega
      obtain ⟨bs, ho, ht⟩ := hex.out
      have e : i = n := by omega
      rw [e] at ht
      have HO := hide ho
      have HT := hide ht
      clear ho ht hex e hlt hi hni
      go_wp2_with fail
      refine (rsorted_ok _ w.heap.size n n xs R bs wr (HV.out.below hbl.out) HN.out HN9.out HO.out.lt (fun j x hx => HO.out.cellAt hx) (by rw [HT.out.len, HN.out]) (by rw [← HR.out]; exact (told_on HN.out HT.out).1) (by rw [← HR.out]; exact (told_on HN.out HT.out).2)).mono ?_
      rintro e w3 ⟨a3, c3, rfl, ho3, hb3⟩
      have HB3 := hide (below_two hbl.out hb3)
      have HO3 := hide (ho3.base hbl.out.size)
      clear ho3 hb3
      go_wp2
      go_ret
      exact ⟨a3, c3, rfl, HO3.out, HB3.out⟩
    obtain ⟨x, hx⟩ : ∃ x, xs[i]? = some x := ⟨xs[i]'(by have := HN.out; omega), List.getElem?_eq_some_iff.2 ⟨_, rfl⟩⟩
    rcases id HV.out with ⟨e, _⟩ | ⟨g, o, c', e, _, hg, hcell⟩
    · rw [e] at hx
      simp at hx
    obtain ⟨rfl, hzz, rfl⟩ : av = some ⟨g, o, none⟩ ∧ n = xs.length ∧ cv = c' := by simpa using e
    have hc1 := (hbl.out.cell (p := ⟨g, o + i, none⟩) hg).trans (hcell i x hx)
    have hxz := HZ.out x (List.mem_of_getElem? hx)
    have hii : (i : Int) < (n : Int) := by omega
    have HXI := hide hx
    clear hzz e hx hcell
    go_wp2_with fail
    obtain ⟨h, hh⟩ : ∃ h, hashT x = h := ⟨_, rfl⟩
    refine (rhash_ok x h wr (by unfold maxLen at hxz; omega) hh).mono ?_
    rintro e w2 ⟨rfl, hw2⟩
    have HBL : Hid (Below w.heap.size w w2) := by rw [hw2]; exact hbl
    have HEX : Hid (∃ bs, OwnQ w.heap.size w2 (.slice (some ⟨w.heap.size, 0, none⟩) n n) bs ∧ Telling (hitN ns) xs bs i (hitN (ns.take 0) h)) := by
      rw [hw2]
      obtain ⟨bs, h1, h2⟩ := hex.out
      exact ⟨bs, h1, h2.begin (by rw [HN.out]; exact hlt)⟩
    have HH := hide hh
    have hh8 : h.size ≤ 8 := by rw [← hh]; exact hash_less x
    clear hw2 hex hbl hh hc1 hxz
    go_wp2
    go_loopw [8] (fun u wx => ∃ k : Nat, k ≤ m ∧ u = .int .i64 k ∧ Hid (∃ bs, OwnQ w.heap.size wx (.slice (some ⟨w.heap.size, 0, none⟩) n n) bs ∧ Telling (hitN ns) xs bs i (hitN (ns.take k) h)) ∧ Hid (Below w.heap.size w wx)) (fun u _ => m - (intOf u).toNat)
    case atStart => exact ⟨0, Nat.zero_le _, rfl, HEX, HBL⟩
    case round =>
      obtain ⟨k, hk, rfl, hex, hbl⟩ := hrel
      by_cases hkm : k < m
      case neg =>
        have hki : decide (k < m) = false := by rw [decide_eq_false_iff_not]; omega
        have HEX2 : Hid (∃ bs, OwnQ w.heap.size wr (.slice (some ⟨w.heap.size, 0, none⟩) n n) bs ∧ Told (hitN ns) xs bs (i + 1)) := by
          obtain ⟨bs, h1, h2⟩ := hex.out
          rw [show k = ns.length by have := HM.out; omega, List.take_length, ← HH.out] at h2
          exact ⟨bs, h1, h2.done_ HXI.out⟩
        clear hex HEX hkm hk hmi
        go_wp2
        go_roundw
        case rel => exact ⟨i + 1, by omega, by go_num, HEX2, hbl⟩
        case measure => simp [intOf]; omega
      obtain ⟨nd, hnd⟩ : ∃ x, ns[k]? = some x := ⟨ns[k]'(by have := HM.out; omega), List.getElem?_eq_some_iff.2 ⟨_, rfl⟩⟩
      rcases id HU.out with ⟨e, _⟩ | ⟨gu, ou, c', e, _, hru⟩
      · rw [e] at hnd
        simp at hnd
      obtain ⟨rfl, hzz, rfl⟩ : au = some ⟨gu, ou, none⟩ ∧ m = ns.length ∧ cu = c' := by simpa using e
      have hnz := HD.out nd (List.mem_of_getElem? hnd)
      obtain ⟨q1, q2, q3⟩ := (hru.2 k nd hnd).below hbl.out hru.1
      have hki : (k : Int) < (m : Int) := by omega
      have HST := hide (hitN_step hnd h)
      obtain ⟨bs, h1, h2⟩ := hex.out
      have HO := hide h1
      have HT := hide h2
      have hb0 := h1.cellAt h2.here
      have hf0 := h1.free i
      clear hzz e hnd hru hex h1 h2 HEX
      cases hcur : hitN (ns.take k) h with
      | true =>
        rw [hcur] at hb0
        have HC : Hid (hitN (ns.take (k + 1)) h = true) := by rw [HST.out, hcur, Bool.true_or]; exact hide rfl
        clear hcur
        go_wp2
        go_roundw
        case rel => exact ⟨k + 1, by omega, by go_num, hide ⟨bs.set i true, HO.out.put i true, by rw [HC.out]; exact HT.out.put⟩, hide (hbl.out.setCell (Nat.le_refl _) _)⟩
        case measure => simp [intOf]; omega
      | false =>
        rw [hcur] at hb0
        obtain ⟨P, hP⟩ : ∃ P, Hog.placesL h.data.toList nd.2.2.data.toList = P := ⟨_, rfl⟩
        have HC : Hid (hitN (ns.take (k + 1)) h = decide (0 < P.length)) := by
          rw [HST.out, hcur, Bool.false_or, ← HH.out, hit_has, has_len, HH.out, hP]
          exact hide rfl
        have HP := hide hP
        clear hcur hP
        go_wp2_with fail
        refine (rplaces_ok nd.2.2 h P wr (by omega) hnz HP.out).mono ?_
        rintro e w4 ⟨a4, c4, rfl, _, hb4⟩
        have HO4 := hide (HO.out.below hb4)
        have HB4 := hide (below_two hbl.out hb4)
        have hb1 := HO4.out.cellAt HT.out.here
        have hf1 := HO4.out.free i
        clear hb4 hb0 hf0 q1 q2 q3 HO hbl
        by_cases hpl : 0 < P.length
        · have hpi : (0 : Int) < (P.length : Int) := by omega
          have HC2 : Hid (hitN (ns.take (k + 1)) h = true) := by rw [HC.out]; exact hide (decide_eq_true hpl)
          go_wp2
          go_roundw
          case rel => exact ⟨k + 1, by omega, by go_num, hide ⟨bs.set i true, HO4.out.put i true, by rw [HC2.out]; exact HT.out.put⟩, hide (HB4.out.setCell (Nat.le_refl _) _)⟩
          case measure => simp [intOf]; omega
        · have hpi : (P.length : Int) ≤ 0 := by omega
          have HC2 : Hid (hitN (ns.take (k + 1)) h = false) := by rw [HC.out]; exact hide (decide_eq_false hpl)
          go_wp2
          go_roundw
          case rel => exact ⟨k + 1, by omega, by go_num, hide ⟨bs.set i false, HO4.out.put i false, by rw [HC2.out]; exact HT.out.put⟩, hide (HB4.out.setCell (Nat.le_refl _) _)⟩
          case measure => simp [intOf]; omega

theorem hit_one (nm : ByteArray) (z : Int) (s : ByteArray) : hitN [(nm, z, s)] = hitB s := by
  funext q
  unfold hitN
  rw [List.any_cons, List.any_nil, Bool.or_false]
end Go.Proofs.YtinjbijigjfdfaaGreatDoor
