/- The walk of the document's own Reach, chapter 9. (The tail stands twice, laid by a script; this is the text that counts.) -/
import Derived.Test.YtinjbijigjfdfaaGreatDoorKR
import Derived.Test.YtinjbijigjfdfaaGreatDoorKQ
import Derived.Test.YtinjbijigjfdfaaGreatDoorKU
import Derived.Test.YtinjbijigjfdfaaGreatDoorKI
import Derived.Test.YtinjbijigjfdfaaGreatDoorSR
import Derived.RegionTactic
import Derived.Deep.RegionHeld
namespace Go.Proofs.YtinjbijigjfdfaaGreatDoor
open Go.RowKit

/-- The first k of these texts, as lists of bytes. -/
def onF (F : List ByteArray) (k : Nat) (y : List UInt8) : Prop := ∃ (j : Nat) (x : ByteArray), j < k ∧ F[j]? = some x ∧ x.data.toList = y
theorem onF_step {F : List ByteArray} {k : Nat} {x : ByteArray} {y : List UInt8} (hx : F[k]? = some x) : onF F (k + 1) y ↔ onF F k y ∨ y = x.data.toList := by
  constructor
  · rintro ⟨j, z, hj, hz, e⟩
    by_cases h : j = k
    · subst h
      rw [hx] at hz
      cases hz
      exact .inr e.symm
    · exact .inl ⟨j, z, by omega, hz, e⟩
  · rintro (⟨j, z, hj, hz, e⟩ | e)
    · exact ⟨j, z, by omega, hz, e⟩
    · exact ⟨k, x, by omega, hx, e.symm⟩
theorem onF_new {F : List ByteArray} (hF : F.Nodup) {k : Nat} {x : ByteArray} (hx : F[k]? = some x) : ¬ onF F k x.data.toList := by
  rintro ⟨j, z, hj, hz, e⟩
  have hzx : z = x := by rw [← Hog.data_mk z, e, Hog.data_mk]
  subst hzx
  have := (List.getElem?_inj (List.getElem?_eq_some_iff.1 hz).1 hF).1 (hz.trans hx.symm)
  omega
theorem onF_all {F : List ByteArray} {k : Nat} (hk : F.length ≤ k) {y : List UInt8} : onF F k y ↔ y ∈ plainT F := by
  unfold plainT
  rw [List.mem_map]
  constructor
  · rintro ⟨j, z, _, hz, e⟩
    exact ⟨z, List.mem_of_getElem? hz, e⟩
  · rintro ⟨z, hz, e⟩
    obtain ⟨j, hj⟩ := List.getElem?_of_mem hz
    exact ⟨j, z, by have := (List.getElem?_eq_some_iff.1 hj).1; omega, hj, e⟩
/-- Two slices lie in two blocks. -/
def Asun (v u : Value) : Prop := ∀ k, v.ownBlock = some k → u.ownBlock ≠ some k
theorem Asun.symm {v u : Value} (h : Asun v u) : Asun u v := fun k hk e => h k e hk
theorem Asun.stays {w : World} {v v' u : Value} (h : Asun v u) (hs : Stays w v v') (hu : ∀ k, u.ownBlock = some k → k < w.heap.size) : Asun v' u := by
  intro k hk e
  rcases hs with e1 | ⟨j, e1, hj⟩
  · exact h k (e1.symm.trans hk) e
  · rw [e1] at hk
    have := hu k e
    have : j = k := Option.some.inj hk
    omega
theorem Asun.row {v u : Value} (h : Asun v u) : u.ownBlock = none ∨ u.ownBlock ≠ v.ownBlock := by
  cases hv : u.ownBlock with
  | none => exact .inl rfl
  | some k => exact .inr fun e => h k e.symm hv
/-- An append of texts, whatever they lie in: where the answer lies. -/
theorem wpList_append_anyT {w : World} {ops : Array Oper} {rest : List Oper} {o : Oper} {a : Act} {Q : Exit → Act → World → Prop} (hgd : o.guard = none) (s x : Operand)
    (ho : o.op = .call { callee := .builtin .append, args := #[s, x], argTypes := #[23, 23] })
    (base : Nat) (v : Value) (xs : List ByteArray) (hs : a.eval s = v) (hown : Own base w v xs) (ao : Option Addr) (m c : Nat) (ys : List ByteArray) (hx : a.eval x = .slice ao m c) (hu : Arg w ao m c ys)
    (q : Nat) (hq : xs.length + ys.length = q) (zs : List ByteArray) (hz : xs ++ ys = zs) (hlen : q < 1000000) (hbase : base ≤ w.heap.size)
    (h : ∀ b c w', Own base w' (.slice b q c) zs → w.grownBy w' v.ownBlock → Stays w v (.slice b q c) → wpList Tryz.prog ops Q rest (a.put o.dst (.slice b q c)) w') : wpList Tryz.prog ops Q (o :: rest) a w := by
  subst hq hz
  cases ao with
  | none =>
    obtain ⟨i0, hi, hz0, hz1, hz2⟩ := info_parts A9
    obtain ⟨rfl, rfl⟩ := hu.none rfl
    have hy : ys = [] := List.eq_nil_of_length_eq_zero hu.len
    subst hy
    obtain ⟨b, c, e⟩ := hown.form
    subst e
    refine wpList_append_own_none hgd s x 23 ho base 9 i0 1 Tryz.underlying23 hi _ _ _ hs hown hx ?_
    exact h b c w (by simpa using hown) (grown_refl _ _) (.inl rfl)
  | some ad => exact wpList_append_whereT hgd s x ho base v xs hs hown ad m c ys hx hu hlen hbase h

set_option maxRecDepth 100000 in
set_option maxHeartbeats 8000000 in
theorem rreach_ok (ao : Option Addr) (n c : Nat) (ps : List Pr) (bo : Option Addr) (m d : Nat) (ns R : List ByteArray) (w : World) (ha : ArgS w ao n c ps) (hn10 : n ≤ 10) (hb : Arg w bo m d ns) (hm12 : m ≤ 12) (hf : ∀ i ∈ itsOf ps, i.2.1.length ≤ 12)
    (hR : RchIs (itsOf ps) ns R) :
    Calls Tryz.prog 12 #[.slice ao n c, .slice bo m d] w fun e w' => ∃ a c', e = .returned (.slice a R.length c') ∧ Own w.heap.size w' (.slice a R.length c') R ∧ Below w.heap.size w w' := by
  have HA := hide ha
  have HB := hide hb
  have HF := hide hf
  have HR := hide hR
  have HPL : Hid (ps.length = n) := ha.len
  have HNL : Hid (ns.length = m) := hb.len
  have HS := hide ha.sls
  clear ha hb hf hR
  go_enter Tryz.func12, Tryz.ntmps12
  go_wp2_with (at_builtin; refine wpList_append_anyT rfl _ _ rfl w.heap.size _ [] rfl (Own.nil _ _) _ _ _ ns rfl HB.out m ?d1 ns ?d2 ?d3 (Nat.le_refl _) ?_)
  case d1 => rw [HNL.out]; simp
  case d2 => rfl
  case d3 => omega
  intro b1 c1 w1 ho1 hg1 _
  have HO1 := hide ho1
  have HB1 : Hid (Below w.heap.size w w1) := (Below.refl _ w).grown hg1 (Nat.le_refl _) (fun k hk => by cases hk)
  clear ho1 hg1
  go_wp2
  go_loopw [5, 6, 7] (fun v u i wr => ∃ (k fn tn : Nat) (F T : List ByteArray) (aF : Option Addr) (cF : Nat) (aT : Option Addr) (cT : Nat), k ≤ tn ∧ fn ≤ 10 ∧ tn ≤ 140 ∧ v = .slice aF fn cF ∧ u = .slice aT tn cT ∧ i = .int .i64 k ∧ Hid (F.length = fn) ∧ Hid (T.length = tn) ∧ Hid (Hog.Seek (itsOf ps) ns F T k) ∧
    Hid (Own w.heap.size wr (.slice aF fn cF) F) ∧ Hid (Own w.heap.size wr (.slice aT tn cT) T) ∧ Hid (Asun (.slice aF fn cF) (.slice aT tn cT)) ∧ Hid (Below w.heap.size w wr)) (fun _ _ i _ => 200 - (intOf i).toNat)
  case atStart => exact ⟨0, 0, m, [], ns, none, 0, b1, c1, Nat.zero_le _, by omega, by omega, rfl, rfl, rfl, rfl, HNL.out, Hog.Seek.begin _ _, Own.nil _ _, HO1.out, (fun k hk => by cases hk), HB1.out⟩
  case round =>
    obtain ⟨k, fn, tn, F, T, aF, cF, aT, cT, hk, hfn, htn, rfl, rfl, rfl, hFl, hTl, hsk, hoF, hoT, hap, hbl⟩ := hrel
    have hwr : w.heap.size ≤ wr.heap.size := hbl.out.size
    by_cases hlt : k < tn
    case pos =>
      obtain ⟨x, hx⟩ : ∃ x, T[k]? = some x := ⟨T[k]'(by have := hTl.out; omega), List.getElem?_eq_some_iff.2 ⟨_, rfl⟩⟩
      have HX := hide hx
      have hki : (k : Int) < (tn : Int) := by omega
      rcases id hoT.out.txt with ⟨e, _⟩ | ⟨g, o, c', e, _, hg, hcell⟩
      · rw [e] at hx
        simp at hx
      obtain ⟨rfl, hzz, rfl⟩ : aT = some ⟨g, o, none⟩ ∧ tn = T.length ∧ cT = c' := by simpa using e
      have HC : Hid (∀ W, Below wr.heap.size wr W → W.cell? ⟨g, o + k, none⟩ = some (.string x)) := fun W hb => (hb.cell (p := ⟨g, o + k, none⟩) hg).trans (hcell k x hx)
      have z1 := HC.out wr (Below.refl _ _)
      clear hx e hzz hcell
      cases hgx : Hog.getK (itsOf ps) x with
      | none =>
        have HSK := hide (hsk.out.pass HX.out (.inl hgx))
        have HGX := hide hgx
        clear hgx
        go_wp2_with fail
        refine (rget_miss _ ps x wr (HS.out.below hbl.out) (by rw [HPL.out]; omega) HGX.out).mono ?_
        rintro e w2 ⟨rfl, hb2⟩
        have HB2 := hide (below_two hb2 (below_box w2 (.cells #[.string ByteArray.empty, .slice none 0 0, .slice none 0 0] 29)))
        clear hb2 z1
        go_wp2
        go_roundw
        case rel => exact ⟨k + 1, fn, tn, F, T, aF, cF, some ⟨g, o, none⟩, cT, by omega, hfn, htn, rfl, rfl, by go_num, hFl, hTl, HSK, hide (hoF.out.below HB2.out), hide (hoT.out.below HB2.out), hap, hide (below_two hbl.out HB2.out)⟩
        case measure => simp [intOf]; omega
      | some i =>
        have HGX := hide hgx
        clear hgx
        go_wp2_with fail
        refine (rget_hit _ ps x i wr (HS.out.below hbl.out) (by rw [HPL.out]; omega) HGX.out).mono ?_
        rintro e w2 ⟨p, hp, hpi, his, rfl, hb2⟩
        have HB2 := hide (below_two hb2 (below_box w2 (.cells #[.string p.2.1, .slice p.1.2.1.1 p.1.2.1.2.1 p.1.2.1.2.2, .slice p.1.2.2.1 p.1.2.2.2.1 p.1.2.2.2.2] 29)))
        have HBX := hide (BoxI.made w2 p.2.1 (.slice p.1.2.1.1 p.1.2.1.2.1 p.1.2.1.2.2) (.slice p.1.2.2.1 p.1.2.2.2.1 p.1.2.2.2.2))
        obtain ⟨W, hW⟩ : ∃ W, W = w2.alloc (.cells #[.string p.2.1, .slice p.1.2.1.1 p.1.2.1.2.1 p.1.2.1.2.2, .slice p.1.2.2.1 p.1.2.2.2.1 p.1.2.2.2.2] 29) := ⟨_, rfl⟩
        rw [← hW] at HB2 HBX
        have HW := hide hW.symm
        have HIS := hide (his.below HB2.out)
        have HRL : Hid (p.2.2.1.length = p.1.2.1.2.1) := his.refs.len
        have hrl12 : p.1.2.1.2.1 ≤ 12 := by rw [← HRL.out]; exact HF.out p.2 (by unfold itsOf; exact List.mem_map_of_mem hp)
        have HPI := hide hpi
        have HP0 := hide (HA.out.each p hp)
        have hws : wr.heap.size ≤ w2.heap.size := hb2.size
        have z2 := HC.out W HB2.out
        have z9 := z2
        rw [← HW.out] at z9
        have hwW : w.heap.size ≤ W.heap.size := Nat.le_trans hwr HB2.out.size
        have HOF := hide (hoF.out.below HB2.out)
        have HOT := hide (hoT.out.below HB2.out)
        obtain ⟨t, ht⟩ : ∃ t, hasB F x = t := ⟨_, rfl⟩
        have HT := hide ht
        clear hb2 hp his hpi hW z1 ht
        go_wp2_with fail
        rw [HW.out]
        clear z9
        refine (rhas_ok _ F x t W HOF.out.txt (by rw [hFl.out]; omega) HT.out).mono ?_
        rintro e w3 ⟨rfl, hw3⟩
        obtain rfl := hw3
        cases t with
        | true =>
          have HSK := hide (hsk.out.pass HX.out (.inr (has_iff.1 HT.out)))
          clear z2
          go_wp2
          go_roundw
          case rel => exact ⟨k + 1, fn, tn, F, T, aF, cF, some ⟨g, o, none⟩, cT, by omega, hfn, htn, rfl, rfl, by go_num, hFl, hTl, HSK, HOF, HOT, hap, hide (below_two hbl.out HB2.out)⟩
          case measure => simp [intOf]; omega
        | false =>
          have HSK := hide (hsk.out.next HX.out HGX.out (has_not.1 HT.out))
          rw [← HPI.out] at HSK
          have HOFA := hide (HOF.out.alloc (.cells #[.string x] 9))
          have HAO := hide (arg_one w3 x)
          go_wp2_with (at_builtin; refine wpList_append_anyT rfl _ _ rfl w.heap.size _ F rfl HOFA.out _ _ _ [x] rfl HAO.out (fn + 1) ?d1 (F ++ [x]) rfl ?d2 ?d3 ?_)
          case d1 => rw [hFl.out]; rfl
          case d2 => omega
          case d3 => simp; omega
          intro b5 c5 w5 ho5 hg5 hs5
          have HB35 : Hid (Below w3.heap.size w3 (w3.alloc (.cells #[.string x] 9))) := below_box _ _
          have HOF5 := hide ho5
          have HOT5 : Hid (Own w.heap.size w5 (.slice (some ⟨g, o, none⟩) tn cT) T) := World.ownsRow.kept (HOT.out.below HB35.out) hg5 hap.out.row
          have HAP5 : Hid (Asun (.slice b5 (fn + 1) c5) (.slice (some ⟨g, o, none⟩) tn cT)) := hap.out.stays hs5 (fun j hj => ((HOT.out.below HB35.out).lt j hj).2)
          have HBL5 := hide ((below_two hbl.out (below_two HB2.out HB35.out)).grown hg5 (by simp; omega) (fun j hj => (HOFA.out.lt j hj).1))
          have hgx5 : (w3.alloc (.cells #[.string x] 9)).heap.size ≤ w5.heap.size := hg5.size
          have HBX5 : Hid (BoxI w5 w2.heap.size p.2.1 (.slice p.1.2.1.1 p.1.2.1.2.1 p.1.2.1.2.2) (.slice p.1.2.2.1 p.1.2.2.2.1 p.1.2.2.2.2)) := by
            refine (HBX.out.below HB35.out).kept hg5 (fun e => ?_)
            have h1 := (hoF.out.lt w2.heap.size e.symm).2
            have h2 := HBX.out.facts.2.2
            omega
          have HARG : Hid (Arg w5 p.1.2.1.1 p.1.2.1.2.1 p.1.2.1.2.2 p.2.2.1) := HP0.out.refs.below HBL5.out
          obtain ⟨⟨_, y1, _⟩, _, _⟩ := HBX5.out.facts
          clear ho5 hg5 hs5 z2
          go_wp2_with (at_builtin; refine wpList_append_anyT rfl _ _ rfl w.heap.size _ T rfl HOT5.out _ _ _ p.2.2.1 rfl HARG.out (tn + p.1.2.1.2.1) ?d1 (T ++ p.2.2.1) rfl ?d2 ?d3 ?_)
          case d1 => rw [hTl.out, HRL.out]
          case d2 => omega
          case d3 => have := HBL5.out.size; omega
          intro b6 c6 w6 ho6 hg6 hs6
          have HOT6 := hide ho6
          have HOF6 : Hid (Own w.heap.size w6 (.slice b5 (fn + 1) c5) (F ++ [x])) := World.ownsRow.kept HOF5.out hg6 HAP5.out.symm.row
          have HAP6 : Hid (Asun (.slice b6 (tn + p.1.2.1.2.1) c6) (.slice b5 (fn + 1) c5)) := HAP5.out.symm.stays hs6 (fun j hj => (HOF5.out.lt j hj).2)
          have HBL6 := hide (HBL5.out.grown hg6 HBL5.out.size (fun j hj => (HOT5.out.lt j hj).1))
          have hFL6 : (F ++ [x]).length = fn + 1 := by rw [List.length_append, hFl.out]; rfl
          have hfn1 : fn + 1 ≤ 10 := by have := HSK.out.few; rw [hFL6, its_len, HPL.out] at this; omega
          have hTL6 : (T ++ p.2.2.1).length = tn + p.1.2.1.2.1 := by rw [List.length_append, hTl.out, HRL.out]
          have htn1 : tn + p.1.2.1.2.1 ≤ 140 := by
            have h1 := HSK.out.long 12 HF.out
            rw [hTL6, hFL6, HNL.out] at h1
            omega
          have HFL6 := hide hFL6
          have HTL6 := hide hTL6
          clear ho6 hg6 hs6 y1 hFL6 hTL6
          go_wp2
          go_roundw
          case rel => exact ⟨k + 1, fn + 1, tn + p.1.2.1.2.1, F ++ [x], T ++ p.2.2.1, b5, c5, b6, c6, by omega, hfn1, htn1, rfl, rfl, by go_num, HFL6, HTL6, HSK, HOF6, HOT6, hide HAP6.out.symm, HBL6⟩
          case measure => simp [intOf]; omega
    case neg =>
      have hkd : decide (k < tn) = false := by rw [decide_eq_false_iff_not]; exact hlt
      have HRF : Hid (∀ y, y ∈ R ↔ y ∈ F) := fun y => by rw [HR.out.mem, hsk.out.ended (by rw [hTl.out]; omega)]
      have HFN := hide hsk.out.each
      clear hlt hoT hap hTl hsk
      rename World => wB
      go_wp2
      go_loopw [10, 11] (fun u i wr => ∃ (i0 q : Nat) (a : Option Addr) (c : Nat), i0 ≤ fn ∧ q ≤ i0 ∧ u = .slice a q c ∧ i = .int .i64 i0 ∧ Hid (∃ L, L.length = q ∧ Own wB.heap.size wr (.slice a q c) L ∧ Hog.rise (plainT L) ∧ ∀ y, y ∈ plainT L ↔ onF F i0 y) ∧ Hid (Below wB.heap.size wB wr)) (fun _ i _ => fn - (intOf i).toNat)
      case atStart => exact ⟨0, 0, none, 0, Nat.zero_le _, Nat.le_refl _, rfl, rfl, ⟨[], rfl, Own.nil _ _, List.Pairwise.nil, fun y => ⟨fun h => by simp [plainT] at h, fun ⟨j, _, hj, _⟩ => by omega⟩⟩, Below.refl _ _⟩
      case round =>
        rename World => wr
        obtain ⟨i, q, a, c, hi, hq, rfl, rfl, hex, hbz⟩ := hrel
        by_cases hltf : i < fn
        case neg =>
          have hid : decide (i < fn) = false := by rw [decide_eq_false_iff_not]; exact hltf
          have HE : Hid (q = R.length ∧ Own wB.heap.size wr (.slice a q c) R) := by
            obtain ⟨L, h1, h2, h3, h4⟩ := hex.out
            have : L = R := rise_same h3 HR.out.rise fun y => by
              rw [← plain_mem, h4, onF_all (by rw [hFl.out]; omega), plain_mem, HRF.out]
            subst this
            exact ⟨h1.symm, h2⟩
          clear hex hltf hi hq
          go_wp2
          go_ret
          obtain ⟨e1, e2⟩ := HE.out
          rw [e1] at e2 ⊢
          exact ⟨a, c, rfl, e2.base hwr, below_two hbl.out hbz.out⟩
        case pos =>
        obtain ⟨x, hx⟩ : ∃ x, F[i]? = some x := ⟨F[i]'(by have := hFl.out; omega), List.getElem?_eq_some_iff.2 ⟨_, rfl⟩⟩
        rcases id hoF.out.txt with ⟨e, _⟩ | ⟨g, o, c', e, _, hg, hcell⟩
        · rw [e] at hx
          simp at hx
        obtain ⟨rfl, hzz, rfl⟩ : aF = some ⟨g, o, none⟩ ∧ fn = F.length ∧ cF = c' := by simpa using e
        have hc1 := (hbz.out.cell (p := ⟨g, o + i, none⟩) hg).trans (hcell i x hx)
        have hii : (i : Int) < (fn : Int) := by omega
        have HXI := hide hx
        have HND := hide (onF_new HFN.out hx)
        clear hzz e hx hcell
        obtain ⟨L, h1, h2, h3, h4⟩ := hex.out
        have HL := hide h1
        have HO := hide h2
        have HRL := hide h3
        have HML := hide h4
        have hbl0 := hbl
        clear h1 h2 h3 h4 hex hbl
        have hbl := hbz
        go_wp2
        go_loopw [12] (fun u wx => ∃ k : Nat, k ≤ q ∧ u = .int .i64 k ∧ Hid (∀ z ∈ (plainT L).drop k, Hog.lt x.data.toList z) ∧ Hid (Below wr.heap.size wr wx)) (fun u _ => (intOf u).toNat)
        case atStart => exact ⟨q, Nat.le_refl _, rfl, (by intro z hz; rw [List.drop_eq_nil_of_le (by unfold plainT; rw [List.length_map, HL.out]; exact Nat.le_refl _)] at hz; simp at hz), Below.refl _ _⟩
        case round =>
          rename World => wx
          obtain ⟨k, hk, rfl, hdr, hbx⟩ := hrel
          by_cases hk0 : k = 0
          · have hkd : decide (0 < k) = false := by rw [decide_eq_false_iff_not]; omega
            have HAH : Hid (∀ z ∈ (plainT L).take k, Hog.lt z x.data.toList) := by rw [hk0]; intro z hz; simp at hz
            clear hk0
            go_wp2
            go_quiet (fail)
            go_wp2
            obtain ⟨hf1, hf2, hf3⟩ := (HO.out.below hbx.out).front k hk
            obtain ⟨a', c', hcw, hcn, hcc⟩ := (HO.out.below hbx.out).cut k hk
            have hf2i : (k : Int) ≤ (c : Int) := by omega
            have hkq : (k : Int) ≤ (q : Int) := by omega
            have HF3 := hide hf3
            have HCC := hide hcc
            have HCW := hide hcw
            have HF1 := hide hf1
            have HCN := hide hcn
            have hS00 : Below wx.heap.size wx (wx.drewN nq) := below_draw (Below.refl _ wx) nq
            have hS0 : Below wx.heap.size wx (wx.drewN nq).drew := hS00.drew
            have hgx : g < wx.heap.size := Nat.lt_of_lt_of_le hg (below_two hbl.out hbx.out).size
            have hcx := (hbx.out.cell (p := ⟨g, o + i, none⟩) (Nat.lt_of_lt_of_le hg hbl.out.size)).trans hc1
            have HCX := hide hcx
            clear hf1 hf2 hf3 hcw hcn hcc hcx
            refine wp_region_held (S := fun w' => Below wx.heap.size wx w') (by kernel_rfl) ?_
            change wpAnyH _ _ _ _ _ _ _ _ (World.drew _)
            refine wpAnyH_take (i := 0) (v := .slice a q c) rfl (by kernel_rfl) (by kernel_rfl) (by kernel_rfl) (fun _ _ _ h => h) (Or.inl ⟨by kernel_rfl, ?_⟩) hS0 ?_
            · intro w' hw'
              go_simp
            refine wpAnyH_take (i := 1) (v := .int .i64 k) rfl (by kernel_rfl) (by kernel_rfl) (by kernel_rfl) (fun _ _ _ h => h) (Or.inl ⟨by kernel_rfl, ?_⟩) hS0 ?_
            · intro w' hw'
              go_simp
            refine wpAnyH_take (i := 2) (v := .slice a k c) rfl (by kernel_rfl) (by kernel_rfl) (by kernel_rfl) (fun _ _ _ h => h) (Or.inl ⟨by kernel_rfl, ?_⟩) hS0 ?_
            · intro w' hw'
              rcases a with _ | ad
              · obtain ⟨e1, e2⟩ := HF1.out rfl
                subst e1
                subst e2
                go_simp
              · clear HF1 HCW HF3 HCC HCN
                go_simp
            refine wpAnyH_take (i := 4) (v := .slice (some ⟨g, o, none⟩) fn cF) rfl (by kernel_rfl) (by kernel_rfl) (by kernel_rfl) (fun _ _ _ h => h) (Or.inl ⟨by kernel_rfl, ?_⟩) hS0 ?_
            · intro w' hw'
              go_simp
            refine wpAnyH_take (i := 5) (v := .int .i64 i) rfl (by kernel_rfl) (by kernel_rfl) (by kernel_rfl) (fun _ _ _ h => h) (Or.inl ⟨by kernel_rfl, ?_⟩) hS0 ?_
            · intro w' hw'
              go_simp
            refine wpAnyH_take (i := 6) (v := .pointer (some ⟨g, o + i, none⟩)) rfl (by kernel_rfl) (by kernel_rfl) (by kernel_rfl) (fun _ _ _ h => h) (Or.inl ⟨by kernel_rfl, ?_⟩) hS0 ?_
            · intro w' hw'
              go_simp
            refine wpAnyH_take (i := 7) (v := .string x) rfl (by kernel_rfl) (by kernel_rfl) (by kernel_rfl) (fun _ _ _ h => h) (Or.inl ⟨by kernel_rfl, ?_⟩) hS0 ?_
            · intro w' hw'
              have hc9 := (hw'.cell (p := ⟨g, o + i, none⟩) hgx).trans HCX.out
              go_simp
            refine wpAnyH_take (i := 10) (v := .slice a q c) rfl (by kernel_rfl) (by kernel_rfl) (by kernel_rfl) (fun _ _ _ h => h) (Or.inl ⟨by kernel_rfl, ?_⟩) hS0 ?_
            · intro w' hw'
              go_simp
            refine wpAnyH_take (i := 11) (v := .int .i64 k) rfl (by kernel_rfl) (by kernel_rfl) (by kernel_rfl) (fun _ _ _ h => h) (Or.inl ⟨by kernel_rfl, ?_⟩) hS0 ?_
            · intro w' hw'
              go_simp
            refine wpAnyH_take (i := 12) (v := .slice a' (q - k) c') rfl (by kernel_rfl) (by kernel_rfl) (by kernel_rfl) (fun _ _ _ h => h) (Or.inl ⟨by kernel_rfl, ?_⟩) hS0 ?_
            · intro w' hw'
              rcases HCW.out with ⟨e1, e2, e3, e4, e5, e6⟩ | ⟨ga, e1, e2, e3, e5, e6⟩ | ⟨ga, e1, e2, e3, e5, e6⟩
              · subst e1 e2 e3 e4 e5 e6
                go_simp
              · subst e1 e5 e6
                clear HCW HF3 HCC HCN HF1
                go_simp
              · subst e1 e5 e6
                clear HCW HF3 HCC HCN HF1
                go_simp
            refine wpAnyH_ready (rs := [3, 8]) (by kernel_rfl) (by simp) (AllReadyH.cons rfl (fun K hK => ?_) (AllReadyH.cons rfl (fun K hK => ?_) AllReadyH.nil))
            · refine step_append_T rfl (.const (.slice none 0 0)) (.tmp 77) rfl wx.heap.size _ [] rfl (Own.nil _ _) a k c (L.take k) (by first | (simp [Act.eval]; done) | simp [Act.eval, Act.put]) (by rw [List.length_take, HL.out]; omega) HF1.out (fun ad e j y hy => (hS0.cell (p := ad.add j) (HF3.out ad e j y hy).2).trans (HF3.out ad e j y hy).1) k (by simp) _ (List.nil_append _) (by omega) hS0.size ?_
              intro b5 c5 w5 ho5 hb5
              have hS5 : Below wx.heap.size wx w5 := hS0.trans hb5
              refine hK.out _ _ hS5 (fun _ => ?_)
              clear hK K
              have hS6 : Below wx.heap.size wx (w5.alloc (.cells #[.string x] 9)) := hS5.trans ((below_box w5 _).mono hS5.size)
              have HO6 := hide (ho5.alloc (.cells #[.string x] 9))
              refine wpAnyH_ready (rs := [8]) (by kernel_rfl) (by simp) (AllReadyH.cons rfl (fun K hK => ?_) AllReadyH.nil)
              go_simp
              refine hK.out _ _ hS6 (fun _ => ?_)
              clear hK K
              refine wpAnyH_ready (rs := [9]) (by kernel_rfl) (by simp) (AllReadyH.cons rfl (fun K hK => ?_) AllReadyH.nil)
              refine step_append_T rfl (.tmp 78) (.tmp 83) rfl wx.heap.size _ (L.take k) (by first | (simp [Act.eval]; done) | simp [Act.eval, Act.put]) HO6.out (some ⟨w5.heap.size, 0, none⟩) 1 1 [x] (by first | (simp [Act.eval]; done) | simp [Act.eval, Act.put]) rfl (fun e => by cases e) (one_listT (one_cellT w5 x)) (k + 1) (by rw [List.length_take, HL.out]; omega) _ rfl (by omega) hS6.size ?_
              intro b7 c7 w7 ho7 hb7
              have hS7 : Below wx.heap.size wx w7 := hS6.trans hb7
              refine hK.out _ _ hS7 (fun _ => ?_)
              clear hK K
              refine wpAnyH_ready (rs := [13]) (by kernel_rfl) (by simp) (AllReadyH.cons rfl (fun K hK => ?_) AllReadyH.nil)
              refine step_append_T rfl (.tmp 84) (.tmp 87) rfl wx.heap.size _ (L.take k ++ [x]) (by first | (simp [Act.eval]; done) | simp [Act.eval, Act.put]) ho7 a' (q - k) c' (L.drop k) (by first | (simp [Act.eval]; done) | simp [Act.eval, Act.put]) (by rw [List.length_drop, HL.out]) HCN.out (fun ad e j y hy => (hS7.cell (p := ad.add j) (HCC.out ad e j y hy).2).trans (HCC.out ad e j y hy).1) (q + 1) (by rw [List.length_append, List.length_take, HL.out]; simp; omega) _ rfl (by omega) hS7.size ?_
              intro b9 c9 w9 ho9 hb9

              have hS9 : Below wx.heap.size wx w9 := hS7.trans hb9
              have HO9 : Hid (Own wB.heap.size w9 (.slice b9 (q + 1) c9) (L.take k ++ [x] ++ L.drop k)) := ho9.base (below_two hbl.out hbx.out).size
              have HB9 := hide (below_two (below_two hbl.out hbx.out) hS9)
              clear ho9 hb9 hS7
              refine hK.out _ _ hS9 (fun _ => ?_)
              clear hK K
              refine wpAnyH_take (i := 14) (v := .slice b9 (q + 1) c9) rfl (by kernel_rfl) (by kernel_rfl) (by kernel_rfl) (fun _ _ _ h => h) (Or.inl ⟨by kernel_rfl, ?_⟩) hS9 ?_
              · intro w' hw'
                go_simp
              refine wpAnyH_done (by kernel_rfl) ?_ _
              go_wp2
              go_roundw
              case rel => exact ⟨i + 1, q + 1, b9, c9, by omega, by omega, rfl, by go_num, hide ⟨L.take k ++ [x] ++ L.drop k, by
                  rw [List.length_append, List.length_append, List.length_take, List.length_drop, HL.out]
                  simp
                  omega, HO9.out, by
                  rw [plain_ins]
                  exact Hog.insert_rise HRL.out hdr.out HAH.out, fun y => by
                  rw [plain_ins, Hog.insert_mem, HML.out, onF_step HXI.out]⟩, HB9⟩
              case measure => simp [intOf]; omega
            · have hS4 : Below wx.heap.size wx ((wx.drewN (nq + 1)).alloc (.cells #[.string x] 9)) := below_two (below_draw (Below.refl _ wx) (nq + 1)) (below_box _ _)
              have HC4 : Hid (((wx.drewN (nq + 1)).alloc (.cells #[.string x] 9)).cell? ⟨wx.heap.size, 0, none⟩ = some (.string x)) := one_cellT (wx.drewN (nq + 1)) x
              go_simp
              refine hK.out _ _ hS4 (fun _ => ?_)
              clear hK K
              refine wpAnyH_ready (rs := [3]) (by kernel_rfl) (by simp) (AllReadyH.cons rfl (fun K hK => ?_) AllReadyH.nil)
              refine step_append_T rfl (.const (.slice none 0 0)) (.tmp 77) rfl (wx.heap.size + 1) _ [] rfl (Own.nil _ _) a k c (L.take k) (by first | (simp [Act.eval]; done) | simp [Act.eval, Act.put]) (by rw [List.length_take, HL.out]; omega) HF1.out (fun ad e j y hy => (hS4.cell (p := ad.add j) (HF3.out ad e j y hy).2).trans (HF3.out ad e j y hy).1) k (by simp) _ (List.nil_append _) (by omega) (by simp) ?_
              intro b5 c5 w5 ho5 hb5
              have HC5 : Hid (w5.cell? ⟨wx.heap.size, 0, none⟩ = some (.string x)) := (hb5.cell (p := ⟨wx.heap.size, 0, none⟩) (Nat.lt_succ_self _)).trans HC4.out
              replace hb5 := hb5.mono (Nat.le_succ wx.heap.size)
              replace ho5 := ho5.base (Nat.le_succ wx.heap.size)
              have hS5 : Below wx.heap.size wx w5 := hS4.trans hb5
              refine hK.out _ _ hS5 (fun _ => ?_)
              clear hK K
              refine wpAnyH_ready (rs := [9]) (by kernel_rfl) (by simp) (AllReadyH.cons rfl (fun K hK => ?_) AllReadyH.nil)
              refine step_append_T rfl (.tmp 78) (.tmp 83) rfl wx.heap.size _ (L.take k) (by first | (simp [Act.eval]; done) | simp [Act.eval, Act.put]) ho5 (some ⟨wx.heap.size, 0, none⟩) 1 1 [x] (by first | (simp [Act.eval]; done) | simp [Act.eval, Act.put]) rfl (fun e => by cases e) (one_listT HC5.out) (k + 1) (by rw [List.length_take, HL.out]; omega) _ rfl (by omega) hS5.size ?_
              intro b7 c7 w7 ho7 hb7
              have hS7 : Below wx.heap.size wx w7 := hS5.trans hb7
              refine hK.out _ _ hS7 (fun _ => ?_)
              clear hK K
              refine wpAnyH_ready (rs := [13]) (by kernel_rfl) (by simp) (AllReadyH.cons rfl (fun K hK => ?_) AllReadyH.nil)
              refine step_append_T rfl (.tmp 84) (.tmp 87) rfl wx.heap.size _ (L.take k ++ [x]) (by first | (simp [Act.eval]; done) | simp [Act.eval, Act.put]) ho7 a' (q - k) c' (L.drop k) (by first | (simp [Act.eval]; done) | simp [Act.eval, Act.put]) (by rw [List.length_drop, HL.out]) HCN.out (fun ad e j y hy => (hS7.cell (p := ad.add j) (HCC.out ad e j y hy).2).trans (HCC.out ad e j y hy).1) (q + 1) (by rw [List.length_append, List.length_take, HL.out]; simp; omega) _ rfl (by omega) hS7.size ?_
              intro b9 c9 w9 ho9 hb9

              have hS9 : Below wx.heap.size wx w9 := hS7.trans hb9
              have HO9 : Hid (Own wB.heap.size w9 (.slice b9 (q + 1) c9) (L.take k ++ [x] ++ L.drop k)) := ho9.base (below_two hbl.out hbx.out).size
              have HB9 := hide (below_two (below_two hbl.out hbx.out) hS9)
              clear ho9 hb9 hS7
              refine hK.out _ _ hS9 (fun _ => ?_)
              clear hK K
              refine wpAnyH_take (i := 14) (v := .slice b9 (q + 1) c9) rfl (by kernel_rfl) (by kernel_rfl) (by kernel_rfl) (fun _ _ _ h => h) (Or.inl ⟨by kernel_rfl, ?_⟩) hS9 ?_
              · intro w' hw'
                go_simp
              refine wpAnyH_done (by kernel_rfl) ?_ _
              go_wp2
              go_roundw
              case rel => exact ⟨i + 1, q + 1, b9, c9, by omega, by omega, rfl, by go_num, hide ⟨L.take k ++ [x] ++ L.drop k, by
                  rw [List.length_append, List.length_append, List.length_take, List.length_drop, HL.out]
                  simp
                  omega, HO9.out, by
                  rw [plain_ins]
                  exact Hog.insert_rise HRL.out hdr.out HAH.out, fun y => by
                  rw [plain_ins, Hog.insert_mem, HML.out, onF_step HXI.out]⟩, HB9⟩
              case measure => simp [intOf]; omega
          · obtain ⟨j, hj⟩ : ∃ j, k = j + 1 := ⟨k - 1, by omega⟩
            obtain ⟨y, hy⟩ : ∃ y, L[j]? = some y := ⟨L[j]'(by have := HL.out; omega), List.getElem?_eq_some_iff.2 ⟨_, rfl⟩⟩
            rcases HO.out.ways with ⟨e1, e2, e3, e4⟩ | ⟨ga, e1, e2, e3, hga, hcl⟩
            · omega
            subst e1
            have hc3 := (hbx.out.cell (p := ⟨ga, j, none⟩) hga).trans (hcl j y hy)
            have hc4 := (hbx.out.cell (p := ⟨g, o + i, none⟩) (Nat.lt_of_lt_of_le hg hbl.out.size)).trans hc1
            have hkd : decide (0 < k) = true := by rw [decide_eq_true_eq]; omega
            have hkj : (k : Int) - 1 = (j : Int) := by omega
            have hkw : IntKind.i64.wrap ((k : Int) - 1) = (j : Int) := by rw [hkj]; exact wrap_r (by omega)
            have hjq : (j : Int) < (q : Int) := by omega
            have HJ := hide hj
            have HY := hide (plain_at hy)
            clear hk0 e2 e3 hcl hj hy
            rcases Hog.less_three x.data.toList y.data.toList with hl | hl | hl
            · have hl1 : Op.bytesLess y.toList x.toList = false := by
                rw [Lib.toList_data, Lib.toList_data]
                exact Bool.eq_false_iff.2 (Hog.lt_asymm hl)
              have hl2 : (y.toList == x.toList) = false := by
                rw [Lib.toList_data, Lib.toList_data, beq_eq_false_iff_ne]
                intro e
                rw [e] at hl
                exact Hog.lt_irr _ hl
              have HLT : Hid (Hog.lt x.data.toList y.data.toList) := hl
              clear hl
              go_wp2
              go_quiet (fail)
              go_wp2
              go_roundw
              case rel =>
                refine ⟨j, by have := HJ.out; omega, ?_, ?_, hide (below_draw hbx.out nq)⟩
                · first | rfl | go_num
                · have h := hdr.out
                  rw [HJ.out] at h
                  exact Hog.behind_more HY.out HLT.out h
              case measure => simp [intOf]; have := HJ.out; omega
            · exfalso
              refine HND.out ?_
              rw [hl, ← HML.out]
              exact List.mem_of_getElem? HY.out
            · have hl1 : Op.bytesLess y.toList x.toList = true := by
                rw [Lib.toList_data, Lib.toList_data]
                exact hl
              have hl2 : (y.toList == x.toList) = false := by
                rw [Lib.toList_data, Lib.toList_data, beq_eq_false_iff_ne]
                intro e
                rw [e] at hl
                exact Hog.lt_irr _ hl
              have HAH : Hid (∀ z ∈ (plainT L).take k, Hog.lt z x.data.toList) := by rw [HJ.out]; exact Hog.ahead_less HRL.out HY.out hl
              clear hl
              go_wp2
              go_quiet (fail)
              go_wp2
              obtain ⟨hf1, hf2, hf3⟩ := (HO.out.below hbx.out).front k hk
              obtain ⟨a', c', hcw, hcn, hcc⟩ := (HO.out.below hbx.out).cut k hk
              have hf2i : (k : Int) ≤ (c : Int) := by omega
              have hkq : (k : Int) ≤ (q : Int) := by omega
              have HF3 := hide hf3
              have HCC := hide hcc
              have HCW := hide hcw
              have HF1 := hide hf1
              have HCN := hide hcn
              have hS00 : Below wx.heap.size wx (wx.drewN nq) := below_draw (Below.refl _ wx) nq
              have hS0 : Below wx.heap.size wx (wx.drewN nq).drew := hS00.drew
              have hgx : g < wx.heap.size := Nat.lt_of_lt_of_le hg (below_two hbl.out hbx.out).size
              have hcx := (hbx.out.cell (p := ⟨g, o + i, none⟩) (Nat.lt_of_lt_of_le hg hbl.out.size)).trans hc1
              have HCX := hide hcx
              clear hf1 hf2 hf3 hcw hcn hcc hcx
              refine wp_region_held (S := fun w' => Below wx.heap.size wx w') (by kernel_rfl) ?_
              change wpAnyH _ _ _ _ _ _ _ _ (World.drew _)
              refine wpAnyH_take (i := 0) (v := .slice (some ⟨ga, 0, none⟩) q c) rfl (by kernel_rfl) (by kernel_rfl) (by kernel_rfl) (fun _ _ _ h => h) (Or.inl ⟨by kernel_rfl, ?_⟩) hS0 ?_
              · intro w' hw'
                go_simp
              refine wpAnyH_take (i := 1) (v := .int .i64 k) rfl (by kernel_rfl) (by kernel_rfl) (by kernel_rfl) (fun _ _ _ h => h) (Or.inl ⟨by kernel_rfl, ?_⟩) hS0 ?_
              · intro w' hw'
                go_simp
              refine wpAnyH_take (i := 2) (v := .slice (some ⟨ga, 0, none⟩) k c) rfl (by kernel_rfl) (by kernel_rfl) (by kernel_rfl) (fun _ _ _ h => h) (Or.inl ⟨by kernel_rfl, ?_⟩) hS0 ?_
              · intro w' hw'
                clear HF1 HCW HF3 HCC HCN
                go_simp
              refine wpAnyH_take (i := 4) (v := .slice (some ⟨g, o, none⟩) fn cF) rfl (by kernel_rfl) (by kernel_rfl) (by kernel_rfl) (fun _ _ _ h => h) (Or.inl ⟨by kernel_rfl, ?_⟩) hS0 ?_
              · intro w' hw'
                go_simp
              refine wpAnyH_take (i := 5) (v := .int .i64 i) rfl (by kernel_rfl) (by kernel_rfl) (by kernel_rfl) (fun _ _ _ h => h) (Or.inl ⟨by kernel_rfl, ?_⟩) hS0 ?_
              · intro w' hw'
                go_simp
              refine wpAnyH_take (i := 6) (v := .pointer (some ⟨g, o + i, none⟩)) rfl (by kernel_rfl) (by kernel_rfl) (by kernel_rfl) (fun _ _ _ h => h) (Or.inl ⟨by kernel_rfl, ?_⟩) hS0 ?_
              · intro w' hw'
                go_simp
              refine wpAnyH_take (i := 7) (v := .string x) rfl (by kernel_rfl) (by kernel_rfl) (by kernel_rfl) (fun _ _ _ h => h) (Or.inl ⟨by kernel_rfl, ?_⟩) hS0 ?_
              · intro w' hw'
                have hc9 := (hw'.cell (p := ⟨g, o + i, none⟩) hgx).trans HCX.out
                go_simp
              refine wpAnyH_take (i := 10) (v := .slice (some ⟨ga, 0, none⟩) q c) rfl (by kernel_rfl) (by kernel_rfl) (by kernel_rfl) (fun _ _ _ h => h) (Or.inl ⟨by kernel_rfl, ?_⟩) hS0 ?_
              · intro w' hw'
                go_simp
              refine wpAnyH_take (i := 11) (v := .int .i64 k) rfl (by kernel_rfl) (by kernel_rfl) (by kernel_rfl) (fun _ _ _ h => h) (Or.inl ⟨by kernel_rfl, ?_⟩) hS0 ?_
              · intro w' hw'
                go_simp
              refine wpAnyH_take (i := 12) (v := .slice a' (q - k) c') rfl (by kernel_rfl) (by kernel_rfl) (by kernel_rfl) (fun _ _ _ h => h) (Or.inl ⟨by kernel_rfl, ?_⟩) hS0 ?_
              · intro w' hw'
                rcases HCW.out with ⟨e1, e2, e3, e4, e5, e6⟩ | ⟨gb, e1, e2, e3, e5, e6⟩ | ⟨gb, e1, e2, e3, e5, e6⟩
                · cases e1
                · cases e1
                  subst e5 e6
                  clear HCW HF3 HCC HCN HF1
                  go_simp
                · cases e1
                  subst e5 e6
                  clear HCW HF3 HCC HCN HF1
                  go_simp
              refine wpAnyH_ready (rs := [3, 8]) (by kernel_rfl) (by simp) (AllReadyH.cons rfl (fun K hK => ?_) (AllReadyH.cons rfl (fun K hK => ?_) AllReadyH.nil))
              · refine step_append_T rfl (.const (.slice none 0 0)) (.tmp 77) rfl wx.heap.size _ [] rfl (Own.nil _ _) (some ⟨ga, 0, none⟩) k c (L.take k) (by first | (simp [Act.eval]; done) | simp [Act.eval, Act.put]) (by rw [List.length_take, HL.out]; omega) HF1.out (fun ad e j y hy => (hS0.cell (p := ad.add j) (HF3.out ad e j y hy).2).trans (HF3.out ad e j y hy).1) k (by simp) _ (List.nil_append _) (by omega) hS0.size ?_
                intro b5 c5 w5 ho5 hb5
                have hS5 : Below wx.heap.size wx w5 := hS0.trans hb5
                refine hK.out _ _ hS5 (fun _ => ?_)
                clear hK K
                have hS6 : Below wx.heap.size wx (w5.alloc (.cells #[.string x] 9)) := hS5.trans ((below_box w5 _).mono hS5.size)
                have HO6 := hide (ho5.alloc (.cells #[.string x] 9))
                refine wpAnyH_ready (rs := [8]) (by kernel_rfl) (by simp) (AllReadyH.cons rfl (fun K hK => ?_) AllReadyH.nil)
                go_simp
                refine hK.out _ _ hS6 (fun _ => ?_)
                clear hK K
                refine wpAnyH_ready (rs := [9]) (by kernel_rfl) (by simp) (AllReadyH.cons rfl (fun K hK => ?_) AllReadyH.nil)
                refine step_append_T rfl (.tmp 78) (.tmp 83) rfl wx.heap.size _ (L.take k) (by first | (simp [Act.eval]; done) | simp [Act.eval, Act.put]) HO6.out (some ⟨w5.heap.size, 0, none⟩) 1 1 [x] (by first | (simp [Act.eval]; done) | simp [Act.eval, Act.put]) rfl (fun e => by cases e) (one_listT (one_cellT w5 x)) (k + 1) (by rw [List.length_take, HL.out]; omega) _ rfl (by omega) hS6.size ?_
                intro b7 c7 w7 ho7 hb7
                have hS7 : Below wx.heap.size wx w7 := hS6.trans hb7
                refine hK.out _ _ hS7 (fun _ => ?_)
                clear hK K
                refine wpAnyH_ready (rs := [13]) (by kernel_rfl) (by simp) (AllReadyH.cons rfl (fun K hK => ?_) AllReadyH.nil)
                refine step_append_T rfl (.tmp 84) (.tmp 87) rfl wx.heap.size _ (L.take k ++ [x]) (by first | (simp [Act.eval]; done) | simp [Act.eval, Act.put]) ho7 a' (q - k) c' (L.drop k) (by first | (simp [Act.eval]; done) | simp [Act.eval, Act.put]) (by rw [List.length_drop, HL.out]) HCN.out (fun ad e j y hy => (hS7.cell (p := ad.add j) (HCC.out ad e j y hy).2).trans (HCC.out ad e j y hy).1) (q + 1) (by rw [List.length_append, List.length_take, HL.out]; simp; omega) _ rfl (by omega) hS7.size ?_
                intro b9 c9 w9 ho9 hb9

                have hS9 : Below wx.heap.size wx w9 := hS7.trans hb9
                have HO9 : Hid (Own wB.heap.size w9 (.slice b9 (q + 1) c9) (L.take k ++ [x] ++ L.drop k)) := ho9.base (below_two hbl.out hbx.out).size
                have HB9 := hide (below_two (below_two hbl.out hbx.out) hS9)
                clear ho9 hb9 hS7
                refine hK.out _ _ hS9 (fun _ => ?_)
                clear hK K
                refine wpAnyH_take (i := 14) (v := .slice b9 (q + 1) c9) rfl (by kernel_rfl) (by kernel_rfl) (by kernel_rfl) (fun _ _ _ h => h) (Or.inl ⟨by kernel_rfl, ?_⟩) hS9 ?_
                · intro w' hw'
                  go_simp
                refine wpAnyH_done (by kernel_rfl) ?_ _
                go_wp2
                go_roundw
                case rel => exact ⟨i + 1, q + 1, b9, c9, by omega, by omega, rfl, by go_num, hide ⟨L.take k ++ [x] ++ L.drop k, by
                    rw [List.length_append, List.length_append, List.length_take, List.length_drop, HL.out]
                    simp
                    omega, HO9.out, by
                    rw [plain_ins]
                    exact Hog.insert_rise HRL.out hdr.out HAH.out, fun y => by
                    rw [plain_ins, Hog.insert_mem, HML.out, onF_step HXI.out]⟩, HB9⟩
                case measure => simp [intOf]; omega
              · have hS4 : Below wx.heap.size wx ((wx.drewN (nq + 1)).alloc (.cells #[.string x] 9)) := below_two (below_draw (Below.refl _ wx) (nq + 1)) (below_box _ _)
                have HC4 : Hid (((wx.drewN (nq + 1)).alloc (.cells #[.string x] 9)).cell? ⟨wx.heap.size, 0, none⟩ = some (.string x)) := one_cellT (wx.drewN (nq + 1)) x
                go_simp
                refine hK.out _ _ hS4 (fun _ => ?_)
                clear hK K
                refine wpAnyH_ready (rs := [3]) (by kernel_rfl) (by simp) (AllReadyH.cons rfl (fun K hK => ?_) AllReadyH.nil)
                refine step_append_T rfl (.const (.slice none 0 0)) (.tmp 77) rfl (wx.heap.size + 1) _ [] rfl (Own.nil _ _) (some ⟨ga, 0, none⟩) k c (L.take k) (by first | (simp [Act.eval]; done) | simp [Act.eval, Act.put]) (by rw [List.length_take, HL.out]; omega) HF1.out (fun ad e j y hy => (hS4.cell (p := ad.add j) (HF3.out ad e j y hy).2).trans (HF3.out ad e j y hy).1) k (by simp) _ (List.nil_append _) (by omega) (by simp) ?_
                intro b5 c5 w5 ho5 hb5
                have HC5 : Hid (w5.cell? ⟨wx.heap.size, 0, none⟩ = some (.string x)) := (hb5.cell (p := ⟨wx.heap.size, 0, none⟩) (Nat.lt_succ_self _)).trans HC4.out
                replace hb5 := hb5.mono (Nat.le_succ wx.heap.size)
                replace ho5 := ho5.base (Nat.le_succ wx.heap.size)
                have hS5 : Below wx.heap.size wx w5 := hS4.trans hb5
                refine hK.out _ _ hS5 (fun _ => ?_)
                clear hK K
                refine wpAnyH_ready (rs := [9]) (by kernel_rfl) (by simp) (AllReadyH.cons rfl (fun K hK => ?_) AllReadyH.nil)
                refine step_append_T rfl (.tmp 78) (.tmp 83) rfl wx.heap.size _ (L.take k) (by first | (simp [Act.eval]; done) | simp [Act.eval, Act.put]) ho5 (some ⟨wx.heap.size, 0, none⟩) 1 1 [x] (by first | (simp [Act.eval]; done) | simp [Act.eval, Act.put]) rfl (fun e => by cases e) (one_listT HC5.out) (k + 1) (by rw [List.length_take, HL.out]; omega) _ rfl (by omega) hS5.size ?_
                intro b7 c7 w7 ho7 hb7
                have hS7 : Below wx.heap.size wx w7 := hS5.trans hb7
                refine hK.out _ _ hS7 (fun _ => ?_)
                clear hK K
                refine wpAnyH_ready (rs := [13]) (by kernel_rfl) (by simp) (AllReadyH.cons rfl (fun K hK => ?_) AllReadyH.nil)
                refine step_append_T rfl (.tmp 84) (.tmp 87) rfl wx.heap.size _ (L.take k ++ [x]) (by first | (simp [Act.eval]; done) | simp [Act.eval, Act.put]) ho7 a' (q - k) c' (L.drop k) (by first | (simp [Act.eval]; done) | simp [Act.eval, Act.put]) (by rw [List.length_drop, HL.out]) HCN.out (fun ad e j y hy => (hS7.cell (p := ad.add j) (HCC.out ad e j y hy).2).trans (HCC.out ad e j y hy).1) (q + 1) (by rw [List.length_append, List.length_take, HL.out]; simp; omega) _ rfl (by omega) hS7.size ?_
                intro b9 c9 w9 ho9 hb9

                have hS9 : Below wx.heap.size wx w9 := hS7.trans hb9
                have HO9 : Hid (Own wB.heap.size w9 (.slice b9 (q + 1) c9) (L.take k ++ [x] ++ L.drop k)) := ho9.base (below_two hbl.out hbx.out).size
                have HB9 := hide (below_two (below_two hbl.out hbx.out) hS9)
                clear ho9 hb9 hS7
                refine hK.out _ _ hS9 (fun _ => ?_)
                clear hK K
                refine wpAnyH_take (i := 14) (v := .slice b9 (q + 1) c9) rfl (by kernel_rfl) (by kernel_rfl) (by kernel_rfl) (fun _ _ _ h => h) (Or.inl ⟨by kernel_rfl, ?_⟩) hS9 ?_
                · intro w' hw'
                  go_simp
                refine wpAnyH_done (by kernel_rfl) ?_ _
                go_wp2
                go_roundw
                case rel => exact ⟨i + 1, q + 1, b9, c9, by omega, by omega, rfl, by go_num, hide ⟨L.take k ++ [x] ++ L.drop k, by
                    rw [List.length_append, List.length_append, List.length_take, List.length_drop, HL.out]
                    simp
                    omega, HO9.out, by
                    rw [plain_ins]
                    exact Hog.insert_rise HRL.out hdr.out HAH.out, fun y => by
                    rw [plain_ins, Hog.insert_mem, HML.out, onF_step HXI.out]⟩, HB9⟩
                case measure => simp [intOf]; omega
end Go.Proofs.YtinjbijigjfdfaaGreatDoor
