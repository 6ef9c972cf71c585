/- The walk of find.Sub. -/
import Derived.Test.YtomomeckgiiapaaDoorF4
namespace Go.Proofs.YtomomeckgiiapaaDoor
open Go.RowKit

/-- What Sub tells. -/
def subL (t : List Nd) (p : ByteArray) : List Nd := if (lookP t p).2 = true then sub t p.data.toList else []
theorem sub_step {t : List Nd} {k : Nat} {n : Nd} {p : List UInt8} (hn : t[k]? = some n) : sub (t.take (k + 1)) p = sub (t.take k) p ++ if Hog.underL (key n) p = true then [mov p n] else [] := by
  unfold sub
  rw [filter_step hn, List.map_append]
  by_cases h : Hog.underL (key n) p = true
  · rw [if_pos h, if_pos h]; rfl
  · rw [if_neg h, if_neg h]; rfl
theorem sub_len (t : List Nd) (k : Nat) (p : List UInt8) : (sub (t.take k) p).length ≤ k := by
  unfold sub
  rw [List.length_map]
  exact Nat.le_trans (List.length_filter_le _ _) (List.length_take_le _ _)
theorem trim_ok (s p r : ByteArray) (w : World) (hu : Hog.underL s.data.toList p.data.toList = true) (hr : Hog.mk (Hog.stripL s.data.toList p.data.toList) = r) :
    Calls Tryd.prog 36 #[.string (s.extract p.size s.size), .string ⟨#[47]⟩] w fun e w' => e = .returned (.string r) ∧ w' = w := by
  refine (Tryd.strings_TrimPrefix _ _ w).mono ?_
  rintro e w' ⟨rfl, rfl⟩
  refine ⟨ret_str ?_, rfl⟩
  obtain ⟨u1, u2, u3⟩ := (Hog.under_iff _ _).1 hu
  rw [← hr, ← Hog.strip_code u1 u3]
  unfold Lib.trimPrefix Hog.mk
  have e : (s.extract p.size s.size).data.toList = s.data.toList.drop p.data.toList.length := by
    rw [Lib.extract_eq, ← Hog.size_len p]
    show ((s.data.toList.drop p.size).take (s.size - p.size)) = _
    rw [List.take_of_length_le (by rw [List.length_drop, ← Hog.size_len]; exact Nat.le_refl _)]
  rw [e]
  have e47 : (⟨#[47]⟩ : ByteArray).data.toList = [47] := rfl
  rw [e47]
  by_cases h : [47] <+: s.data.toList.drop p.data.toList.length
  · rw [if_pos h, if_pos ((Hog.hasPrefix_iff _ _).2 h)]; rfl
  · rw [if_neg h, if_neg (fun e => h ((Hog.hasPrefix_iff _ _).1 e))]
theorem under_size {s p : ByteArray} (hu : Hog.underL s.data.toList p.data.toList = true) : p.size ≤ s.size := by
  have := ((Hog.under_iff _ _).1 hu).2.2.pre.length_le
  rwa [← Hog.size_len, ← Hog.size_len] at this
theorem OwnN.setOther {base : Nat} {w : World} {v : Value} {ns : List Nd} (h : OwnN base w v ns) (B j : Nat) (x : Value) (hB : ∀ g, v.ownBlock = some g → g ≠ B) : OwnN base (w.setCell ⟨B, j, none⟩ x) v ns := by
  refine World.ownsRow.kept h (grown_setCell w B j x) ?_
  cases hv : v.ownBlock with
  | none => exact .inl rfl
  | some k => exact .inr fun e => hB k hv (by simpa using e)
theorem Blk.path {w : World} {g : Nat} {n : Nd} (h : Blk w g n) (r : ByteArray) : Blk (w.setCell ⟨g, 0, none⟩ (.string r)) g (r, n.2) := by
  have h1 := heap_setCell_same w g 0 _ _ (.string r) h
  unfold Blk
  rw [h1]; rfl

set_option maxRecDepth 100000 in
set_option maxHeartbeats 1000000 in
theorem sub_ok (b o c : Nat) (t : List Nd) (p : ByteArray) (l : List Nd) (f : Bool) (w0 w : World) (h : Ok w0 w) (hp : ∀ n ∈ t, n.1.size < 999999) (hpp : p.size < 999999) (hr : Run w b o t) (hc : t.length ≤ c) (hm : t.length < 900000) (hf : (lookP t p).2 = f) (hl : subL t p = l) :
    Calls Tryd.prog 14 #[.slice (some ⟨b, o, none⟩) t.length c, .string p] w fun e w' => ∃ a' c', e = .returned (.tuple #[.slice a' l.length c', .bool f]) ∧ OwnN w.heap.size w' (.slice a' l.length c') l ∧ Ok w0 w' ∧ Below w.heap.size w w' := by
  obtain ⟨x, g, hx⟩ : ∃ x g, lookP t p = (x, g) := ⟨_, _, rfl⟩
  have HP := hide hp
  have HR := hide hr
  have HX := hide hx
  obtain rfl : g = f := by rw [hx] at hf; exact hf
  have HL := hide hl
  obtain ⟨m, hmt⟩ : ∃ m, m = t.length := ⟨_, rfl⟩
  have HMT := hide hmt
  have hm' : m < 900000 := by omega
  rw [← hmt]
  clear hp hr hx hf hl hmt
  go_enter Tryd.func14, Tryd.ntmps14
  go_wp2_with fail
  rw [HMT.out]
  refine (lookup_ok _ t p x g w0 w h HP.out (HR.out.nods hc) hm HX.out).mono ?_
  rintro e w1 ⟨rfl, ok1, hb1⟩
  rw [← HMT.out]
  have HB := hide (hb1.trans ((below_box w1 (.cells #[.string x.1, .int .i64 x.2.1, .string x.2.2] 27)).mono hb1.size))
  clear hb1 ok1
  cases g with
  | false =>
    have e2 : l = [] := by rw [← HL.out]; unfold subL; rw [if_neg (by rw [HX.out]; exact Bool.false_ne_true)]
    subst e2
    go_wp2
    go_ret2
    exact ⟨none, 0, rfl, OwnN.nil _ _, h.next HB.out, HB.out⟩
  | true =>
    have e2 : sub t p.data.toList = l := by rw [← HL.out]; unfold subL; rw [if_pos (by rw [HX.out])]
    have HE := hide e2
    clear e2 HL
    go_wp2
    go_loopw [8, 10, 21] (fun s _ i wr => ∃ (k : Nat) (ys : List Nd) (a' : Option Addr) (c' : Nat), k ≤ m ∧ i = .int .i64 k ∧ s = .slice a' ys.length c' ∧ Hid (ys = sub (t.take k) p.data.toList) ∧ Hid (OwnN w.heap.size wr (.slice a' ys.length c') ys) ∧ Hid (Below w.heap.size w wr)) (fun _ _ i _ => m - (intOf i).toNat)
    case atStart => exact ⟨0, [], none, 0, Nat.zero_le _, rfl, rfl, by rw [List.take_zero]; rfl, OwnN.nil _ _, HB⟩
    case round =>
      obtain ⟨k, ys, a', c', hk, rfl, rfl, HYS, HO, HBR⟩ := hrel
      by_cases hlt : k < m
      · obtain ⟨n, hn⟩ : ∃ n, t[k]? = some n := ⟨t[k]'(by have := HMT.out; omega), List.getElem?_eq_some_iff.2 ⟨_, rfl⟩⟩
        obtain ⟨g1, g2, g3⟩ := (HR.out.2 k n hn).below HBR.out HR.out.1
        have HN := hide hn
        have hnp := HP.out n (List.mem_of_getElem? hn)
        clear hn
        have okr : Ok w0 wr := h.next HBR.out
        obtain ⟨ub, hub⟩ : ∃ ub, Hog.underL n.1.data.toList p.data.toList = ub := ⟨_, rfl⟩
        have HU := hide hub
        clear hub
        have HX1 := hide (Blk.made wr n)
        go_wp2_with fail
        refine (under_ok n.1 p ub w0 _ (okr.alloc _) hnp hpp HU.out).mono ?_
        rintro e w3 ⟨rfl, ok3, hb3⟩
        have HX3 := hide (HX1.out.below hb3)
        have hb3' : Below wr.heap.size wr w3 := (below_box wr _).trans (hb3.mono (by simp))
        have HB3 := hide (HBR.out.trans (hb3'.mono HBR.out.size))
        have HO3 := hide (HO.out.below hb3')
        clear hb3 hb3' HX1 g1 g2 g3
        cases ub with
        | false =>
          go_wp2
          go_roundw
          case rel => exact ⟨k + 1, ys, a', c', by omega, by go_num, rfl, by rw [sub_step HN.out, if_neg (by rw [show Hog.underL (key n) p.data.toList = false from HU.out]; decide), List.append_nil]; exact HYS, HO3, HB3⟩
          case measure => simp [intOf]; omega
        | true =>
          obtain ⟨r, hr⟩ : ∃ r, Hog.mk (Hog.stripL n.1.data.toList p.data.toList) = r := ⟨_, rfl⟩
          have hps := under_size HU.out
          have HRR := hide hr
          clear hr
          obtain ⟨⟨x1, x2, x3⟩, ⟨f1, f2, f3⟩, hbl⟩ := HX3.out.facts
          obtain ⟨W4, hW4⟩ : ∃ W4, W4 = w3.setCell ⟨wr.heap.size, 0, none⟩ (.string r) := ⟨_, rfl⟩
          have HW4 := hide hW4
          have hbw : w.heap.size ≤ wr.heap.size := HBR.out.size
          have HB4 : Hid (Below w.heap.size w W4) := by rw [hW4]; exact HB3.out.setCell (p := ⟨wr.heap.size, 0, none⟩) hbw _
          have HX4 : Hid (Blk W4 wr.heap.size (r, n.2)) := by rw [hW4]; exact HX3.out.path r
          have HO4 : Hid (OwnN w.heap.size W4 (.slice a' ys.length c') ys) := by
            rw [hW4]
            exact HO3.out.setOther _ _ _ (fun g hg => by have := (HO.out.lt g hg).2; omega)
          clear hW4
          obtain ⟨⟨y1, y2, y3⟩, ⟨k1, k2, k3⟩, hbl4⟩ := HX4.out.facts
          have HO5 : Hid (OwnN w.heap.size ((w3.setCell ⟨wr.heap.size, 0, none⟩ (.string r)).alloc (.cells #[.string r, .int .i64 n.2.1, .string n.2.2] 27)) (.slice a' ys.length c') ys) := by
            rw [← HW4.out]
            exact HO4.out.alloc _
          have HRN : Hid (ArgN ((w3.setCell ⟨wr.heap.size, 0, none⟩ (.string r)).alloc (.cells #[.string r, .int .i64 n.2.1, .string n.2.2] 27)) (some ⟨w3.heap.size, 0, none⟩) 1 1 [(r, n.2)]) := by
            have h1 := (Run.one W4 (r, n.2)).arg (c := 1) (by simp)
            rw [show W4.heap.size = w3.heap.size by rw [HW4.out]; simp, HW4.out] at h1
            exact h1
          have hyl : ys.length ≤ k := by rw [HYS.out]; exact sub_len t k _
          have hsz : w.heap.size ≤ w3.heap.size := HB3.out.size
          clear HX4 y1 y2 y3 k1 k2 k3 hbl4 HO4
          go_wp2_with fail
          refine (trim_ok n.1 p r _ HU.out HRR.out).mono ?_
          rintro e w5 ⟨rfl, e5⟩
          rw [e5]
          clear e5
          go_wp2_with (at_builtin; refine wpList_append_nodes rfl _ _ rfl w.heap.size _ ys rfl HO5.out _ _ _ [(r, n.2)] rfl HRN.out (by simp; omega) (by simp; omega) ?_)
          intro b6 c6 w6 ho6 hb6
          have HB6 : Hid (Below w.heap.size w w6) := by
            have h1 := HB4.out
            rw [HW4.out] at h1
            exact (h1.trans ((below_box _ _).mono (by simp; omega))).trans hb6
          have HO6 : Hid (OwnN w.heap.size w6 (.slice b6 (ys ++ [(r, n.2)]).length c6) (ys ++ [(r, n.2)])) := by
            show OwnN _ _ _ _
            simpa using ho6
          clear ho6 hb6
          go_wp2
          go_roundw
          case rel => exact ⟨k + 1, ys ++ [(r, n.2)], b6, c6, by omega, by go_num, by simp, hide (by rw [sub_step HN.out, if_pos (show Hog.underL (key n) p.data.toList = true from HU.out), ← HYS.out, ← HRR.out]; rfl), HO6, HB6⟩
          case measure => simp [intOf]; omega
      · go_wp2
        go_ret2
        have e : k = t.length := by have := HMT.out; omega
        have e3 : ys = l := by rw [HYS.out, e, List.take_length, HE.out]
        subst e3
        exact ⟨a', c', rfl, HO.out, h.next HBR.out, HBR.out⟩
end Go.Proofs.YtomomeckgiiapaaDoor
