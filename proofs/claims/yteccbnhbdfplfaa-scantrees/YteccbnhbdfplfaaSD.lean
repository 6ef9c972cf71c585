/- The iterator of package scan: what it hands to whoever ranges over it. -/
import Derived.Test.YteccbnhbdfplfaaSC
import Derived.RangeFuncNested
import Derived.RangeFuncBound
import Derived.RangeFuncCalls
import Derived.RangeFuncLeaves
import Derived.RangeFuncBox
import Derived.RangeFuncFrom
import Derived.Shelf.Abstract
import Derived.Shelf.RegionOpen
import Derived.OwnWalkIn
import Derived.TacticsInMore
import Derived.LoopNIn
import Derived.LoopIn
import Derived.Maps.AppendAt
namespace Go.Proofs.Yteccbnhbdfplfaa
open Go.RowKit Go.Shelf

attribute [local go_sem] Oper.semAt_some

/-- In which block lie the elements of the slice that is kept in the box B? -/
def rowAt (w : World) (B : Nat) : Option Nat := (w.cell? ⟨B, 0, none⟩).bind Value.ownBlock
/-- Of all cells only the box B, and the elements of its slice, have turned; these lie where they lay, or in a new block. -/
def KpZ (B : Nat) (w w' : World) : Prop :=
  w.heap.size ≤ w'.heap.size ∧ (∀ k o, w.heap[k]? = some o → o.isCells = true → k ≠ B → some k ≠ rowAt w B → w'.heap[k]? = some o) ∧ (rowAt w' B = rowAt w B ∨ ∃ k, rowAt w' B = some k ∧ w.heap.size ≤ k)
theorem KpZ.trans {B : Nat} {a b c : World} (h : KpZ B a b) (k : KpZ B b c) : KpZ B a c := by
  refine ⟨Nat.le_trans h.1 k.1, fun i o hi hc hB hr => ?_, ?_⟩
  · refine k.2.1 i o (h.2.1 i o hi hc hB hr) hc hB ?_
    rcases h.2.2 with e | ⟨j, e, hj⟩
    · rw [e]; exact hr
    · rw [e]
      intro e2
      have h1 := (Array.getElem?_eq_some_iff.1 hi).1
      simp at e2
      omega
  · rcases k.2.2 with e | ⟨j, e, hj⟩
    · rw [e]; exact h.2.2
    · exact .inr ⟨j, e, Nat.le_trans h.1 hj⟩
theorem KpZ.book {B : Nat} {w : World} (hB : B < w.heap.size) (W : World) (l : Nat) (o o' : Obj) (hl : w.heap.size ≤ l) (h : W.heap[l]? = some o) (hc : o.isCells = false) (_ : o.isWalk = false) : KpZ B W (W.putObj l o') := by
  have hg := grownBy_putObj' W l o'
  refine ⟨hg.size, fun k ok hk hck _ _ => ?_, .inl ?_⟩
  · rw [hg.block k (Array.getElem?_eq_some_iff.1 hk).1 (fun e => ?_)]
    · exact hk
    · cases e
      rw [h] at hk
      cases hk
      rw [hc] at hck
      cases hck
  · unfold rowAt
    rw [World.cell?_of_block (hg.block B (by have := (Array.getElem?_eq_some_iff.1 h).1; omega) (fun e => by cases e; omega))]
theorem grown_of_below {w w' : World} (h : Below w.heap.size w w') : w.grownBy w' none := ⟨h.os, h.tape, h.output, h.size, fun k hk _ => h.block k hk⟩

/-- What the iterator reads between two rounds: its two boxes, and its table. -/
structure Sits (B0 Bx Bw Bs : Nat) (p s : ByteArray) (zs : List Int) (w : World) : Prop where
  bw : Boxed w Bw 9 (.string p)
  bs : Boxed w Bs 9 (.string s)
  back : OwnZ B0 w (.slice (some ⟨B0, 0, none⟩) p.size p.size) zs
  row : rowAt w Bx = none ∨ ∃ k, rowAt w Bx = some k ∧ B0 < k
  lw : Bw < B0
  ls : Bs < B0
  lx : Bx < B0
  nw : Bw ≠ Bx
  ns : Bs ≠ Bx
theorem Sits.table {B0 Bx Bw Bs : Nat} {p s : ByteArray} {zs : List Int} {w : World} (h : Sits B0 Bx Bw Bs p s zs w) : ∃ cur, w.heap[B0]? = some (.cells cur 3 (0, 0)) := by
  rcases h.back.2 with ⟨e, _⟩ | ⟨g, cap, cur, e, _, hg, _⟩
  · cases e
  · simp only [Value.slice.injEq, Option.some.injEq, Addr.mk.injEq, and_true] at e
    obtain ⟨rfl, _⟩ := e
    exact ⟨cur, hg⟩
theorem Sits.size {B0 Bx Bw Bs : Nat} {p s : ByteArray} {zs : List Int} {w : World} (h : Sits B0 Bx Bw Bs p s zs w) : B0 < w.heap.size := by
  obtain ⟨cur, hg⟩ := h.table
  exact (Array.getElem?_eq_some_iff.1 hg).1
theorem Sits.not {B0 Bx Bw Bs : Nat} {p s : ByteArray} {zs : List Int} {w : World} (h : Sits B0 Bx Bw Bs p s zs w) {k : Nat} (hk : k ≤ B0) : some k ≠ rowAt w Bx := by
  rcases h.row with e | ⟨j, e, hj⟩
  · rw [e]; simp
  · rw [e]; intro e2; simp at e2; omega
theorem Sits.step {B0 Bx Bw Bs : Nat} {p s : ByteArray} {zs : List Int} {w w' : World} (h : Sits B0 Bx Bw Bs p s zs w) (k : KpZ Bx w w') : Sits B0 Bx Bw Bs p s zs w' := by
  obtain ⟨cur, hg⟩ := h.table
  have hg' : w'.heap[B0]? = w.heap[B0]? := by rw [hg]; exact k.2.1 B0 _ hg rfl (by have := h.lx; omega) (h.not (Nat.le_refl _))
  refine ⟨k.2.1 _ _ h.bw rfl h.nw (h.not (by have := h.lw; omega)), k.2.1 _ _ h.bs rfl h.ns (h.not (by have := h.ls; omega)), ⟨h.back.1, ?_⟩, ?_, h.lw, h.ls, h.lx, h.nw, h.ns⟩
  · rcases h.back.2 with ⟨e, _⟩ | ⟨g, cap, cur', e, hb, hgg, r⟩
    · cases e
    · have e2 := e
      simp only [Value.slice.injEq, Option.some.injEq, Addr.mk.injEq, and_true] at e2
      obtain ⟨e3, _⟩ := e2
      subst e3
      exact .inr ⟨_, cap, cur', e, hb, by rw [hg']; exact hgg, r⟩
  · rcases k.2.2 with e | ⟨j, e, hj⟩
    · rw [e]; exact h.row
    · exact .inr ⟨j, e, by have := h.size; omega⟩
theorem rowAt_below {w w' : World} {B : Nat} (hb : Below w.heap.size w w') (hB : B < w.heap.size) : rowAt w' B = rowAt w B := by
  unfold rowAt
  rw [hb.cell (p := ⟨B, 0, none⟩) hB]
theorem Boxed.belowB {w w' : World} {B : Nat} {t : TypeId} {v : Value} (h : Boxed w B t v) (hb : Below w.heap.size w w') : Boxed w' B t v := (hb.block B h.lt).trans h
theorem Sits.below {B0 Bx Bw Bs : Nat} {p s : ByteArray} {zs : List Int} {w w' : World} (h : Sits B0 Bx Bw Bs p s zs w) (hb : Below w.heap.size w w') : Sits B0 Bx Bw Bs p s zs w' :=
  ⟨Boxed.belowB h.bw hb, Boxed.belowB h.bs hb, h.back.below hb, by rw [rowAt_below hb (by have := h.size; have := h.lx; omega)]; exact h.row, h.lw, h.ls, h.lx, h.nw, h.ns⟩

set_option maxRecDepth 100000 in
set_option maxHeartbeats 2000000 in
theorem places1_in (n : Nat) (hn : 1 ≤ n) (l Bx Bw Bs : Nat) (p s : ByteArray) (hp : p.size < 1000000) (hs : s.size < 1000000) (J Jx : List Nat → World → Prop) (W : World) (hJ : AbidesFrom W.heap.size J)
    (hY : ∀ pre (x : Nat) W1, J pre W1 → pre.length < s.size + 1 → YieldAt Fence.wide (n - 1) Try.prog l #[.int .i64 x] W1 fun e W' =>
      (e = .returned (.bool true) ∧ J (pre ++ [x]) W' ∧ KpZ Bx W1 W') ∨ (e = .returned (.bool false) ∧ Jx (pre ++ [x]) W'))
    (hw : Boxed W Bw 9 (.string p)) (hb : Boxed W Bs 9 (.string s)) (hxw : Bw ≠ Bx) (hxs : Bs ≠ Bx) (hxr : rowAt W Bx = none) (hxl : Bx < W.heap.size) (h0 : J [] W) :
    CallsIn Fence.wide n Try.prog 35 #[.func (.yield l) #[] #[], .pointer (some ⟨Bw, 0, none⟩), .pointer (some ⟨Bs, 0, none⟩)] W fun e W' => (∃ v, e = .returned v) ∧
      ((∃ ys, ys = Hog.placesL p.data.toList s.data.toList ∧ J ys W') ∨ (∃ pre, (pre <+: Hog.placesL p.data.toList s.data.toList ∧ pre ≠ []) ∧ Jx pre W')) := by
  have hcw := hw.cell
  have hcs := hb.cell
  have hpi : (p.size : Int) < 1000000 := by omega
  have hsi : (s.size : Int) < 1000000 := by omega
  have HJ := hide hJ
  have HY := hide hY
  have H0 := hide h0
  have HW := hide hw
  have HB := hide hb
  clear hJ hY h0 hw hb
  refine callsIn_of_wp Try.func35 rfl trivial ?_ rfl
  simp only [Try.ntmps35, List.size_toArray, List.length_cons, List.length_nil, Nat.reduceAdd, Nat.reduceSub, Array.replicate_succ, Array.replicate_zero, List.push_toArray, List.append_toArray, List.nil_append, List.cons_append]
  by_cases hp0 : p.size = 0
  · have hpe : p.toList.isEmpty = true := by rw [Lib.toList_data, List.isEmpty_iff]; exact List.eq_nil_of_length_eq_zero (by rw [← Hog.size_len]; exact hp0)
    gi_wp2
    refine bodyPost_ret (results_none rfl _ _ _) rfl ?_
    exact ⟨⟨_, rfl⟩, .inl ⟨[], (Hog.places_none (.inl (List.eq_nil_of_length_eq_zero (by rw [← Hog.size_len]; exact hp0)))).symm, H0.out⟩⟩
  · have hpe : p.toList.isEmpty = false := by
      rw [Lib.toList_data]
      cases e : p.data.toList with
      | nil => exact absurd (by rw [Hog.size_len, e]; rfl) hp0
      | cons a r => rfl
    by_cases hps : s.size < p.size
    · have hpi2 : (s.size : Int) < (p.size : Int) := by omega
      gi_wp2
      refine bodyPost_ret (results_none rfl _ _ _) rfl ?_
      exact ⟨⟨_, rfl⟩, .inl ⟨[], (Hog.places_none (.inr (by rw [← Hog.size_len, ← Hog.size_len]; exact hps))).symm, H0.out⟩⟩
    · have hpi2 : (p.size : Int) ≤ (s.size : Int) := by omega
      have hp1 : 0 < p.size := by omega
      have HPN : Hid (p.data.toList ≠ []) := fun e => hp0 (by rw [Hog.size_len, e]; rfl)
      clear hp0
      gi_wp2_with (refine ⟨trivial, ?_⟩; gi_at_call 36; refine (callsIn_wide.2 (borders_ok p _ hp1 hp)).mono ?_; rintro e W1 ⟨zs, rfl, ho1, hl1, ht1, hb1⟩; have HO1 := hide ho1; have HL1 := hide hl1; have HT1 := hide ht1; have HB1 := hide hb1; have hcw1 := (hb1.cell (p := ⟨Bw, 0, none⟩) HW.out.lt).trans hcw; have hcs1 := (hb1.cell (p := ⟨Bs, 0, none⟩) HB.out.lt).trans hcs; clear ho1 hl1 ht1 hb1)
      have HS1 : Hid (Sits W.heap.size Bx Bw Bs p s zs W1) := ⟨Boxed.belowB HW.out HB1.out, Boxed.belowB HB.out HB1.out, HO1.out, .inl (by rw [rowAt_below HB1.out hxl]; exact hxr), HW.out.lt, HB.out.lt, hxl, hxw, hxs⟩
      have HJ1 : Hid (J [] W1) := HJ.out [] W W1 none H0.out (grown_of_below HB1.out) (fun r e => by cases e)
      clear hcw hcs hcw1 hcs1 HO1 H0 HW HB
      gi_loopw [5, 20] (fun sn i wr => ∃ b k : Nat, k ≤ s.size ∧ b ≤ p.size ∧ sn = .int .i64 b ∧ i = .int .i64 k ∧ Hid (Hog.best p.data.toList (s.data.toList.take k) b) ∧ Hid (Sits W.heap.size Bx Bw Bs p s zs wr) ∧ Hid (J (Hog.uptoL p.data.toList s.data.toList k) wr))
        (fun _ i _ => s.size - (intOf i).toNat)
      case atStart => exact ⟨0, 0, Nat.zero_le _, Nat.zero_le _, rfl, rfl, by rw [List.take_zero]; exact Hog.best_nil _, HS1, by rw [Hog.upto_zero _ HPN.out]; exact HJ1⟩
      case round =>
        obtain ⟨b, k, hk, hb, rfl, rfl, hbe, hsi, hjs⟩ := hrel
        by_cases hlt : k < s.size
        · have hki : (k : Int) < (s.size : Int) := by omega
          have HAT := hide (at_byte s k hlt)
          have hsz := hsi.out.size
          have f0 : ∀ q : Later wr, q.w1.cell? ⟨Bw, 0, none⟩ = some (.string p) := fun q => q.cell (a := ⟨Bw, 0, none⟩) hsi.out.bw.lt hsi.out.bw.cell
          have f1 : ∀ q : Later wr, q.w1.cell? ⟨Bs, 0, none⟩ = some (.string s) := fun q => q.cell (a := ⟨Bs, 0, none⟩) hsi.out.bs.lt hsi.out.bs.cell
          obtain ⟨b2, hb2⟩ := Hog.best_ex p.data.toList (s.data.toList.take (k + 1))
          have hb2p : b2 ≤ p.size := by rw [Hog.size_len]; exact hb2.1.1
          have HG : Hid (∀ q : Later wr, Calls Try.prog 37 #[.string p, .slice (some ⟨W.heap.size, 0, none⟩) p.size p.size, .int .i64 b, .int .u8 s[k].toNat] q.w1 fun e w' => e = .returned (.int .i64 b2) ∧ Below q.w1.heap.size q.w1 w') := fun q => by
            refine (grow_ok p W.heap.size 0 p.size p.size zs (s.data.toList.take k) s[k] b b2 q.w1 hp1 (by unfold maxLen; omega) hb hb (fun j z hz => ?_) (Hog.table_less HT1.out hb) hbe.out (by rw [← take_byte s k hlt]; exact hb2)).mono ?_
            · rw [Nat.zero_add]
              exact (hsi.out.back.below q.below).cellAt hz
            · rintro e w' ⟨rfl, rfl⟩
              exact ⟨rfl, Below.refl _ _⟩
          have HW2 := hide (Hog.seen_whole (P := p.data.toList) (s := s.data.toList) (k := k + 1) (by rw [← Hog.size_len]; exact hlt) hb2)
          have HB2 := hide hb2
          have hne := later_one wr
          clear hb2
          gi_wp2
          refine wpIn_wide.2 ?_
          refine wp_region_later (by kernel_rfl) (by kernel_rfl) ?_
          repeat (first
            | go_big_quiet_step ((go_at_call 37; exact Calls.later_of (HG.out _)))
            | quiet_step ((go_at_call 37; exact Calls.later_of (HG.out _))))
          refine wpQuiet_nil ?_
          intro W5 hw'
          have hbq := hide (later_below hw')
          have HS5 := hide (hsi.out.below hbq.out)
          have HJ5 : Hid (J (Hog.uptoL p.data.toList s.data.toList k) W5) := HJ.out _ wr W5 none hjs.out (grown_of_below hbq.out) (fun r e => by cases e)
          have c0 := HS5.out.bw.cell
          clear hw' f0 f1 HG hne
          by_cases he : b2 = p.size
          · obtain ⟨h1, h2⟩ := HW2.out.1 (by rw [← Hog.size_len]; exact he)
            rw [← Hog.size_len] at h1
            subst he
            obtain ⟨fn, tmps, assign, body, hy, hR⟩ := HY.out _ (k + 1 - p.size) W5 HJ5.out (by have := Hog.upto_len p.data.toList s.data.toList k; omega)
            have ex : ((k + 1 - p.size : Nat) : Int) = (k : Int) + 1 - (p.size : Int) := by omega
            rw [ex] at hy
            have HR := hide hR
            have HH := hide h2
            have HE := hide ex
            have hkp : (p.size : Int) ≤ (k : Int) + 1 := by omega
            clear ex hR h2 h1 HW2
            gi_wp2
            refine HR.out.mono ?_
            rintro e W6 (⟨rfl, hJ6, hk6⟩ | ⟨rfl, hJx6⟩)
            · have HS6 := hide (HS5.out.step hk6)
              have HJ6 := hide hJ6
              clear hJ6 hk6 HS5 HJ5 c0 hy
              gi_wp2
              go_roundw
              case rel => exact ⟨p.size, k + 1, by omega, Nat.le_refl _, rfl, by go_num, HB2.out, HS6, by rw [Hog.upto_hit (by rw [← Hog.size_len]; omega) (by rw [← Hog.size_len]; exact HH.out), ← Hog.size_len]; exact HJ6⟩
              case measure => simp [intOf]; omega
            · have HJ6 := hide hJx6
              clear hJx6 HS5 HJ5 c0 hy
              gi_wp2
              refine bodyPost_ret (results_none rfl _ _ _) rfl ?_
              refine ⟨⟨_, rfl⟩, .inr ⟨_, ⟨?_, by simp⟩, HJ6.out⟩⟩
              rw [Hog.places_upto HPN.out]
              have h3 := Hog.upto_prefix p.data.toList s.data.toList (k := k + 1) (m := s.data.toList.length) (by rw [← Hog.size_len]; omega)
              rw [Hog.upto_hit (by rw [← Hog.size_len]; omega) (by rw [← Hog.size_len]; exact HH.out), ← Hog.size_len] at h3
              rw [← Hog.size_len]
              exact h3
          · have hq : ((b2 : Int) == (p.size : Int)) = false := by rw [beq_eq_false_iff_ne]; omega
            have HM : Hid (Hog.uptoL p.data.toList s.data.toList (k + 1) = Hog.uptoL p.data.toList s.data.toList k) := Hog.upto_miss (fun h => he (by rw [Hog.size_len]; exact HW2.out.2 h))
            clear he HW2
            simp only [Exit.then]
            apply_assumption
            refine wpIn_wide.2 ?_
            go_wp2
            gi_wp2
            go_roundw
            case rel => exact ⟨b2, k + 1, by omega, hb2p, rfl, by go_num, HB2.out, HS5, by rw [HM.out]; exact HJ5⟩
            case measure => simp [intOf]; omega
        · have hke : (s.size : Int) ≤ (k : Int) := by omega
          have HK : Hid (k = s.size) := by show k = s.size; omega
          gi_wp2
          go_end0
          refine ⟨⟨_, rfl⟩, .inl ⟨_, ?_, hjs.out⟩⟩
          rw [Hog.places_upto HPN.out, HK.out, ← Hog.size_len]
end Go.Proofs.Yteccbnhbdfplfaa
