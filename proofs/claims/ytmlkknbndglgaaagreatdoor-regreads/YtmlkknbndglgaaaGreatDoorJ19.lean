/- Texts that stand together, joined: MI, MJ, MK, ML. -/
import Derived.Test.YtmlkknbndglgaaaGreatDoorPlainM
import Derived.Test.YtmlkknbndglgaaaGreatDoorShelf
import Derived.Test.YtmlkknbndglgaaaGreatDoorTxt
import Derived.Test.YtmlkknbndglgaaaGreatDoorJ18
import Derived.RangeFuncNested
import Derived.RangeFuncBound
import Derived.RangeFuncCalls
import Derived.RangeFuncLeaves
import Derived.RangeFuncBox
import Derived.RangeFuncFrom
import Derived.Shelf.Abstract
import Derived.Shelf.RegionOpen
import Derived.OwnWalkIn
import Derived.TacticsInMore
import Derived.LoopNIn
import Derived.LoopIn
import Derived.Maps.AppendAt
import Derived.Test.YtmlkknbndglgaaaGreatDoorMD
/- The lines of a text, plainly; the walk of the library's iterator over lines, which keeps what is left in a box. -/
namespace Go.Proofs.YtmlkknbndglgaaaGreatDoor
open Go.RowKit Go.Shelf

theorem idx_none {c : UInt8} : ∀ {l : List UInt8}, Lib.indexByte l c = -1 → ¬ c ∈ l
  | [], _ => by simp
  | b :: l, h => by
    unfold Lib.indexByte at h
    split at h
    · cases h
    · rename_i hb
      split at h
      · rename_i hr
        intro hm
        rcases List.mem_cons.1 hm with e | e
        · exact hb (by rw [e]; exact beq_self_eq_true _)
        · exact idx_none (by simpa using hr) e
      · have := Lib.indexByte_ge l c
        omega
theorem idx_some {c : UInt8} : ∀ {l : List UInt8} {k : Nat}, Lib.indexByte l c = k → ∃ a b, l = a ++ c :: b ∧ a.length = k ∧ ¬ c ∈ a
  | [], k, h => by unfold Lib.indexByte at h; omega
  | b :: l, k, h => by
    unfold Lib.indexByte at h
    split at h
    · rename_i hb
      have e : b = c := by simpa using hb
      exact ⟨[], l, by rw [e]; rfl, by rw [List.length_nil]; omega, by simp⟩
    · rename_i hb
      split at h
      · omega
      · rename_i hr
        have hg := Lib.indexByte_ge l c
        have hr' : Lib.indexByte l c ≠ -1 := by simpa using hr
        obtain ⟨a, r, e1, e2, e3⟩ := idx_some (l := l) (k := k - 1) (c := c) (by omega)
        refine ⟨b :: a, r, by rw [e1]; rfl, by rw [List.length_cons]; omega, fun hm => ?_⟩
        rcases List.mem_cons.1 hm with e | e
        · exact hb (by rw [e]; exact beq_self_eq_true _)
        · exact e3 e
def linesB (s : ByteArray) : List ByteArray := (Hog.rawM s.data.toList).map Hog.mk
theorem lines_empty {s : ByteArray} (h : s.size = 0) : linesB s = [] := by
  have : s.data.toList = [] := List.eq_nil_of_length_eq_zero (by rw [← Hog.size_len]; exact h)
  unfold linesB; rw [this]; rfl
theorem ext_list (s : ByteArray) (a b : Nat) : (s.extract a b).data.toList = (s.data.toList.take b).drop a := by
  rw [ByteArray.data_extract, Array.toList_extract, List.extract_eq_take_drop, List.drop_take]
theorem lines_cut {s : ByteArray} {k : Nat} (h : Lib.indexByte s.data.toList 10 = k) : k < s.size ∧ linesB s = s.extract 0 (k + 1) :: linesB (s.extract (k + 1) s.size) := by
  obtain ⟨a, b, e, hl, hn⟩ := idx_some h
  have hs : s.size = k + 1 + b.length := by rw [Hog.size_len, e, List.length_append, List.length_cons, hl]; omega
  refine ⟨by omega, ?_⟩
  have e1 : (s.extract 0 (k + 1)).data.toList = a ++ [10] := by
    rw [ext_list, List.drop_zero, e, show a ++ 10 :: b = (a ++ [10]) ++ b by simp, List.take_left' (by rw [List.length_append, hl]; rfl)]
  have e2 : (s.extract (k + 1) s.size).data.toList = b := by
    rw [ext_list, List.take_of_length_le (by rw [← Hog.size_len]; exact Nat.le_refl _), e, show a ++ 10 :: b = (a ++ [10]) ++ b by simp, List.drop_left' (by rw [List.length_append, hl]; rfl)]
  unfold linesB
  rw [e2, e, Hog.raw_line a b hn, List.map_cons, ← e1, Hog.data_mk]
theorem lines_last {s : ByteArray} (h : Lib.indexByte s.data.toList 10 = -1) (h0 : 0 < s.size) : linesB s = [s] := by
  unfold linesB
  rw [Hog.raw_last _ (idx_none h) (fun e => by rw [Hog.size_len, e] at h0; simp at h0), List.map_cons, Hog.data_mk]
  rfl
end Go.Proofs.YtmlkknbndglgaaaGreatDoor
/- The walk of the library's iterator over lines. -/
namespace Go.Proofs.YtmlkknbndglgaaaGreatDoor
open Go.RowKit Go.Shelf

attribute [local go_sem] Oper.semAt_some

theorem idx_ok (s : ByteArray) (z : Int) (w : World) (hz : Lib.indexByte s.data.toList 10 = z) :
    Calls Tryz.prog 58 #[.string s, .int .u8 10] w fun e w' => e = .returned (.int .i64 z) ∧ w' = w := by
  refine (Tryz.strings_IndexByte s 10 w).mono ?_
  rintro e w' ⟨rfl, rfl⟩
  refine ⟨?_, rfl⟩
  rw [← hz]; rfl
/-- How much is left in the box. -/
def leftAt (w : World) (B : Nat) : Nat := match w.cell? ⟨B, 0, none⟩ with
  | some (.string r) => r.size
  | _ => 0
theorem leftAt_is {w : World} {B : Nat} {r : ByteArray} (h : Boxed w B 9 (.string r)) : leftAt w B = r.size := by
  unfold leftAt; rw [h.cell]

set_option maxRecDepth 100000 in
set_option maxHeartbeats 2000000 in
theorem lines1_in (n : Nat) (hn : 1 ≤ n) (l Bs : Nat) (s : ByteArray) (hs : s.size < 1000000) (J : List ByteArray → World → Prop) (W : World)
    (hJ : ∀ pre A B, J pre A → A.grownBy B (some Bs) → J pre B)
    (hY : ∀ pre x post A, linesB s = pre ++ x :: post → J pre A → YieldAt Fence.wide (n - 1) Tryz.prog l #[.string x] A fun e B => e = .returned (.bool true) ∧ J (pre ++ [x]) B ∧ B.heap[Bs]? = A.heap[Bs]?)
    (hb : Boxed W Bs 9 (.string s)) (h0 : J [] W) :
    CallsIn Fence.wide n Tryz.prog 57 #[.func (.yield l) #[] #[], .pointer (some ⟨Bs, 0, none⟩)] W fun e B => (∃ v, e = .returned v) ∧ J (linesB s) B := by
  have HJ := hide hJ
  have HY := hide hY
  have H0 := hide h0
  have HB := hide hb
  clear hJ hY h0 hb
  refine callsIn_of_wp Tryz.func57 rfl trivial ?_ rfl
  simp only [Tryz.ntmps57, List.size_toArray, List.length_cons, List.length_nil, Nat.reduceAdd, Nat.reduceSub, Array.replicate_succ, Array.replicate_zero, List.push_toArray, List.append_toArray, List.nil_append, List.cons_append]
  gi_wp2
  gi_loopw [3, 4] (fun _ _ wr => ∃ (pre : List ByteArray) (r : ByteArray), r.size ≤ s.size ∧ Hid (linesB s = pre ++ linesB r) ∧ Hid (Boxed wr Bs 9 (.string r)) ∧ Hid (J pre wr)) (fun _ _ wr => leftAt wr Bs)
  case atStart => exact ⟨[], s, Nat.le_refl _, rfl, HB, H0⟩
  case round =>
    obtain ⟨pre, r, hrs, hls, hbx, hj⟩ := hrel
    have hc := hbx.out.cell
    have hf := hbx.out.frozen
    by_cases hr0 : 0 < r.size
    · have hr0i : (0 : Int) < (r.size : Int) := by omega
      have hge := Lib.indexByte_ge r.data.toList 10
      by_cases hz : Lib.indexByte r.data.toList 10 = -1
      · have HX := hide (lines_last hz hr0)
        have HZ := hide hz
        clear hz hge
        have HW : Hid (J pre (wr.setCell ⟨Bs, 0, none⟩ (.string ⟨#[]⟩))) := HJ.out _ _ _ hj.out (grown_setCell wr Bs 0 _)
        obtain ⟨fn, tmps, assign, body, hy, hR⟩ := HY.out pre r [] _ (by rw [hls.out, HX.out]) HW.out
        have HR := hide hR
        clear hR
        gi_wp2_with (refine ⟨trivial, ?_⟩; gi_at_call 58; refine (callsIn_wide.2 (idx_ok r (-1) _ HZ.out)).mono ?_; rintro e w1 ⟨rfl, rfl⟩)
        refine HR.out.mono ?_
        rintro e W6 ⟨rfl, hJ6, hk6⟩
        have HB6 : Hid (Boxed W6 Bs 9 (.string ⟨#[]⟩)) := hk6.trans (hbx.out.set _)
        have HJ6 := hide hJ6
        have HL0 := hide (leftAt_is hbx.out)
        clear hJ6 hk6 hy hc hf HW HR
        gi_wp2
        go_roundw
        case rel => exact ⟨pre ++ [r], ⟨#[]⟩, Nat.zero_le _, by rw [hls.out, HX.out, lines_empty rfl]; exact hide (by simp), HB6, HJ6⟩
        case measure => rw [HL0.out, leftAt_is HB6.out]; exact hr0
      · obtain ⟨k, hk⟩ : ∃ k : Nat, Lib.indexByte r.data.toList 10 = k := ⟨(Lib.indexByte r.data.toList 10).toNat, by omega⟩
        obtain ⟨hks, hx⟩ := lines_cut hk
        have HX := hide hx
        have HZ := hide hk
        have hk0 : (0 : Int) ≤ (k : Int) := by omega
        have hk1 : (k : Int) + 1 ≤ (r.size : Int) := by omega
        clear hz hge hk hx
        gi_wp2_with (refine ⟨trivial, ?_⟩; gi_at_call 58; refine (callsIn_wide.2 (idx_ok r k _ HZ.out)).mono ?_; rintro e w1 ⟨rfl, rfl⟩)
        refine wpIn_wide.2 ?_
        go_region
        have HR2 : Hid (linesB s = pre ++ r.extract 0 (k + 1) :: linesB (r.extract (k + 1) r.size)) := by rw [hls.out, HX.out]; exact hide rfl
        have HSZ : Hid ((r.extract (k + 1) r.size).size = r.size - (k + 1)) := by rw [ByteArray.size_extract]; exact hide (by omega)
        obtain ⟨x, hx⟩ : ∃ x, r.extract 0 (k + 1) = x := ⟨_, rfl⟩
        obtain ⟨y, hy0⟩ : ∃ y, r.extract (k + 1) r.size = y := ⟨_, rfl⟩
        rw [hx, hy0] at HR2 ⊢
        rw [hy0] at HSZ
        clear hx
        have HW : Hid (J pre (w1.setCell ⟨Bs, 0, none⟩ (.string y)).drew) := by
          have hg := grown_setCell w1 Bs 0 (.string y)
          exact hide (HJ.out _ w1 _ hj.out ⟨hg.os, hg.tape, hg.output, hg.size, hg.block⟩)
        obtain ⟨fn, tmps, assign, body, hy, hR⟩ := HY.out pre x (linesB y) _ HR2.out HW.out
        have HR := hide hR
        have HB5 : Hid (Boxed (w1.setCell ⟨Bs, 0, none⟩ (.string y)).drew Bs 9 (.string y)) := hbx.out.set (.string y)
        have hzz := HSZ.out
        clear hR hc hf HW hy0
        gi_wp2
        refine HR.out.mono ?_
        rintro e W6 ⟨rfl, hJ6, hk6⟩
        have HB6 : Hid (Boxed W6 Bs 9 (.string y)) := hk6.trans HB5.out
        have HJ6 := hide hJ6
        have HL0 := hide (leftAt_is hbx.out)
        have hyr : y.size ≤ s.size ∧ y.size < r.size := by omega
        clear hJ6 hk6 hy HR hzz
        gi_wp2
        go_roundw
        case rel => exact ⟨pre ++ [x], y, hyr.1, by rw [HR2.out]; exact hide (by simp), HB6, HJ6⟩
        case measure => rw [HL0.out, leftAt_is HB6.out]; exact hyr.2
    · have hr1 : ((r.size : Nat) : Int) ≤ 0 := by omega
      have HE : Hid (linesB r = []) := lines_empty (by omega)
      gi_wp2
      go_end0
      refine ⟨⟨_, rfl⟩, ?_⟩
      have := hj.out
      rw [hls.out, HE.out, List.append_nil]
      exact this
end Go.Proofs.YtmlkknbndglgaaaGreatDoor
/- A range over lines: the iterator keeps what is left in a box of its own, which the loop's body leaves alone; the body never leaves the loop. -/
namespace Go.Proofs.YtmlkknbndglgaaaGreatDoor
open Go.RowKit Go.Shelf

/-- What the body leaves behind a round. -/
def linesPost (B : Nat) (I : List ByteArray → World → Prop) (xs : List ByteArray) (W : World) : Exit → Act → World → Prop
  | .normal, _, C => KeepsOthers W C ∧ C.heap[B]? = W.heap[B]? ∧ I xs C
  | _, _, _ => False
/-- What an iterator over the lines ls does, for every caller that abides what it does to its own box. -/
def LineSeq (F : Fence) (n : Nat) (P : Program) (gf : Nat) (lb : Array Value) (B : Nat) (ls : List ByteArray) (w : World) : Prop :=
  ∀ (l : Nat) (J : List ByteArray → World → Prop) (W : World), Below w.heap.size w W → (∀ pre A C, J pre A → A.grownBy C (some B) → J pre C) →
    (∀ pre x post A, ls = pre ++ x :: post → J pre A → YieldAt F (n - 1) P l #[.string x] A fun e C => e = .returned (.bool true) ∧ J (pre ++ [x]) C ∧ C.heap[B]? = A.heap[B]?) →
    J [] W → CallsIn F n P gf (#[.func (.yield l) #[] #[]] ++ lb) W fun e C => (∃ v, e = .returned v) ∧ J ls C
theorem lines_seq (n : Nat) (hn : 1 ≤ n) (B : Nat) (s : ByteArray) (hs : s.size < 1000000) (w : World) (hb : Boxed w B 9 (.string s)) :
    LineSeq Fence.wide n Tryz.prog 57 #[.pointer (some ⟨B, 0, none⟩)] B (linesB s) w := fun l J W hW hJ hY h0 =>
  lines1_in n hn l B s hs J W hJ hY ((hW.block B hb.lt).trans hb) h0

theorem wpIn_lines {F : Fence} {n : Nat} {P : Program} {g : Operand} {ps : Array Tmp} {assign body : Code} {Q : Exit → Act → World → Prop} {a : Act} {w : World} (hro : F.round = none) (h1 : 1 ≤ n)
    {gf : Nat} {lb : Array Value} (hg : a.eval g = .func (.func gf) #[] lb) (hF : F.fn gf) (eg : ∀ args w, (callFunc gf args).run P w = .ok (.enter gf args) w) {B : Nat} (hB : B < w.heap.size) {ls : List ByteArray} (hseq : LineSeq F (n - 1) P gf lb B ls w)
    (hps : ps.size = 1) (I : List ByteArray → World → Prop) (hI : OwnFrom w.heap.size I) (hIB : ∀ pre A C, I pre A → A.grownBy C (some B) → I pre C) (h0 : I [] w)
    (hround : ∀ (l : Nat) (pre : List ByteArray) (x : ByteArray) (post : List ByteArray) (W : World), ls = pre ++ x :: post → I pre W →
      assign.wpIn (F.inRound l) (n - 1 - 1) P (Exit.then (fun a₁ V => V = W ∧ ∀ W2, I pre W2 → body.wpIn (F.inRound l) (n - 1 - 1) P (linesPost B I (pre ++ [x]) W2) a₁ W2) (fun _ _ _ => False)) { tmps := (ps.zip #[Value.string x]).foldl (fun t (p, v) => t.setIfInBounds p v) a.tmps, defers := [] } W)
    (hdone : ∀ (D : Nat) (W : World), w.heap.size ≤ D → I ls W → W.heap[D]? = some (.deferred (some [])) → Q .normal { a with defers := { target := .collected D, args := #[] } :: a.defers } W) :
    (Code.rangeFunc g ps assign body).wpIn F n P Q a w := by
  refine wpIn_rangeFunc fun fn hfn => ?_
  rw [hro]
  obtain ⟨R, hR⟩ : ∃ R : LoopState → Loop, R = fun st => { state := st, pending := none, fn, tmps := a.tmps, params := ps, assign, body, defers := w.heap.size } := ⟨_, rfl⟩
  obtain ⟨V, hV⟩ : ∃ V, V = (w.alloc (.deferred (some []))).alloc (.loop (R .ready)) := ⟨_, rfl⟩
  have vD : V.heap[w.heap.size]? = some (.deferred (some [])) := by rw [hV]; exact (Below.heap_alloc _ _ _ (by simp)).trans (World.alloc_heap_new w _)
  have vL : V.heap[w.heap.size + 1]? = some (.loop (R .ready)) := by
    have h := World.alloc_heap_new (w.alloc (.deferred (some []))) (.loop (R .ready))
    rw [World.size_alloc] at h
    rw [hV]; exact h
  have vB : Below w.heap.size w V := by rw [hV]; exact ((Below.refl _ w).alloc (Nat.le_refl _) _).alloc (by simp) _
  have vI : I [] V := by rw [hV]; exact hI.alloc _ (hI.alloc _ h0)
  have run0 : (Instr.enterLoop fn a.tmps ps assign body none).run P w = .ok (w.heap.size + 1, [{ target := .collected w.heap.size, args := #[] }]) V := by rw [hV, hR]; exact run_enterLoop_outer ..
  refine ⟨_, _, V, { target := .fn (.func gf) lb, args := #[.func (.yield (w.heap.size + 1)) #[] #[]] }, V, gf, #[.func (.yield (w.heap.size + 1)) #[] #[]] ++ lb, V, run0, by simp only [resolve, hg]; simp [go_sem], fun f' hf' => by simp [Target.leads] at hf'; subst hf'; exact hF, by simp [invoke, go_sem, eg], fun _ => h1, ?_⟩
  -- the caller's invariant, and beside it the loop's own two blocks
  refine (hseq (w.heap.size + 1) (fun pre W => I pre W ∧ W.heap[w.heap.size + 1]? = some (.loop (R .ready)) ∧ W.heap[w.heap.size]? = some (.deferred (some []))) V vB ?abides ?round ⟨vI, vL, vD⟩).mono ?behind
  case abides =>
    rintro pre A C ⟨k1, k2, k3⟩ hgr
    exact ⟨hIB pre A C k1 hgr, (hgr.block _ (Array.getElem?_eq_some_iff.1 k2).1 (fun e => by have := Option.some.inj e; omega)).trans k2, (hgr.block _ (Array.getElem?_eq_some_iff.1 k3).1 (fun e => by have := Option.some.inj e; omega)).trans k3⟩
  case behind =>
    rintro e C ⟨⟨v, rfl⟩, k1, k2, k3⟩
    have hend := run_endLoop (P := P) k2 (by rw [hR]; simp)
    refine ⟨(R .ready).pending, _, hend, ?_⟩
    have hp : (R .ready).pending = none := by rw [hR]
    rw [hp]
    exact hdone _ _ (Nat.le_refl _) (hI.putObj _ k1 (Nat.le_succ _) k2 rfl) ((World.putObj_heap_other (by omega)).trans k3)
  case round =>
    rintro pre x post A hls ⟨k1, k2, k3⟩
    have hlt : w.heap.size + 1 < A.heap.size := (Array.getElem?_eq_some_iff.1 k2).1
    have hy := run_yield (P := P) (args := #[Value.string x]) k2 (by rw [hR]; exact hps.symm)
    obtain ⟨A2, hA2⟩ : ∃ A2, A2 = A.putObj (w.heap.size + 1) (.loop (R .busy)) := ⟨_, rfl⟩
    have hbegin : (Instr.beginRound (w.heap.size + 1)).run P A = .ok () A2 := by
      have h := run_beginRound (P := P) k2 (by rw [hR])
      rw [h, hA2, hR]
    have m1 : I pre A2 := by rw [hA2]; exact hI.putObj _ k1 (Nat.le_succ _) k2 rfl
    have m2 : A2.heap[w.heap.size + 1]? = some (.loop (R .busy)) := by rw [hA2]; exact World.putObj_heap_same hlt
    have m3 : A2.heap[w.heap.size]? = some (.deferred (some [])) := by rw [hA2]; exact (World.putObj_heap_other (by omega)).trans k3
    have m4 : A2.heap[B]? = A.heap[B]? := by rw [hA2]; exact World.putObj_heap_other (by omega)
    rw [hR] at hy
    refine ⟨fn, _, assign, body, hy, roundIn_of_wpIn hfn (wpIn_mono (hround _ pre x post A hls k1) ?_)⟩
    rintro e0 a0 V0 he0
    cases e0 with
    | normal => ?_
    | _ => exact he0.elim
    obtain ⟨rfl, hb0⟩ := he0
    refine ⟨A2, hbegin, wpIn_mono (hb0 A2 m1) ?_⟩
    rintro e a3 C hp
    cases e with
    | normal =>
      obtain ⟨p1, p2, p3⟩ := hp
      have n2 := p1.same _ _ m2 rfl
      have hend := run_endRound (P := P) none n2
      refine ⟨.bool true, C.putObj (w.heap.size + 1) (.loop (R .ready)), by rw [hend, hR]; rfl, rfl, ⟨hI.putObj _ p3 (Nat.le_succ _) n2 rfl, World.putObj_heap_same (Array.getElem?_eq_some_iff.1 n2).1, (World.putObj_heap_other (by omega)).trans (p1.same _ _ m3 rfl)⟩, ?_⟩
      exact (World.putObj_heap_other (by omega)).trans (p2.trans m4)
    | ret => exact hp.elim
    | exit id => exact hp.elim
    | goto t => exact hp.elim
    | panic ch => exact hp.elim
    | outgrown => exact hp.elim
end Go.Proofs.YtmlkknbndglgaaaGreatDoor
/- What is read stays small; a frame for the loop of package reg's Read; the library's CutPrefix and TrimSuffix. -/
namespace Go.Proofs.YtmlkknbndglgaaaGreatDoor
open Go.RowKit Go.Shelf

structure BoundM (st : Hog.RegP) (n M : Nat) : Prop where
  pre : st.pre.size ≤ M
  len : st.items.length ≤ n
  item : ∀ i ∈ st.items, i.1.size ≤ M ∧ i.2.length ≤ n ∧ ∀ x ∈ i.2, x.size ≤ M
  plen : st.prof.length ≤ n
  prof : ∀ x ∈ st.prof, x.size ≤ M
theorem BoundM.none (n M : Nat) : BoundM Hog.noneM n M := ⟨Nat.zero_le _, Nat.zero_le _, fun i hi => (by cases hi), Nat.zero_le _, fun x hx => (by cases hx)⟩
theorem BoundM.more {st : Hog.RegP} {n m M : Nat} (h : BoundM st n M) (hm : n ≤ m) : BoundM st m M :=
  ⟨h.pre, Nat.le_trans h.len hm, fun i hi => ⟨(h.item i hi).1, Nat.le_trans (h.item i hi).2.1 hm, (h.item i hi).2.2⟩, Nat.le_trans h.plen hm, h.prof⟩
theorem BoundM.put {st : Hog.RegP} {n M : Nat} (h : BoundM st n M) (f : Int → ByteArray → Int) (k : Nat) (y : ByteArray) (hy : y.size ≤ M) : BoundM (Hog.putM f k st y) (n + 1) M := by
  have h' := h.more (Nat.le_succ n)
  match k with
  | 0 => exact ⟨hy, h'.len, h'.item, h'.plen, h'.prof⟩
  | 1 => exact ⟨h'.pre, h'.len, h'.item, h'.plen, h'.prof⟩
  | 2 =>
    refine ⟨h'.pre, ?_, fun i hi => ?_, h'.plen, h'.prof⟩
    · have := h.len
      rw [Hog.put2]; simp; omega
    · rw [Hog.put2] at hi
      rcases List.mem_append.1 hi with hi | hi
      · exact h'.item i hi
      · rw [List.mem_singleton.1 hi]; exact ⟨hy, Nat.zero_le _, fun x hx => (by cases hx)⟩
  | 3 =>
    rcases List.eq_nil_or_concat st.items with e | ⟨is, i, e⟩
    · rw [Hog.put3_none f st y e]; exact h'
    · rw [List.concat_eq_append] at e
      rw [Hog.put3_last f st y is i e]
      have hl := h'.len
      have hi1 := h.item i (by rw [e]; exact List.mem_append_right _ List.mem_cons_self)
      rw [e, List.length_append] at hl
      refine ⟨h'.pre, by simpa using hl, fun j hj => ?_, h'.plen, h'.prof⟩
      rcases List.mem_append.1 hj with hj | hj
      · exact h'.item j (by rw [e]; exact List.mem_append_left _ hj)
      · rw [List.mem_singleton.1 hj]
        refine ⟨hi1.1, by rw [List.length_append, List.length_singleton]; have := hi1.2.1; omega, fun x hx => ?_⟩
        rcases List.mem_append.1 hx with hx | hx
        · exact hi1.2.2 x hx
        · rw [List.mem_singleton.1 hx]; exact hy
  | k + 4 =>
    have e : Hog.putM f (k + 4) st y = { st with prof := st.prof ++ [y] } := rfl
    rw [e]
    refine ⟨h'.pre, h'.len, h'.item, ?_, fun x hx => ?_⟩
    · have := h.plen
      simp; omega
    · rcases List.mem_append.1 hx with hx | hx
      · exact h'.prof x hx
      · rw [List.mem_singleton.1 hx]; exact hy
theorem trim_le (l : List UInt8) : (Hog.trimM l).length ≤ l.length := by
  unfold Hog.trimM Lib.trimSuffix
  split
  · rw [List.length_take]; omega
  · exact Nat.le_refl _
theorem BoundM.stepK {st : Hog.RegP} {n M : Nat} (h : BoundM st n M) (f : Int → ByteArray → Int) (l : List UInt8) (hl : l.length ≤ M) (k : Nat) : BoundM (Hog.stepK f Hog.trimM l st k) (n + 1) M := by
  unfold Hog.stepK
  split
  · refine h.put f k _ ?_
    rw [Hog.mk_size]
    have := trim_le (l.drop (Hog.wordM k).length)
    rw [List.length_drop] at this
    omega
  · exact h.more (Nat.le_succ n)
theorem BoundM.fair {st : Hog.RegP} {n M : Nat} (h : BoundM st n M) (hn : n < 900000) (hM : M < 900000) : FairP st :=
  ⟨by have := h.pre; omega, by have := h.len; omega, fun i hi => ⟨by have := (h.item i hi).1; omega, by have := (h.item i hi).2.1; omega, fun x hx => by have := (h.item i hi).2.2 x hx; omega⟩, by have := h.plen; omega, fun x hx => by have := h.prof x hx; omega⟩
/-- What k kinds make of a line. -/
def upK (st : Hog.RegP) (l : List UInt8) (k : Nat) : Hog.RegP := (List.range k).foldl (Hog.stepK polF Hog.trimM l) st
theorem upK_succ (st : Hog.RegP) (l : List UInt8) (k : Nat) : upK st l (k + 1) = Hog.stepK polF Hog.trimM l (upK st l k) k := by
  unfold upK
  rw [List.range_succ, List.foldl_append]; rfl
theorem upK_zero (st : Hog.RegP) (l : List UInt8) : upK st l 0 = st := rfl
theorem upK_bound {st : Hog.RegP} {n M : Nat} (h : BoundM st n M) (l : List UInt8) (hl : l.length ≤ M) : ∀ k, BoundM (upK st l k) (n + k) M
  | 0 => h
  | k + 1 => by rw [upK_succ]; exact (upK_bound h l hl k).stepK polF l hl k
/-- What lines make of it. -/
def readB (ls : List ByteArray) : Hog.RegP := ls.foldl (fun st x => upK st x.data.toList 5) Hog.noneM
theorem readB_snoc (ls : List ByteArray) (x : ByteArray) : readB (ls ++ [x]) = upK (readB ls) x.data.toList 5 := by
  unfold readB
  rw [List.foldl_append]; rfl
theorem readB_bound {M : Nat} : ∀ (n : Nat) (ls : List ByteArray), ls.length = n → (∀ x ∈ ls, x.size ≤ M) → BoundM (readB ls) (5 * n) M
  | 0, ls, h, _ => by rw [List.eq_nil_of_length_eq_zero h]; exact BoundM.none _ _
  | n + 1, ls, h, hs => by
    rcases List.eq_nil_or_concat ls with e | ⟨l0, x, e⟩
    · rw [e] at h; simp at h
    · rw [List.concat_eq_append] at e
      subst e
      rw [List.length_append, List.length_singleton] at h
      rw [readB_snoc]
      have := upK_bound (readB_bound n l0 (by omega) fun y hy => hs y (List.mem_append_left _ hy)) x.data.toList (by rw [← Hog.size_len]; exact hs x (List.mem_append_right _ List.mem_cons_self)) 5
      rw [show 5 * (n + 1) = 5 * n + 5 by omega]
      exact this
theorem readB_is (s : ByteArray) : readB (linesB s) = Hog.readP polF s.data.toList := by
  unfold readB linesB Hog.readP
  rw [List.foldl_map]
  congr 1
theorem raw_len : ∀ (s acc : List UInt8), (Hog.rawA acc s).length ≤ s.count 10 + 1
  | [], acc => by unfold Hog.rawA; split <;> simp
  | b :: s, acc => by
    unfold Hog.rawA
    split
    · rename_i e
      have := raw_len s []
      rw [List.length_cons, e, List.count_cons_self]; omega
    · rename_i e
      have := raw_len s (acc ++ [b])
      rw [List.count_cons_of_ne (by simpa using e)]; exact this
theorem raw_sizes : ∀ (s acc : List UInt8), ∀ x ∈ Hog.rawA acc s, x.length ≤ acc.length + s.length
  | [], acc, x, hx => by
    unfold Hog.rawA at hx
    split at hx
    · cases hx
    · rw [List.mem_singleton.1 hx]; omega
  | b :: s, acc, x, hx => by
    unfold Hog.rawA at hx
    split at hx
    · rcases List.mem_cons.1 hx with e | e
      · rw [e, List.length_append, List.length_cons]; simp
      · have := raw_sizes s [] x e
        rw [List.length_nil] at this
        rw [List.length_cons]; omega
    · have := raw_sizes s (acc ++ [b]) x hx
      rw [List.length_append, List.length_singleton] at this
      rw [List.length_cons]; omega
theorem linesB_len (s : ByteArray) : (linesB s).length ≤ s.data.toList.count 10 + 1 := by
  unfold linesB; rw [List.length_map]; exact raw_len _ _
theorem linesB_size (s : ByteArray) : ∀ x ∈ linesB s, x.size ≤ s.size := by
  intro x hx
  unfold linesB at hx
  obtain ⟨y, hy, rfl⟩ := List.mem_map.1 hx
  have := raw_sizes _ _ y hy
  rw [List.length_nil] at this
  rw [Hog.mk_size, Hog.size_len]; omega

/-- What the loop leaves as it was. -/
def FrL (g D : Nat) (w w' : World) : Prop := Below g w w' ∧ ∀ k, k < D → k ≠ g → w'.heap[k]? = w.heap[k]?
theorem FrL.next {g D E : Nat} {a b c : World} (h : FrL g D a b) (k : FrG g E b c) (hE : D ≤ E) : FrL g D a c := ⟨h.1.trans k.below, fun i hi hn => (k.low i (by omega) hn).trans (h.2 i hi hn)⟩
theorem FrL.grown {g D : Nat} {a b c : World} {row : Option Nat} (h : FrL g D a b) (hg : b.grownBy c row) (hgD : g < D) (hD : D ≤ b.heap.size) (hr : ∀ k, row = some k → D ≤ k) : FrL g D a c :=
  ⟨h.1.trans ((Below.refl g b).grown hg (by omega) (fun k hk => by have := hr k hk; omega)), fun k hk hn => (hg.block k (by omega) (fun e => by have := hr k e.symm; omega)).trans (h.2 k hk hn)⟩
theorem RowsR.notCells {D : Nat} {w w' : World} {ps : List Pr} {u v : Value} {is : List RI} {prof : List ByteArray} {row : Option Nat} (h : RowsR D w ps u v is prof) (hg : w.grownBy w' row) (hr : ∀ r, row = some r → ∃ o : Obj, w.heap[r]? = some o ∧ o.isCells = false) : RowsR D w' ps u v is prof := by
  have off : ∀ a : Option Nat, (∀ (j : Nat) (o : Obj), a = some j → w.heap[j]? = some o → o.isCells = true) → a = none ∨ a ≠ row := fun a ha => by
    cases a with
    | none => exact .inl rfl
    | some k =>
      refine .inr fun e => ?_
      obtain ⟨o, ho, hc⟩ := hr k e.symm
      rw [ha k o rfl ho] at hc; cases hc
  refine ⟨World.ownsRow.kept h.own hg (off _ (ownS_cells h.own)), World.ownsRow.kept h.prf hg (off _ (own_cells h.prf)), h.names, fun p hp => ?_, h.apart, Nat.le_trans h.low hg.size⟩
  obtain ⟨a, b, c⟩ := h.each p hp
  exact ⟨a, World.ownsRow.kept b hg (off _ (own_cells b)), c⟩

theorem cut_ok (x p r : ByteArray) (b : Bool) (w : World) (hr : (⟨(Lib.trimPrefix x.data.toList p.data.toList).toArray⟩ : ByteArray) = r) (hb : Lib.hasPrefix x.data.toList p.data.toList = b) :
    Calls Tryz.prog 40 #[.string x, .string p] w fun e w' => e = .returned (.tuple #[.string r, .bool b]) ∧ w' = w := by
  subst hr hb; exact Tryz.strings_CutPrefix x p w
theorem trimS_ok (x r : ByteArray) (w : World) (hx : x.size < 900000) (hr : Hog.mk (Hog.trimM x.data.toList) = r) :
    Calls Tryz.prog 41 #[.string x, .string ⟨#[10]⟩] w fun e w' => e = .returned (.string r) ∧ w' = w := by
  subst hr; exact Tryz.strings_TrimSuffix x ⟨#[10]⟩ w (by omega)
theorem count_ok (s : ByteArray) (n : Nat) (w : World) (hn : s.data.toList.count 10 = n) :
    Calls Tryz.prog 33 #[.string s, .string ⟨#[10]⟩] w fun e w' => e = .returned (.int .i64 n) ∧ w' = w := by
  subst hn; exact Tryz.strings_Count_one s 10 w
/-- A line of that kind. -/
theorem kind_yes {l : List UInt8} {k : Nat} (h : Lib.hasPrefix l (Hog.wordM k) = true) (st : Hog.RegP) : Hog.stepK polF Hog.trimM l st k = Hog.putM polF k st (Hog.mk (Hog.trimM (Lib.trimPrefix l (Hog.wordM k)))) := by
  unfold Hog.stepK Lib.trimPrefix
  have h' : (Hog.wordM k).isPrefixOf l = true := h
  rw [if_pos h', if_pos h]
theorem kind_no {l : List UInt8} {k : Nat} (h : Lib.hasPrefix l (Hog.wordM k) = false) (st : Hog.RegP) : Hog.stepK polF Hog.trimM l st k = st := by
  unfold Hog.stepK
  have h' : (Hog.wordM k).isPrefixOf l = false := h
  rw [if_neg (by rw [h']; decide)]
end Go.Proofs.YtmlkknbndglgaaaGreatDoor
