/- The walk of package untar's nodes. -/
import Derived.Test.YtecjkkipglldlaaGreatDoorVD
import Derived.Test.YtecjkkipglldlaaGreatDoorJ6
namespace Go.Proofs.YtecjkkipglldlaaGreatDoor
open Go.RowKit

theorem RdU.made {w : World} {ao : Option Addr} {n c : Nat} {l : List UInt8} (h : ArgB w ao n c l) : RdU (w.alloc (.cells #[.slice ao n c] 66)) w.heap.size l :=
  ⟨ao, n, c, heap_alloc_new w _, h.below (below_box w _), fun ad e h0 => by
    obtain ⟨b, o, e2, hb⟩ := h.plain h0
    rw [e] at e2
    cases e2
    exact hb⟩
theorem RdU.belowAt {w w' : World} {g B : Nat} {l : List UInt8} (h : RdU w g l) (hb : Below B w w') (hB : g < B) : RdU w' g l := by
  obtain ⟨ao, n, c, hc, ha⟩ := h
  exact ⟨ao, n, c, by rw [hb.block g hB]; exact hc, ⟨ha.arg.belowAt hb (fun ad e h0 => by have := ha.low ad e h0; omega), ha.low⟩⟩
theorem nodesF_some {f : Nat} {l : List UInt8} {x : Nd} {l' : List UInt8} (h : Hog.nodeU l = (x, true, l')) : Hog.nodesF (f + 1) l = x :: Hog.nodesF f l' := by
  rw [Hog.nodesF, h, if_pos rfl]
theorem nodesF_none {f : Nat} {l : List UInt8} {x : Nd} {l' : List UInt8} (h : Hog.nodeU l = (x, false, l')) : Hog.nodesF f l = [] := by
  cases f with
  | zero => rfl
  | succ f => rw [Hog.nodesF, h, if_neg (fun e => by cases e)]

set_option maxRecDepth 100000 in
set_option maxHeartbeats 2000000 in
theorem nodesL_ok (ao : Option Addr) (n c : Nat) (l : List UInt8) (T : List Nd) (q : Nat) (w0 w : World) (hE : Errs w0) (hok : Ok w0 w) (ha : ArgB w ao n c l) (hn : n < 900000) (hT : Hog.nodesF 400 l = T) (hq : T.length = q) :
    Calls Tryz.prog 21 #[.slice ao n c] w fun e w' => ∃ b c, e = .returned (.slice b q c) ∧ OwnN w.heap.size w' (.slice b q c) T ∧ Ok w0 w' ∧ Below w.heap.size w w' := by
  obtain ⟨W, hW⟩ : ∃ W, W = w.alloc (.cells #[.slice ao n c] 66) := ⟨_, rfl⟩
  have hbW : Below w.heap.size w W := by rw [hW]; exact below_box _ _
  have HRW : Hid (RdU W w.heap.size l) := by rw [hW]; exact hide (RdU.made ha)
  have hsW : w.heap.size < W.heap.size := by rw [hW]; simp
  have hll : l.length < 900000 := by rw [ha.len]; exact hn
  have HBW := hide hbW
  have HE := hide hE
  have HOK := hide hok
  have HT := hide hT
  have HQ := hide hq
  have h0 : w0.heap.size ≤ w.heap.size := hok.size
  have HW : Hid (w.alloc (.cells #[.slice ao n c] 66) = W) := hide hW.symm
  clear hE hok ha hT hq hW hbW hn
  go_enter Tryz.func21, Tryz.ntmps21
  go_wp2_with fail
  rw [HW.out]
  go_loopw [4] (fun t wr => ∃ (T1 : List Nd) (rest : List UInt8) (k : Nat) (b : Option Addr) (c : Nat), t = .slice b k c ∧ k ≤ 400 ∧ rest.length ≤ l.length ∧ Hid (T1.length = k) ∧ Hid (OwnN W.heap.size wr (.slice b k c) T1) ∧ Hid (RdU wr w.heap.size rest) ∧ Hid (T1 ++ Hog.nodesF (400 - k) rest = T) ∧ Hid (Below w.heap.size w wr) ∧ W.heap.size ≤ wr.heap.size) (fun t _ => (match t with | .slice _ k _ => 400 - k | _ => 0))
  case atStart => exact ⟨[], l, 0, none, 0, rfl, by omega, Nat.le_refl _, hide rfl, hide (OwnN.nil _ _), HRW, HT, HBW, Nat.le_refl _⟩
  case round =>
    obtain ⟨T1, rest, k, b, c, rfl, hk, hrl, HL, HO, HR, HN, HB, hsr⟩ := hrel
    by_cases hlt : k < 400
    · have hki : (k : Int) < 400 := by omega
      obtain ⟨x, f, l', hx⟩ : ∃ x f l', Hog.nodeU rest = (x, f, l') := ⟨_, _, _, rfl⟩
      have hle := Hog.nodeU_le rest
      rw [hx] at hle
      have hl' : l'.length ≤ l.length := Nat.le_trans hle.2.2 hrl
      have HX := hide hx
      have HOKR := hide (HOK.out.next HB.out)
      clear hx hle
      go_wp2_with fail
      refine (rnode_ok w.heap.size rest x f l' w0 wr HE.out HOKR.out h0 HR.out (by omega) HX.out).mono ?_
      rintro e w1 ⟨rfl, hr1, hg1, ok1⟩
      have HR1 := hide hr1
      have HO1 := hide (HO.out.grown hg1 (fun g e => by cases e; exact hsW))
      have HB1 := hide (HB.out.trans (below_grown hg1 (show w.heap.size ≤ wr.heap.size by omega) (fun i e => by cases e; exact Nat.le_refl _)))
      have hs1 : W.heap.size ≤ w1.heap.size := Nat.le_trans hsr hg1.size
      clear hr1 hg1 ok1 HO HR HB HOKR
      unfold nvU
      cases f with
      | false =>
        have HE1 : Hid (T1 = T) := by rw [← HN.out, nodesF_none HX.out, List.append_nil]; exact hide rfl
        have HBB : Hid (∀ o, Below w.heap.size w (w1.alloc o) ∧ OwnN w.heap.size (w1.alloc o) (.slice b k c) T1) := by
          refine hide fun o => ⟨HB1.out.trans ((below_box w1 o).mono (by omega)), (HO1.out.alloc o).base (by omega)⟩
        obtain rfl : k = q := by rw [← HQ.out, ← HE1.out, HL.out]
        rw [HE1.out] at HBB
        go_wp2
        go_ret
        exact ⟨b, c, rfl, (HBB.out _).2, HOK.out.next (HBB.out _).1, (HBB.out _).1⟩
      | true =>
        have HN1 : Hid ((T1 ++ [x]) ++ Hog.nodesF (400 - (k + 1)) l' = T) := by
          rw [← HN.out, show 400 - k = (400 - (k + 1)) + 1 by omega, nodesF_some HX.out, List.append_assoc]
          exact hide rfl
        have HO2 := hide ((HO1.out.alloc (.cells #[.string x.1, .int .i64 x.2.1, .string x.2.2] 38)).alloc (.cells #[.string x.1, .int .i64 x.2.1, .string x.2.2] 38))
        have hrn := (Run.one (w1.alloc (.cells #[.string x.1, .int .i64 x.2.1, .string x.2.2] 38)) x).arg (c := 1) (by simp)
        rw [show (w1.alloc (.cells #[.string x.1, .int .i64 x.2.1, .string x.2.2] 38)).heap.size = w1.heap.size + 1 by simp] at hrn
        have HRN := hide hrn
        clear hrn
        have hb2 := (below_box w1 (.cells #[.string x.1, .int .i64 x.2.1, .string x.2.2] 38)).trans ((below_box (w1.alloc (.cells #[.string x.1, .int .i64 x.2.1, .string x.2.2] 38)) (.cells #[.string x.1, .int .i64 x.2.1, .string x.2.2] 38)).mono (by simp))
        have HR2 := hide (HR1.out.below hb2)
        have HB2 := hide (HB1.out.trans (hb2.mono (by omega)))
        have hs2 := Nat.le_trans hs1 hb2.size
        clear hb2 HO1 HR1 HB1 HN
        go_wp2_with (at_builtin; refine wpList_append_nodes rfl _ _ rfl W.heap.size _ T1 rfl HO2.out _ _ _ [x] rfl HRN.out (by rw [HL.out]; simp; omega) hs2 ?_)
        intro b4 c4 w4 ho4 hb4
        rw [HL.out] at ho4 ⊢
        have HO4 := hide ho4
        have HR4 := hide (HR2.out.belowAt hb4 hsW)
        have HB4 := hide (HB2.out.trans (hb4.mono (Nat.le_of_lt hsW)))
        have hs4 := Nat.le_trans hs2 hb4.size
        clear ho4 hb4
        go_wp2
        go_roundw
        case rel => exact ⟨T1 ++ [x], l', k + 1, b4, c4, rfl, by omega, hl', by rw [List.length_append, HL.out]; exact hide rfl, HO4, HR4, HN1, HB4, hs4⟩
        case measure => simp; omega
    · obtain rfl : k = 400 := by omega
      have HE1 : Hid (T1 = T) := by rw [← HN.out]; exact hide (by simp [Hog.nodesF])
      obtain rfl : q = 400 := by rw [← HQ.out, ← HE1.out, HL.out]
      have HO' := hide (HO.out.base (Nat.le_of_lt hsW))
      rw [HE1.out] at HO'
      clear hlt
      go_wp2
      go_ret
      exact ⟨b, c, rfl, HO'.out, HOK.out.next HB.out, HB.out⟩
end Go.Proofs.YtecjkkipglldlaaGreatDoor
