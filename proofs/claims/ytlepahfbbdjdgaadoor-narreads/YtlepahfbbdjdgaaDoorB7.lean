/- The walks of package nar: the reader: node, list. -/
import Derived.Test.YtlepahfbbdjdgaaDoorB6
namespace Go.Proofs.YtlepahfbbdjdgaaDoor
open Go.RowKit

/-- A block that holds a node. -/
def BlkB (w : World) (g : Nat) (n : Nd) : Prop := w.heap[g]? = some (.cells #[.string n.1, .int .i64 n.2.1, .string n.2.2] 48 (0, 0))
theorem BlkB.facts {w : World} {g : Nat} {n : Nd} (h : BlkB w g n) : (w.cell? ⟨g, 0, none⟩ = some (.string n.1) ∧ w.cell? ⟨g, 1, none⟩ = some (.int .i64 n.2.1) ∧ w.cell? ⟨g, 2, none⟩ = some (.string n.2.2)) ∧
    (w.frozen? ⟨g, 0, none⟩ = false ∧ w.frozen? ⟨g, 1, none⟩ = false ∧ w.frozen? ⟨g, 2, none⟩ = false) ∧ g < w.heap.size :=
  ⟨⟨by rw [cell_of_row w g 0 _ _ (0, 0) h]; rfl, by rw [cell_of_row w g 1 _ _ (0, 0) h]; rfl, by rw [cell_of_row w g 2 _ _ (0, 0) h]; rfl⟩,
   ⟨frozen_of_row w g 0 _ _ h, frozen_of_row w g 1 _ _ h, frozen_of_row w g 2 _ _ h⟩, (Array.getElem?_eq_some_iff.1 h).1⟩
theorem BlkB.grown {w w' : World} {g : Nat} {n : Nd} {row : Option Nat} (h : BlkB w g n) (hg : w.grownBy w' row) (hr : some g ≠ row) : BlkB w' g n := by
  unfold BlkB
  rw [hg.block g h.facts.2.2 hr]
  exact h
theorem BlkB.made (w : World) (n : Nd) : BlkB (w.alloc (.cells #[.string n.1, .int .i64 n.2.1, .string n.2.2] 48)) w.heap.size n := heap_alloc_new w _
theorem BlkB.stored {w : World} {g : Nat} {n : Nd} (h : BlkB w g n) (x : Nd) : BlkB (((w.setCell ⟨g, 0, none⟩ (.string x.1)).setCell ⟨g, 1, none⟩ (.int .i64 x.2.1)).setCell ⟨g, 2, none⟩ (.string x.2.2)) g x := by
  have h1 := heap_setCell_same w g 0 _ _ (.string x.1) h
  have h2 := heap_setCell_same _ g 1 _ _ (.int .i64 x.2.1) h1
  have h3 := heap_setCell_same _ g 2 _ _ (.string x.2.2) h2
  unfold BlkB
  rw [h3]; rfl
theorem size_of_nodeB : (Tryd.prog.info? 48).map (·.size) = some 3 := by kernel_rfl
theorem results_nodeB {fn : Func} {q : Tmp} (h : fn.results = #[.cell q 48]) (tmps : Array Value) (w : World) (g : Nat) (n : Nd) (hp : tmps.getD q undef = .pointer (some ⟨g, 0, none⟩)) (hg : BlkB w g n) :
    (results fn tmps).run Tryd.prog w = .ok (.agg #[.string n.1, .int .i64 n.2.1, .string n.2.2]) w :=
  results_cell_row h tmps w g 48 _ (0, 0) _ hp hg struct_node rfl size_of_nodeB

/-- A change of a new block. -/
theorem grown_new {w w' : World} {row : Option Nat} (h : w.grownBy w' row) {x : Nat} (hx : w.heap.size ≤ x) (j : Nat) (v : Value) : w.grownBy (w'.setCell ⟨x, j, none⟩ v) row := by
  have k := grown_setCell w' x j v
  exact ⟨k.os.trans h.os, k.tape.trans h.tape, k.output.trans h.output, Nat.le_trans h.size k.size, fun i hi hr => (k.block i (Nat.lt_of_lt_of_le hi h.size) (fun e => by cases e; omega)).trans (h.block i hi hr)⟩
theorem RdAt.off {w w' : World} {g : Nat} {s : RS} {row : Option Nat} (h : RdAt w g s) (hg : w.grownBy w' row) (hr : ∀ k, row = some k → g < k) : RdAt w' g s := by
  have hlt := h.lt
  obtain ⟨ao, n, c, hc, ha⟩ := h
  refine ⟨ao, n, c, by rw [hg.block g hlt (fun e => by have := hr g e.symm; omega)]; exact hc, ⟨⟨ha.arg.len, ha.arg.none, ha.arg.cap, fun ad e j u hu => ?_⟩, ha.low⟩⟩
  have h1 := ha.arg.cell ad e j u hu
  have hj := (List.getElem?_eq_some_iff.1 hu).1
  rw [bcells_len, ha.arg.len] at hj
  have h2 := ha.low ad e (by omega)
  obtain ⟨b, o, e2, _⟩ := ha.arg.plain (show 0 < n by omega)
  rw [e] at e2
  cases e2
  rw [addB_plain] at h1 ⊢
  exact hg.cell h1 (fun e3 => by have := hr b e3.symm; simp at h2; omega)
theorem RdAt.below {w w' : World} {g B : Nat} {s : RS} (h : RdAt w g s) (hb : Below B w w') (hB : g < B) : RdAt w' g s := by
  have hlt := h.lt
  obtain ⟨ao, n, c, hc, ha⟩ := h
  refine ⟨ao, n, c, by rw [hb.block g hB]; exact hc, ⟨ha.arg.belowAt hb (fun ad e h0 => by have := ha.low ad e h0; omega), ha.low⟩⟩

set_option maxRecDepth 100000 in
set_option maxHeartbeats 1000000 in
theorem node_ok (g : Nat) (s : RS) (x : Nd) (s' : RS) (w : World) (h : RdAt w g s) (hv : nodeR s = (x, s')) :
    Calls Tryd.prog 34 #[.pointer (some ⟨g, 0, none⟩)] w fun e w' => e = .returned (.agg #[.string x.1, .int .i64 x.2.1, .string x.2.2]) ∧ RdAt w' g s' ∧ w.grownBy w' (some g) := by
  obtain ⟨p, s1, h1⟩ : ∃ p s1, textR s = (p, s1) := ⟨_, _, rfl⟩
  obtain ⟨k, s2, h2⟩ : ∃ k s2, numR s1 = (k, s2) := ⟨_, _, rfl⟩
  obtain ⟨d, s3, h3⟩ : ∃ d s3, textR s2 = (d, s3) := ⟨_, _, rfl⟩
  have hx : x = (Hog.mk p, k, Hog.mk d) ∧ s' = s3 := by
    unfold nodeR at hv
    rw [h1] at hv
    simp only [] at hv
    rw [h2] at hv
    simp only [] at hv
    rw [h3] at hv
    obtain ⟨e1, e2⟩ := Prod.mk.inj hv
    exact ⟨e1.symm, e2.symm⟩
  obtain ⟨rfl, rfl⟩ := hx
  have hlt := h.lt
  obtain ⟨W, hW⟩ : ∃ W, W = w.alloc (.cells #[.string ⟨#[]⟩, .int .i64 0, .string ⟨#[]⟩] 48) := ⟨_, rfl⟩
  have HR : Hid (RdAt W g s) := by rw [hW]; exact hide (h.off (grown_box _ _ none) (fun k e => by cases e))
  have HB : Hid (BlkB W w.heap.size (⟨#[]⟩, 0, ⟨#[]⟩)) := by rw [hW]; exact hide (BlkB.made w (⟨#[]⟩, 0, ⟨#[]⟩))
  have HG : Hid (w.grownBy W (some g)) := by rw [hW]; exact hide (grown_box _ _ _)
  have HW := hide hW
  have H1 := hide h1
  have H2 := hide h2
  have H3 := hide h3
  clear h hv h1 h2 h3 hW
  go_enter Tryd.func34, Tryd.ntmps34
  go_wp2_with fail
  rw [← HW.out]
  refine (text_ok g s p s1 W HR.out H1.out).mono ?_
  rintro e w1 ⟨rfl, hr1, hg1⟩
  have HR1 := hide hr1
  have HG1 := hide (grown_trans HG.out hg1)
  have HB1 := hide (HB.out.grown hg1 (fun e => by cases e; omega))
  clear hr1 hg1
  go_wp2_with fail
  refine (num_ok g s1 k s2 w1 HR1.out H2.out).mono ?_
  rintro e w2 ⟨rfl, hr2, hg2⟩
  have HR2 := hide hr2
  have HG2 := hide (grown_trans HG1.out hg2)
  have HB2 := hide (HB1.out.grown hg2 (fun e => by cases e; omega))
  clear hr2 hg2
  go_wp2_with fail
  refine (text_ok g s2 d s' w2 HR2.out H3.out).mono ?_
  rintro e w3 ⟨rfl, hr3, hg3⟩
  have HR3 := hide hr3
  have HG3 := hide (grown_trans HG2.out hg3)
  have HB3 := hide (HB2.out.grown hg3 (fun e => by cases e; omega))
  obtain ⟨⟨c0, c1, c2⟩, ⟨f0, f1, f2⟩, _⟩ := HB3.out.facts
  clear hr3 hg3
  go_wp2
  refine bodyPost_ret (results_nodeB rfl _ _ _ (Hog.mk p, k, Hog.mk d) rfl (HB3.out.stored (Hog.mk p, k, Hog.mk d))) rfl ?_
  refine ⟨rfl, ?_, grown_new (grown_new (grown_new HG3.out (Nat.le_refl _) _ _) (Nat.le_refl _) _ _) (Nat.le_refl _) _ _⟩
  exact ((HR3.out.off (grown_setCell _ _ _ _) (fun k e => by cases e; exact hlt)).off (grown_setCell _ _ _ _) (fun k e => by cases e; exact hlt)).off (grown_setCell _ _ _ _) (fun k e => by cases e; exact hlt)

theorem nodesR_succ (k : Nat) (s : RS) : nodesR (k + 1) s = ((nodeR s).1 :: (nodesR k (nodeR s).2).1, (nodesR k (nodeR s).2).2) := rfl

set_option maxRecDepth 100000 in
set_option maxHeartbeats 1000000 in
theorem list_ok (g : Nat) (s : RS) (t : List Nd) (s' : RS) (w : World) (h : RdAt w g s) (hv : listR s = (t, s')) :
    Calls Tryd.prog 32 #[.func (.func 33) #[.pointer (some ⟨g, 0, none⟩)] #[], .func (.func 34) #[.pointer (some ⟨g, 0, none⟩)] #[]] w
      fun e w' => ∃ b c, e = .returned (.slice b t.length c) ∧ OwnN w.heap.size w' (.slice b t.length c) t ∧ RdAt w' g s' ∧ w.grownBy w' (some g) := by
  obtain ⟨n, s1, h1⟩ : ∃ n s1, numR s = (n, s1) := ⟨_, _, rfl⟩
  unfold listR at hv
  rw [h1] at hv
  simp only [] at hv
  have hlt := h.lt
  have HR := hide h
  have H1 := hide h1
  clear h h1
  go_enter Tryd.func32, Tryd.ntmps32
  go_wp2_with fail
  refine (num_ok g s n s1 w HR.out H1.out).mono ?_
  rintro e w1 ⟨rfl, hr1, hg1⟩
  have HR1 := hide hr1
  have HG1 := hide hg1
  clear hr1 hg1
  by_cases h4 : 400 < n
  · rw [if_pos h4] at hv
    cases hv
    go_wp2
    go_ret
    exact ⟨none, 0, rfl, OwnN.nil _ _, HR1.out, HG1.out⟩
  · rw [if_neg h4] at hv
    have h4' : n ≤ 400 := by omega
    obtain ⟨N, hN⟩ : ∃ N, N = n.toNat := ⟨_, rfl⟩
    rw [← hN] at hv
    have HV := hide hv
    have HN := hide hN
    clear hv hN h4
    go_wp2
    go_loopw [6, 12] (fun v i wr => ∃ (k : Nat) (b : Option Addr) (c : Nat) (acc : List Nd) (st : RS), k ≤ N ∧ i = .int .i64 k ∧ v = .slice b k c ∧ Hid (acc.length = k) ∧ Hid (OwnN w.heap.size wr (.slice b k c) acc) ∧ Hid (RdAt wr g st) ∧ Hid (nodesR (N - k) st = (t.drop k, s') ∧ acc ++ t.drop k = t) ∧ Hid (w.grownBy wr (some g))) (fun _ i _ => N - (intOf i).toNat)
    case atStart => exact ⟨0, none, 0, [], s1, by omega, rfl, rfl, rfl, OwnN.nil _ _, HR1, ⟨HV.out, rfl⟩, HG1⟩
    case round =>
      obtain ⟨k, b, c, acc, st, hk, rfl, rfl, HL, HO, HS, HE, HG⟩ := hrel
      have hNn : N = n.toNat := HN.out
      by_cases hlt2 : k < N
      · have hki : (k : Int) < n := by omega
        clear hNn
        obtain ⟨x, s2, hx⟩ : ∃ x s2, nodeR st = (x, s2) := ⟨_, _, rfl⟩
        have hE2 : t.drop k = x :: t.drop (k + 1) ∧ nodesR (N - (k + 1)) s2 = (t.drop (k + 1), s') ∧ (acc ++ [x]) ++ t.drop (k + 1) = t := by
          obtain ⟨e1, e2⟩ := HE.out
          rw [show N - k = (N - (k + 1)) + 1 by omega, nodesR_succ, hx] at e1
          obtain ⟨e3, e4⟩ := Prod.mk.inj e1
          have e5 : t.drop (k + 1) = (nodesR (N - (k + 1)) s2).1 := by
            rw [← List.drop_drop, ← e3]; rfl
          refine ⟨by rw [e5]; exact e3.symm, by rw [e5, ← e4], ?_⟩
          rw [e5, List.append_assoc, List.singleton_append, e3]; exact e2
        have HE2 := hide hE2
        have HX := hide hx
        clear hE2 hx
        go_wp2_with fail
        refine (node_ok g st x s2 wr HS.out HX.out).mono ?_
        rintro e w2 ⟨rfl, hr2, hg2⟩
        have HR2 := hide hr2
        have HG2 := hide (grown_trans HG.out hg2)
        have HO2 := hide (HO.out.grown hg2 (fun q e => by cases e; exact hlt))
        have hsz2 : w.heap.size ≤ w2.heap.size := HG2.out.size
        clear hr2 hg2
        obtain ⟨W, hW⟩ : ∃ W, W = w2.alloc (.cells #[.string x.1, .int .i64 x.2.1, .string x.2.2] 48) := ⟨_, rfl⟩
        have HOW : Hid (OwnN w.heap.size W (.slice b k c) acc) := by rw [hW]; exact hide (HO2.out.alloc _)
        have HRW : Hid (RdAt W g s2) := by rw [hW]; exact hide (HR2.out.off (grown_box _ _ none) (fun k e => by cases e))
        have HGW : Hid (w.grownBy W (some g)) := by rw [hW]; exact hide (grown_trans HG2.out (grown_box _ _ _))
        have HAW : Hid (ArgN W (some ⟨w2.heap.size, 0, none⟩) 1 1 [x]) := by rw [hW]; exact hide ((Run.one w2 x).arg (c := 1) (by simp))
        have hsW : w.heap.size ≤ W.heap.size := HGW.out.size
        have HW := hide hW
        clear hW
        go_wp2_with (at_builtin; rw [← HW.out]; refine wpList_append_nodes rfl _ _ rfl w.heap.size _ acc rfl HOW.out _ _ _ [x] rfl HAW.out ?c1 hsW ?_)
        case c1 => rw [HL.out]; simp; omega
        intro b3 c3 w3 ho3 hb3
        rw [HL.out] at ho3 ⊢
        have HO3 := hide ho3
        have HR3 := hide (HRW.out.below hb3 hlt)
        have HG3 := hide (grown_below HGW.out hb3)
        have HL3 : Hid ((acc ++ [x]).length = k + 1) := by rw [List.length_append, HL.out]; exact hide rfl
        have HE3 := hide HE2.out.2
        clear ho3 hb3
        go_wp2
        go_roundw
        case rel => exact ⟨k + 1, b3, c3, acc ++ [x], s2, by omega, by go_num, rfl, HL3, HO3, HR3, HE3, HG3⟩
        case measure => simp [intOf]; omega
      · have hki : n ≤ (k : Int) := by omega
        have hkN : k = N := by omega
        have he : acc = t ∧ st = s' := by
          obtain ⟨e1, e2⟩ := HE.out
          rw [hkN, Nat.sub_self, nodesR] at e1
          obtain ⟨e3, e4⟩ := Prod.mk.inj e1
          rw [hkN, ← e3, List.append_nil] at e2
          exact ⟨e2, e4⟩
        obtain ⟨rfl, rfl⟩ := he
        clear hNn
        go_wp2
        go_ret
        rw [HL.out]
        exact ⟨b, c, rfl, HO.out, HS.out, HG.out⟩
end Go.Proofs.YtlepahfbbdjdgaaDoor
