/- The walk of the document's own answer, chapter 5: Read. -/
import Derived.Test.YtlepahfbbdjdgaaDoorI5
namespace Go.Proofs.YtlepahfbbdjdgaaDoor
open Go.RowKit

theorem BlkB.setKind {w : World} {g : Nat} {n : Nd} (h : BlkB w g n) (k : Int) : BlkB (w.setCell ⟨g, 1, none⟩ (.int .i64 k)) g (n.1, k, n.2.2) := by
  unfold BlkB
  rw [heap_setCell_same w g 1 _ _ _ h]; rfl
theorem BlkB.setData {w : World} {g : Nat} {n : Nd} (h : BlkB w g n) (d : ByteArray) : BlkB (w.setCell ⟨g, 2, none⟩ (.string d)) g (n.1, n.2.1, d) := by
  unfold BlkB
  rw [heap_setCell_same w g 2 _ _ _ h]; rfl
theorem OwnN.keptAt {base : Nat} {w w' : World} {v : Value} {ns : List Nd} {row : Option Nat} (h : OwnN base w v ns) (hg : w.grownBy w' row) (hne : v.ownBlock ≠ row ∨ v.ownBlock = none) : OwnN base w' v ns := World.ownsRow.kept h hg hne.symm
theorem RfAt.made {w : World} {ao : Option Addr} {n c : Nat} {l : List UInt8} (h : ArgB w ao n c l) : RfAt (w.alloc (.cells #[.slice ao n c, .int .i64 0, .bool false] 60)) w.heap.size l (0, false) :=
  ⟨ao, n, c, heap_alloc_new w _, ⟨h.below (boxB w _), fun ad e h0 => by
    obtain ⟨b, o, e2, hb⟩ := h.plain h0
    rw [e] at e2
    cases e2
    exact hb⟩, Nat.zero_le _⟩
theorem readP_false {l : List UInt8} (h : readB l = false) : readP l = ([], 5) := readP_none (by rw [h]; decide)

set_option maxRecDepth 100000 in
set_option maxHeartbeats 4000000 in
theorem rread_ok (ao : Option Addr) (m c : Nat) (l : List UInt8) (T : List Nd) (E : Int) (k : Nat) (w0 w : World) (h : Ok w0 w) (ha : ArgB w ao m c l) (hm : m ≤ 6000) (hv : readP l = (T, E)) (hk : T.length = k) :
    Calls Tryd.prog 22 #[.slice ao m c] w fun e w' => ∃ b c, e = .returned (.tuple #[.slice b k c, .int .i64 E]) ∧ OwnN w.heap.size w' (.slice b k c) T ∧ Ok w0 w' ∧ Below w.heap.size w w' := by
  have hlen := ha.len
  have hl6 : l.length < 1000000 := by omega
  obtain ⟨z, s1, h1⟩ : ∃ z s1, rX l (0, false) = (z, s1) := ⟨_, _, (Prod.eta _).symm⟩
  obtain ⟨n, s2, h2⟩ : ∃ n s2, rN l s1 = (n, s2) := ⟨_, _, (Prod.eta _).symm⟩
  have HTOP : Hid (∀ U, Tells l U → n = (U.length : Int) ∧ s2 = (24, false)) := by
    intro U hU
    obtain ⟨e1, e2⟩ := hU.head
    rw [h1] at e1
    obtain ⟨_, rfl⟩ := Prod.mk.inj e1
    rw [h2] at e2
    exact Prod.mk.inj e2
  have HNO : Hid (readB l = false → T = [] ∧ E = 5 ∧ k = 0) := by
    intro hb
    rw [readP_false hb] at hv
    obtain ⟨rfl, rfl⟩ := Prod.mk.inj hv
    exact ⟨rfl, rfl, hk.symm⟩
  obtain ⟨W, hW⟩ : ∃ W, W = w.alloc (.cells #[.slice ao m c, .int .i64 0, .bool false] 60) := ⟨_, rfl⟩
  have HR : Hid (RfAt W w.heap.size l (0, false)) := by rw [hW]; exact hide (RfAt.made ha)
  have HB : Hid (Below w.heap.size w W) := by rw [hW]; exact hide (boxB _ _)
  have hsW : w.heap.size < W.heap.size := by rw [hW]; simp
  obtain ⟨g, hg⟩ : ∃ g, g = w.heap.size := ⟨_, rfl⟩
  have HGE : Hid (g = w.heap.size) := hg
  rw [← hg] at HR hsW
  have HW := hide hW
  have HA := hide ha
  have H1 := hide h1
  have H2 := hide h2
  have HV := hide hv
  have HK := hide hk
  have HLEN := hide hlen
  clear ha hv hk h1 h2 hW hlen
  have hgp : (Value.pointer (some ⟨w.heap.size, 0, none⟩)) = Value.pointer (some ⟨g, 0, none⟩) := by rw [hg]
  have HGP := hide hgp
  clear hgp hg
  go_enter Tryd.func22, Tryd.ntmps22
  go_wp2_with fail
  rw [← HW.out, ← HGE.out]
  refine (rtextR_ok g l (0, false) z s1 W HR.out hl6 H1.out).mono ?_
  rintro e w1 ⟨rfl, hr1, hg1⟩
  have HR1 := hide hr1
  have HB1 := hide (HB.out.grown hg1 (by rw [← HGE.out]; omega) (fun q e => by cases e; rw [HGE.out]; exact Nat.le_refl _))
  have hs1 : W.heap.size ≤ w1.heap.size := hg1.size
  clear hr1 hg1
  go_wp2_with fail
  refine (rnumR_ok g l s1 n s2 w1 HR1.out hl6 H2.out).mono ?_
  rintro e w2 ⟨rfl, hr2, hg2⟩
  have HR2 := hide hr2
  have HB2 := hide (HB1.out.grown hg2 (by rw [← HGE.out]; omega) (fun q e => by cases e; rw [HGE.out]; exact Nat.le_refl _))
  have hs2 : W.heap.size ≤ w2.heap.size := Nat.le_trans hs1 hg2.size
  clear hr2 hg2
  obtain ⟨a2, f2⟩ := s2
  obtain ⟨ao2, m2, d2, hc2, _⟩ := id HR2.out
  obtain ⟨⟨c0, c1, c2⟩, _, _⟩ := ref_cells hc2
  clear hc2
  cases f2 with
  | true =>
    have hb : readB l = false := by
      cases hq : readB l with
      | false => rfl
      | true =>
        obtain ⟨U, hU, _⟩ := tells_of hq
        have := (HTOP.out U hU).2
        simp at this
    obtain ⟨rfl, rfl, rfl⟩ := HNO.out hb
    clear hb
    go_wp2
    go_ret2
    exact ⟨none, 0, rfl, OwnN.nil _ _, h.next HB2.out, HB2.out⟩
  | false =>
    by_cases hn0 : n < 0
    · have hb : readB l = false := by
        cases hq : readB l with
        | false => rfl
        | true =>
          obtain ⟨U, hU, _⟩ := tells_of hq
          have := (HTOP.out U hU).1
          omega
      obtain ⟨rfl, rfl, rfl⟩ := HNO.out hb
      have hd : decide (n < 0) = true := decide_eq_true hn0
      clear hb
      go_wp2
      go_ret2
      exact ⟨none, 0, rfl, OwnN.nil _ _, h.next HB2.out, HB2.out⟩
    · have hd : decide (n < 0) = false := decide_eq_false hn0
      by_cases hn4 : 400 < n
      · have hb : readB l = false := by
          cases hq : readB l with
          | false => rfl
          | true =>
            obtain ⟨U, hU, _⟩ := tells_of hq
            have := (HTOP.out U hU).1
            have := hU.2.1
            omega
        obtain ⟨rfl, rfl, rfl⟩ := HNO.out hb
        have hd4 : decide (400 < n) = true := decide_eq_true hn4
        clear hb
        go_wp2
        go_ret2
        exact ⟨none, 0, rfl, OwnN.nil _ _, h.next HB2.out, HB2.out⟩
      · have hd4 : decide (400 < n) = false := decide_eq_false hn4
        obtain ⟨N, rfl⟩ : ∃ N : Nat, n = N := ⟨n.toNat, by omega⟩
        have hN : N ≤ 400 := by omega
        have HT0 : Hid (∀ U, Tells l U → N = U.length ∧ ([] : List Nd) = U.take 0 ∧ ((a2, false) : FS) = (24 + (nodesL (U.take 0)).length, false)) := by
          intro U hU
          obtain ⟨e1, e2⟩ := HTOP.out U hU
          refine ⟨by omega, by simp, ?_⟩
          rw [e2]; simp [nodesL]
        clear hn0 hn4
        go_wp2
        go_loopw [6, 7] (fun v i wr => ∃ (j : Nat) (b : Option Addr) (d : Nat) (acc : List Nd) (st : FS), j ≤ N ∧ i = .int .i64 j ∧ v = .slice b j d ∧ Hid (acc.length = j) ∧ Hid (OwnN W.heap.size wr (.slice b j d) acc) ∧ Hid (RfAt wr g l st) ∧ Hid (∀ x ∈ acc, x.1.size ≤ l.length ∧ x.2.2.size ≤ l.length) ∧ Hid (∀ U, Tells l U → N = U.length ∧ acc = U.take j ∧ st = (24 + (nodesL (U.take j)).length, false)) ∧ Hid (Below w.heap.size w wr) ∧ W.heap.size ≤ wr.heap.size) (fun _ i _ => N - (intOf i).toNat)
        case atStart => exact ⟨0, none, 0, [], (a2, false), by omega, rfl, rfl, rfl, OwnN.nil _ _, HR2, by simp [Hid], HT0, HB2, hs2⟩
        case round =>
          obtain ⟨j, b, d, acc, st, hj, rfl, rfl, HL, HO, HS, HZ, HT, HBL, hsr⟩ := hrel
          obtain ⟨a3, f3⟩ := st
          obtain ⟨ao3, m3, d3, hc3, _⟩ := id HS.out
          clear c0 c1 c2
          obtain ⟨⟨c0, c1, c2⟩, _, _⟩ := ref_cells hc3
          clear hc3
          simp only [] at c1 c2
          have HSH : Hid (ShortN acc) := hide ⟨by have := HL.out; omega, fun x hx => by have := HZ.out x hx; have := HLEN.out; omega⟩
          by_cases hlt : j < N
          · have hji : (j : Int) < (N : Int) := by omega
            cases f3 with
            | true =>
              have okr := h.next HBL.out
              obtain ⟨y, hy⟩ : ∃ y, mayN acc = y := ⟨_, rfl⟩
              have HY := hide hy
              clear hy
              cases y with
              | false =>
                go_wp2_with fail
                refine (rlay_bad _ acc w0 wr okr HO.out.nods HSH.out (by have := HL.out; omega) HY.out).mono ?_
                rintro e wL ⟨rfl, okL, hbL⟩
                have HBF := hide (below_two HBL.out hbL)
                obtain ⟨aoL, mL, dL, hcL, _⟩ := HS.out.below hbL HS.out.lt
                clear c0 c1 c2
                obtain ⟨⟨_, _, c2⟩, _, _⟩ := ref_cells hcL
                simp only [] at c2
                have hb : readB l = false := by
                  cases hq : readB l with
                  | false => rfl
                  | true =>
                    obtain ⟨U, hU, hmU⟩ := tells_of hq
                    obtain ⟨e1, e2, e3⟩ := HT.out U hU
                    obtain ⟨_, e4⟩ := Prod.mk.inj e3
                    cases e4
                obtain ⟨rfl, rfl, rfl⟩ := HNO.out hb
                clear hcL hbL hb
                go_wp2
                go_ret2
                exact ⟨none, 0, rfl, OwnN.nil _ _, okL, HBF.out⟩
              | true =>
                obtain ⟨z', hz'⟩ : ∃ z', layL acc = z' := ⟨_, rfl⟩
                obtain ⟨mz, hmz⟩ : ∃ mz, z'.length = mz := ⟨_, rfl⟩
                have HZ' := hide hz'
                have HMZ := hide hmz
                clear hz' hmz
                go_wp2_with fail
                refine (rlay_good _ acc z' mz w0 wr okr HO.out.nods HSH.out (by have := HL.out; omega) HY.out HZ'.out HMZ.out).mono ?_
                rintro e wL ⟨bL, cL, rfl, hoL, okL, hbL⟩
                have HBF := hide (below_two HBL.out hbL)
                obtain ⟨aoL, mL, dL, hcL, _⟩ := HS.out.below hbL HS.out.lt
                clear c0 c1 c2
                obtain ⟨⟨_, _, c2⟩, _, _⟩ := ref_cells hcL
                simp only [] at c2
                have hb : readB l = false := by
                  cases hq : readB l with
                  | false => rfl
                  | true =>
                    obtain ⟨U, hU, hmU⟩ := tells_of hq
                    obtain ⟨_, _, e3⟩ := HT.out U hU
                    simp at e3
                obtain ⟨rfl, rfl, rfl⟩ := HNO.out hb
                clear hcL hbL hb hoL
                go_wp2
                go_ret2
                exact ⟨none, 0, rfl, OwnN.nil _ _, okL, HBF.out⟩
            | false =>
              obtain ⟨p, t1, ht1⟩ : ∃ p t1, rX l (a3, false) = (p, t1) := ⟨_, _, (Prod.eta _).symm⟩
              obtain ⟨kd, t2, ht2⟩ : ∃ kd t2, rN l t1 = (kd, t2) := ⟨_, _, (Prod.eta _).symm⟩
              obtain ⟨dd, t3, ht3⟩ : ∃ dd t3, rX l t2 = (dd, t3) := ⟨_, _, (Prod.eta _).symm⟩
              obtain ⟨x, hx⟩ : ∃ x : Nd, x = (Hog.mk p, kd, Hog.mk dd) := ⟨_, rfl⟩
              have HT' : Hid (∀ U, Tells l U → N = U.length ∧ acc ++ [x] = U.take (j + 1) ∧ t3 = (24 + (nodesL (U.take (j + 1))).length, false)) := by
                intro U hU
                obtain ⟨e1, e2, e3⟩ := HT.out U hU
                obtain ⟨rfl, _⟩ := Prod.mk.inj e3
                have hjU : j < U.length := by omega
                obtain ⟨e4, e5⟩ := hU.node (List.getElem?_eq_getElem hjU) ht1 ht2 ht3
                refine ⟨e1, ?_, e5⟩
                rw [List.take_succ_eq_append_getElem hjU, ← e2, hx, e4]
              have HZ' : Hid (∀ y ∈ acc ++ [x], y.1.size ≤ l.length ∧ y.2.2.size ≤ l.length) := by
                intro y hy
                rcases List.mem_append.1 hy with hy | hy
                · exact HZ.out y hy
                · simp only [List.mem_singleton] at hy
                  rw [hy, hx]
                  refine ⟨?_, ?_⟩
                  · show (Hog.mk p).size ≤ _; rw [Hog.mk_size]; exact rX_len ht1
                  · show (Hog.mk dd).size ≤ _; rw [Hog.mk_size]; exact rX_len ht3
              have HL' : Hid ((acc ++ [x]).length = j + 1) := by rw [List.length_append, HL.out]; exact hide rfl
              have HT1 := hide ht1
              have HT2 := hide ht2
              have HT3 := hide ht3
              have HXX := hide hx
              clear ht1 ht2 ht3 hx
              go_wp2_with fail
              refine (rtextR_ok g l (a3, false) p t1 wr HS.out hl6 HT1.out).mono ?_
              rintro e w3 ⟨rfl, hr3, hg3⟩
              obtain ⟨W3, hW3⟩ : ∃ W3, W3 = w3.alloc (.cells #[.string (Hog.mk p), .int .i64 0, .string ⟨#[]⟩] 48) := ⟨_, rfl⟩
              obtain ⟨X, hX⟩ : ∃ X, X = w3.heap.size := ⟨_, rfl⟩
              have hsX : W.heap.size ≤ X := by rw [hX]; exact Nat.le_trans hsr hg3.size
              have hXW : X < W3.heap.size := by rw [hX, hW3]; simp
              have HRW3 : Hid (RfAt W3 g l t1) := by rw [hW3]; exact hide (hr3.off (grown_box _ _ none) (fun q e => by cases e))
              have HOW3 : Hid (OwnN W.heap.size W3 (.slice b j d) acc) := by rw [hW3]; exact hide ((HO.out.grown hg3 (fun q e => by cases e; exact hsW)).alloc _)
              have HBW3 : Hid (Below w.heap.size w W3) := by
                rw [hW3]
                exact hide ((HBL.out.grown hg3 (HBL.out.size) (fun q e => by cases e; rw [HGE.out]; exact Nat.le_refl _)).trans ((boxB w3 _).mono (Nat.le_trans HBL.out.size hg3.size)))
              have HVX : Hid ((Value.slice b j d).ownBlock ≠ some X) := by
                intro e
                have h1 := ((HO.out.grown hg3 (fun q e => by cases e; exact hsW)).lt _ e).2
                omega
              have HBX3 : Hid (BlkB W3 X (Hog.mk p, 0, ⟨#[]⟩)) := by rw [hW3, hX]; exact hide (BlkB.made w3 (Hog.mk p, 0, ⟨#[]⟩))
              have HX3 := hide hX
              have HW3 := hide hW3
              clear hr3 hg3 hW3 hX
              go_wp2_with fail
              rw [← HW3.out, ← HX3.out]
              refine (rnumR_ok g l t1 kd t2 W3 HRW3.out hl6 HT2.out).mono ?_
              rintro e w4 ⟨rfl, hr4, hg4⟩
              have HB4X := hide (HBX3.out.grown hg4 (fun e => by cases e; omega))
              obtain ⟨⟨k0, k1, k2⟩, ⟨m0, m1, m2'⟩, _⟩ := HB4X.out.facts
              obtain ⟨W4, hW4⟩ : ∃ W4, W4 = w4.setCell ⟨X, 1, none⟩ (.int .i64 kd) := ⟨_, rfl⟩
              have HRW4 : Hid (RfAt W4 g l t2) := by rw [hW4]; exact hide (hr4.off (grown_setCell _ _ _ _) (fun q e => by cases e; omega))
              have HOW4 : Hid (OwnN W.heap.size W4 (.slice b j d) acc) := by rw [hW4]; exact hide ((HOW3.out.grown hg4 (fun q e => by cases e; exact hsW)).keptAt (grown_setCell _ _ _ _) (.inl HVX.out))
              have HBX4 : Hid (BlkB W4 X (Hog.mk p, kd, ⟨#[]⟩)) := by rw [hW4]; exact hide (HB4X.out.setKind kd)
              have hwX : w.heap.size ≤ X := by rw [← HGE.out]; omega
              have HBW4 : Hid (Below w.heap.size w W4) := by
                rw [hW4]
                exact hide ((HBW3.out.grown hg4 HBW3.out.size (fun q e => by cases e; rw [HGE.out]; exact Nat.le_refl _)).setCell (p := ⟨X, 1, none⟩) hwX _)
              have hsW4 : W.heap.size ≤ W4.heap.size := by rw [hW4]; exact Nat.le_trans (Nat.le_trans (Nat.le_trans hsX (Nat.le_of_lt hXW)) hg4.size) (grown_setCell w4 X 1 (.int .i64 kd)).size
              have HW4 := hide hW4
              clear hr4 hg4 hW4
              go_wp2_with fail
              rw [← HW4.out]
              clear k0 k1 k2 m0 m1 m2'
              refine (rtextR_ok g l t2 dd t3 W4 HRW4.out hl6 HT3.out).mono ?_
              rintro e w5 ⟨rfl, hr5, hg5⟩
              have HB5X := hide (HBX4.out.grown hg5 (fun e => by cases e; omega))
              obtain ⟨⟨k0, k1, k2⟩, ⟨m0, m1, m2'⟩, _⟩ := HB5X.out.facts
              obtain ⟨W5, hW5⟩ : ∃ W5, W5 = w5.setCell ⟨X, 2, none⟩ (.string (Hog.mk dd)) := ⟨_, rfl⟩
              have HRW5 : Hid (RfAt W5 g l t3) := by rw [hW5]; exact hide (hr5.off (grown_setCell _ _ _ _) (fun q e => by cases e; omega))
              have HOW5 : Hid (OwnN W.heap.size W5 (.slice b j d) acc) := by rw [hW5]; exact hide ((HOW4.out.grown hg5 (fun q e => by cases e; exact hsW)).keptAt (grown_setCell _ _ _ _) (.inl HVX.out))
              have HBX5 : Hid (BlkB W5 X x) := by rw [hW5, HXX.out]; exact hide (HB5X.out.setData (Hog.mk dd))
              have HBW5 : Hid (Below w.heap.size w W5) := by
                rw [hW5]
                exact hide ((HBW4.out.grown hg5 HBW4.out.size (fun q e => by cases e; rw [HGE.out]; exact Nat.le_refl _)).setCell (p := ⟨X, 2, none⟩) hwX _)
              have hsW5 : W.heap.size ≤ W5.heap.size := by rw [hW5]; exact Nat.le_trans (Nat.le_trans hsW4 hg5.size) (grown_setCell w5 X 2 (.string (Hog.mk dd))).size
              have HW5 := hide hW5
              have HZ5 : Hid (W5.heap.size = w5.heap.size) := by rw [hW5]; simp [Hid, World.setCell]
              clear hr5 hg5 hW5
              obtain ⟨W6, hW6⟩ : ∃ W6, W6 = W5.alloc (.cells #[.string (Hog.mk p), .int .i64 kd, .string (Hog.mk dd)] 48) := ⟨_, rfl⟩
              have HRW6 : Hid (RfAt W6 g l t3) := by rw [hW6]; exact hide (HRW5.out.off (grown_box _ _ none) (fun q e => by cases e))
              have HOW6 : Hid (OwnN W.heap.size W6 (.slice b j d) acc) := by rw [hW6]; exact hide (HOW5.out.alloc _)
              have HBW6 : Hid (Below w.heap.size w W6) := by rw [hW6]; exact hide (HBW5.out.trans ((boxB W5 _).mono HBW5.out.size))
              have HAW6 : Hid (ArgN W6 (some ⟨w5.heap.size, 0, none⟩) 1 1 [x]) := by rw [hW6, ← HZ5.out, HXX.out]; exact hide ((Run.one W5 (Hog.mk p, kd, Hog.mk dd)).arg (c := 1) (by simp))
              have hsW6 : W.heap.size ≤ W6.heap.size := by rw [hW6]; simp; omega
              have HW6 := hide hW6
              clear hW6
              go_wp2_with (at_builtin; rw [← HW5.out, ← HW6.out]; refine wpList_append_nodes rfl _ _ rfl W.heap.size _ acc rfl HOW6.out _ _ _ [x] rfl HAW6.out ?c1 hsW6 ?_)
              case c1 => rw [HL.out]; simp; omega
              intro b7 d7 w7 ho7 hb7
              rw [HL.out] at ho7 ⊢
              have HO7 := hide ho7
              have HR7 := hide (HRW6.out.below hb7 hsW)
              have HB7 := hide (HBW6.out.trans (hb7.mono (show w.heap.size ≤ W.heap.size by rw [← HGE.out]; omega)))
              have hs7 : W.heap.size ≤ w7.heap.size := Nat.le_trans hsW6 hb7.size
              clear ho7 hb7 k0 k1 k2 m0 m1 m2'
              go_wp2
              go_roundw
              case rel => exact ⟨j + 1, b7, d7, acc ++ [x], t3, by omega, by go_num, rfl, HL', HO7, HR7, HZ', HT', HB7, hs7⟩
              case measure => simp [intOf]; omega
          · have hji : (N : Int) ≤ (j : Int) := by omega
            have HEX : Hid (f3 = true ∨ j = N) := hide (.inr (by omega))
            clear hlt
            have okr := h.next HBL.out
            obtain ⟨y, hy⟩ : ∃ y, mayN acc = y := ⟨_, rfl⟩
            have HY := hide hy
            clear hy
            cases y with
            | false =>
              go_wp2_with fail
              refine (rlay_bad _ acc w0 wr okr HO.out.nods HSH.out (by have := HL.out; omega) HY.out).mono ?_
              rintro e wL ⟨rfl, okL, hbL⟩
              have HBF := hide (below_two HBL.out hbL)
              obtain ⟨aoL, mL, dL, hcL, _⟩ := HS.out.below hbL HS.out.lt
              clear c0 c1 c2
              obtain ⟨⟨_, _, c2⟩, _, _⟩ := ref_cells hcL
              simp only [] at c2
              have hb : readB l = false := by
                cases hq : readB l with
                | false => rfl
                | true =>
                  obtain ⟨U, hU, hmU⟩ := tells_of hq
                  obtain ⟨e1, e2, e3⟩ := HT.out U hU
                  obtain ⟨_, e4⟩ := Prod.mk.inj e3
                  rcases HEX.out with e5 | e5
                  · rw [e4] at e5; cases e5
                  · rw [e5, e1, List.take_length] at e2
                    have h9 := HY.out
                    rw [e2, hmU] at h9
                    cases h9
              obtain ⟨rfl, rfl, rfl⟩ := HNO.out hb
              clear hcL hbL hb
              cases f3 with
              | true =>
                go_wp2
                go_ret2
                exact ⟨none, 0, rfl, OwnN.nil _ _, okL, HBF.out⟩
              | false =>
                go_wp2
                go_ret2
                exact ⟨none, 0, rfl, OwnN.nil _ _, okL, HBF.out⟩
            | true =>
              obtain ⟨z', hz'⟩ : ∃ z', layL acc = z' := ⟨_, rfl⟩
              obtain ⟨mz, hmz⟩ : ∃ mz, z'.length = mz := ⟨_, rfl⟩
              have HZ' := hide hz'
              have HMZ := hide hmz
              clear hz' hmz
              go_wp2_with fail
              refine (rlay_good _ acc z' mz w0 wr okr HO.out.nods HSH.out (by have := HL.out; omega) HY.out HZ'.out HMZ.out).mono ?_
              rintro e wL ⟨bL, cL, rfl, hoL, okL, hbL⟩
              have HBF := hide (below_two HBL.out hbL)
              obtain ⟨aoL, mL, dL, hcL, _⟩ := HS.out.below hbL HS.out.lt
              clear c0 c1 c2
              obtain ⟨⟨_, _, c2⟩, _, _⟩ := ref_cells hcL
              simp only [] at c2
              cases f3 with
              | true =>
                have hb : readB l = false := by
                  cases hq : readB l with
                  | false => rfl
                  | true =>
                    obtain ⟨U, hU, hmU⟩ := tells_of hq
                    obtain ⟨_, _, e3⟩ := HT.out U hU
                    simp at e3
                obtain ⟨rfl, rfl, rfl⟩ := HNO.out hb
                clear hcL hbL hb hoL
                go_wp2
                go_ret2
                exact ⟨none, 0, rfl, OwnN.nil _ _, okL, HBF.out⟩
              | false =>
                have HOA := hide ((HO.out.below hbL).base (show w.heap.size ≤ W.heap.size by rw [← HGE.out]; omega))
                have hstr1 := str_bytes hoL.argAt.2
                have hstr2 := str_bytes (HA.out.below HBF.out)
                have hml := Hog.mk_toList
                clear hcL hbL hoL
                by_cases hzl : z' = l
                · have hq := readP_lay HY.out HSH.out
                  rw [HZ'.out, hzl, HV.out] at hq
                  obtain ⟨rfl, rfl⟩ := Prod.mk.inj hq
                  obtain rfl : j = k := by rw [← HL.out, HK.out]
                  have hzb : (z' == l) = true := by rw [hzl]; simp
                  clear hq hzl
                  go_wp2
                  go_ret2
                  exact ⟨b, d, rfl, HOA.out, okL, HBF.out⟩
                · have hb : readB l = false := by
                    cases hq : readB l with
                    | false => rfl
                    | true =>
                      obtain ⟨U, hU, hmU⟩ := tells_of hq
                      obtain ⟨e1, e2, e3⟩ := HT.out U hU
                      rcases HEX.out with e5 | e5
                      · cases e5
                      · rw [e5, e1, List.take_length] at e2
                        exact absurd (by rw [← HZ'.out, e2]; exact hU.2.2.symm) hzl
                  obtain ⟨rfl, rfl, rfl⟩ := HNO.out hb
                  have hzb : (z' == l) = false := by rw [beq_eq_false_iff_ne]; exact hzl
                  clear hb hzl
                  go_wp2
                  go_ret2
                  exact ⟨none, 0, rfl, OwnN.nil _ _, okL, HBF.out⟩
end Go.Proofs.YtlepahfbbdjdgaaDoor
