/- The walks of the document's own answer, chapter 5: the reader's Take, Text. -/
import Derived.Test.YtlepahfbbdjdgaaDoorI3
namespace Go.Proofs.YtlepahfbbdjdgaaDoor
open Go.RowKit

theorem RfAt.moved {w : World} {g : Nat} {l : List UInt8} {ao : Option Addr} {m c a' : Nat} {a v : Int} {f : Bool} (hc : w.heap[g]? = some (.cells #[.slice ao m c, .int .i64 a, .bool f] 60 (0, 0))) (ha : ArgG w g ao m c l) (hs : a' ≤ m) (hv : v = (a' : Int)) :
    RfAt (w.setCell ⟨g, 1, none⟩ (.int .i64 v)) g l (a', f) := by
  subst hv
  exact ⟨ao, m, c, by rw [heap_setCell_same w g 1 _ _ _ hc]; rfl, ha.grown (grown_setCell _ _ _ _), hs⟩

set_option maxRecDepth 100000 in
set_option maxHeartbeats 2000000 in
theorem rtakeR_bad (g : Nat) (l : List UInt8) (n : Int) (s : FS) (w : World) (h : RfAt w g l s) (hl : l.length < 1000000) (hbad : s.2 = true ∨ n < 0 ∨ ((l.length - s.1 : Nat) : Int) < n) :
    Calls Tryd.prog 45 #[.pointer (some ⟨g, 0, none⟩), .int .i64 n] w fun e w' => e = .returned (.string ⟨#[]⟩) ∧ RfAt w' g l (s.1, true) ∧ w.grownBy w' (some g) := by
  obtain ⟨a, f⟩ := s
  obtain ⟨ao, m, c, hg, ha, hs⟩ := h
  obtain ⟨⟨c0, c1, c2⟩, f1, f2⟩ := ref_cells hg
  have hlen := ha.arg.len
  simp only [] at hs c1 c2 hg hbad
  rw [hlen] at hbad hl
  have HG := hide hg
  have HA := hide ha
  clear hg ha hlen
  cases f with
  | true =>
    clear hbad
    go_enter Tryd.func45, Tryd.ntmps45
    go_wp2
    go_quiet (fail)
    obtain ⟨hg2, ha2⟩ := RfAt.later HG.out HA.out (below_drewN (Below.refl _ w) nq)
    obtain ⟨⟨d0, d1, d2⟩, e1, e2⟩ := ref_cells hg2
    have HF := hide (RfAt.fails hg2 ha2 hs)
    clear hg2 ha2
    go_wp2
    go_ret
    exact ⟨rfl, HF.out, grown_trans (drew_grown _ _ _) (grown_setCell _ _ _ _)⟩
  | false =>
    by_cases h0 : n < 0
    · have hd : decide (n < 0) = true := decide_eq_true h0
      clear hbad
      go_enter Tryd.func45, Tryd.ntmps45
      go_wp2
      go_quiet (fail)
      obtain ⟨hg2, ha2⟩ := RfAt.later HG.out HA.out (below_drewN (Below.refl _ w) nq)
      obtain ⟨⟨d0, d1, d2⟩, e1, e2⟩ := ref_cells hg2
      have HF := hide (RfAt.fails hg2 ha2 hs)
      clear hg2 ha2
      go_wp2
      go_ret
      exact ⟨rfl, HF.out, grown_trans (drew_grown _ _ _) (grown_setCell _ _ _ _)⟩
    · have hd : decide (n < 0) = false := decide_eq_false h0
      have hlt : (m : Int) - (a : Int) < n := by simp at hbad; omega
      clear hbad
      go_enter Tryd.func45, Tryd.ntmps45
      go_wp2
      go_quiet (fail)
      obtain ⟨hg2, ha2⟩ := RfAt.later HG.out HA.out (below_drewN (Below.refl _ w) nq)
      obtain ⟨⟨d0, d1, d2⟩, e1, e2⟩ := ref_cells hg2
      have HF := hide (RfAt.fails hg2 ha2 hs)
      clear hg2 ha2
      go_wp2
      go_ret
      exact ⟨rfl, HF.out, grown_trans (drew_grown _ _ _) (grown_setCell _ _ _ _)⟩

set_option maxRecDepth 100000 in
set_option maxHeartbeats 2000000 in
theorem rtakeR_good (g : Nat) (l : List UInt8) (n a : Nat) (w : World) (h : RfAt w g l (a, false)) (hl : l.length < 1000000) (hgood : n ≤ l.length - a) :
    Calls Tryd.prog 45 #[.pointer (some ⟨g, 0, none⟩), .int .i64 n] w fun e w' => e = .returned (.string (Hog.mk ((l.drop a).take n))) ∧ RfAt w' g l (a + n, false) ∧ w.grownBy w' (some g) := by
  obtain ⟨ao, m, c, hg, ha, hs⟩ := h
  obtain ⟨⟨c0, c1, c2⟩, f1, f2⟩ := ref_cells hg
  have hlen := ha.arg.len
  simp only [] at hs c1 c2 hg
  rw [hlen] at hl hgood
  have hcap := ha.arg.cap
  have hnone := ha.arg.none
  obtain ⟨x, hx⟩ : ∃ x, x = (l.drop a).take n := ⟨_, rfl⟩
  have HSTR : Hid (∀ {w' : World}, Below w.heap.size w w' → (convert 22 9 (.slice (cutAt ao c a) n (c - a))).run Tryd.prog w' = .ok (.string (Hog.mk x)) w') := by
    intro w' hb
    rw [hx]
    exact str_bytes (((ha.arg.drop hs).take hgood).below hb)
  rw [← hx]
  have HG := hide hg
  have HA := hide ha
  clear hg ha hlen hx
  have hd0 : decide ((n : Int) < 0) = false := by rw [decide_eq_false_iff_not]; omega
  have hge : decide ((m : Int) - (a : Int) < (n : Int)) = false := by rw [decide_eq_false_iff_not]; omega
  have hw0 : IntKind.i64.wrap 0 = 0 := rfl
  have hw1 : IntKind.i64.wrap ((m : Int) - (a : Int)) = (m : Int) - (a : Int) := by rw [IntKind.wrap_i64]; omega
  have hw2 : IntKind.i64.wrap ((a : Int) + (n : Int)) = (a : Int) + (n : Int) := by rw [IntKind.wrap_i64]; omega
  have hma : (a : Int) ≤ (a : Int) + (n : Int) := by omega
  have hmc : (a : Int) + (n : Int) ≤ (c : Int) := by omega
  cases ao with
  | none =>
    obtain ⟨rfl, rfl⟩ := hnone rfl
    obtain rfl : a = 0 := by omega
    obtain rfl : n = 0 := by omega
    simp only [cutAt, Option.map_none, Nat.sub_self] at HSTR
    clear hnone
    go_enter Tryd.func45, Tryd.ntmps45
    go_wp2
    go_quiet (fail)
    have hb1 := below_drewN (Below.refl w.heap.size w) nq
    have hstr := fun q => HSTR.out (below_drewN (Below.refl w.heap.size w) q)
    have hstr2 := fun q => HSTR.out (below_drewN hb1 q)
    go_wp2
    go_quiet (fail)
    have hb2 := below_drewN hb1 nq
    rw [World.drewN_drewN] at hb2
    obtain ⟨hg3, ha3⟩ := RfAt.later HG.out HA.out hb2
    obtain ⟨⟨k0, k1, k2⟩, m1, m2⟩ := ref_cells hg3
    have HG3 := hide hg3
    have HA3 := hide ha3
    clear hg3 ha3 hstr hstr2
    go_wp2
    go_ret
    exact ⟨rfl, RfAt.moved HG3.out HA3.out (by omega) (by omega), grown_trans (grown_of_below hb2 _) (grown_setCell _ _ _ _)⟩
  | some ad =>
    clear hnone
    by_cases hca : c = a
    · have hmm : m = a := by omega
      obtain rfl : n = 0 := by omega
      simp only [cutAt, Option.map_some, if_pos hca] at HSTR
      subst hca
      subst hmm
      have hw3 : IntKind.i64.wrap (m : Int) = (m : Int) := by rw [IntKind.wrap_i64]; omega
      simp only [Nat.sub_self] at HSTR
      go_enter Tryd.func45, Tryd.ntmps45
      go_wp2
      go_quiet (fail)
      have hb1 := below_drewN (Below.refl w.heap.size w) nq
      have hstr := fun q => HSTR.out (below_drewN (Below.refl w.heap.size w) q)
      have hstr2 := fun q => HSTR.out (below_drewN hb1 q)
      go_wp2
      go_quiet (fail)
      have hb2 := below_drewN hb1 nq
      rw [World.drewN_drewN] at hb2
      obtain ⟨hg3, ha3⟩ := RfAt.later HG.out HA.out hb2
      obtain ⟨⟨k0, k1, k2⟩, m1, m2⟩ := ref_cells hg3
      have HG3 := hide hg3
      have HA3 := hide ha3
      clear hg3 ha3 hstr hstr2
      go_wp2
      go_ret
      exact ⟨rfl, RfAt.moved HG3.out HA3.out (by omega) (by omega), grown_trans (grown_of_below hb2 _) (grown_setCell _ _ _ _)⟩
    · simp only [cutAt, Option.map_some, if_neg hca] at HSTR
      have htn : ((a : Int) + (n : Int)).toNat = a + n := by omega
      go_enter Tryd.func45, Tryd.ntmps45
      go_wp2
      go_quiet (fail)
      have hb1 := below_drewN (Below.refl w.heap.size w) nq
      have hstr := fun q => HSTR.out (below_drewN (Below.refl w.heap.size w) q)
      have hstr2 := fun q => HSTR.out (below_drewN hb1 q)
      go_wp2
      go_quiet (fail)
      have hb2 := below_drewN hb1 nq
      rw [World.drewN_drewN] at hb2
      obtain ⟨hg3, ha3⟩ := RfAt.later HG.out HA.out hb2
      obtain ⟨⟨k0, k1, k2⟩, m1, m2⟩ := ref_cells hg3
      have HG3 := hide hg3
      have HA3 := hide ha3
      clear hg3 ha3 hstr hstr2
      go_wp2
      go_ret
      exact ⟨rfl, RfAt.moved HG3.out HA3.out (by omega) (by omega), grown_trans (grown_of_below hb2 _) (grown_setCell _ _ _ _)⟩

theorem rtakeR_ok (g : Nat) (l : List UInt8) (n : Int) (s : FS) (x : List UInt8) (s' : FS) (w : World) (h : RfAt w g l s) (hl : l.length < 1000000) (hv : rT l n s = (x, s')) :
    Calls Tryd.prog 45 #[.pointer (some ⟨g, 0, none⟩), .int .i64 n] w fun e w' => e = .returned (.string (Hog.mk x)) ∧ RfAt w' g l s' ∧ w.grownBy w' (some g) := by
  by_cases hb : s.2 = true ∨ n < 0 ∨ ((l.length - s.1 : Nat) : Int) < n
  · rw [rT_bad hb] at hv
    obtain ⟨rfl, rfl⟩ := Prod.mk.inj hv
    exact rtakeR_bad g l n s w h hl hb
  · obtain ⟨a, f⟩ := s
    have hf : f = false := by cases f with
      | true => exact absurd (.inl rfl) hb
      | false => rfl
    subst hf
    simp only [] at hb
    obtain ⟨r, rfl⟩ : ∃ r : Nat, n = r := ⟨n.toNat, by omega⟩
    have hr : r ≤ l.length - a := by omega
    rw [rT_good rfl hr] at hv
    obtain ⟨rfl, rfl⟩ := Prod.mk.inj hv
    exact rtakeR_good g l r a w h hl hr

/-- A text, by the document's reader. -/
def rX (l : List UInt8) (s : FS) : List UInt8 × FS :=
  ((rT l (rN l s).1 (rN l s).2).1,
    if (rT l (rN l s).1 (rN l s).2).2.2 = false ∧ (rN l s).1.tmod 8 ≠ 0 then (rT l (8 - (rN l s).1.tmod 8) (rT l (rN l s).1 (rN l s).2).2).2 else (rT l (rN l s).1 (rN l s).2).2)
theorem rX_parts (l : List UInt8) (s : FS) (n : Int) (s1 : FS) (x : List UInt8) (s2 : FS) (h1 : rN l s = (n, s1)) (h2 : rT l n s1 = (x, s2)) :
    rX l s = (x, if s2.2 = false ∧ n.tmod 8 ≠ 0 then (rT l (8 - n.tmod 8) s2).2 else s2) := by
  unfold rX
  rw [h1]
  simp only []
  rw [h2]

set_option maxRecDepth 100000 in
set_option maxHeartbeats 1000000 in
theorem rtextR_ok (g : Nat) (l : List UInt8) (s : FS) (x : List UInt8) (s' : FS) (w : World) (h : RfAt w g l s) (hl : l.length < 1000000) (hv : rX l s = (x, s')) :
    Calls Tryd.prog 36 #[.pointer (some ⟨g, 0, none⟩)] w fun e w' => e = .returned (.string (Hog.mk x)) ∧ RfAt w' g l s' ∧ w.grownBy w' (some g) := by
  obtain ⟨n, s1, h1⟩ : ∃ n s1, rN l s = (n, s1) := ⟨_, _, (Prod.eta _).symm⟩
  obtain ⟨y, s2, h2⟩ : ∃ x s2, rT l n s1 = (x, s2) := ⟨_, _, (Prod.eta _).symm⟩
  rw [rX_parts l s n s1 y s2 h1 h2] at hv
  obtain ⟨rfl, hs'⟩ := Prod.mk.inj hv
  have HR := hide h
  have H1 := hide h1
  have H2 := hide h2
  have HS := hide hs'
  clear h h1 h2 hv hs'
  go_enter Tryd.func36, Tryd.ntmps36
  go_wp2_with fail
  refine (rnumR_ok g l s n s1 w HR.out hl H1.out).mono ?_
  rintro e w1 ⟨rfl, hr1, hg1⟩
  have HR1 := hide hr1
  have HG1 := hide hg1
  clear hr1 hg1
  go_wp2_with fail
  refine (rtakeR_ok g l n s1 y s2 w1 HR1.out hl H2.out).mono ?_
  rintro e w2 ⟨rfl, hr2, hg2⟩
  have HR2 := hide hr2
  have HG2 := hide (grown_trans HG1.out hg2)
  clear hr2 hg2
  obtain ⟨a2, f2⟩ := s2
  obtain ⟨ao, m, c, hc, _⟩ := id HR2.out
  obtain ⟨⟨c0, c1, c2⟩, f1', f2'⟩ := ref_cells hc
  clear hc
  cases f2 with
  | true =>
    go_wp2
    go_ret
    have hs := HS.out
    simp at hs
    subst hs
    exact ⟨rfl, HR2.out, HG2.out⟩
  | false =>
    by_cases h8 : n.tmod 8 = 0
    · go_wp2
      go_ret
      have hs := HS.out
      simp [h8] at hs
      subst hs
      exact ⟨rfl, HR2.out, HG2.out⟩
    · have h8' : (n.tmod 8 != 0) = true := by rw [bne_iff_ne]; exact h8
      obtain ⟨q, hq⟩ : ∃ q, q = n.tmod 8 := ⟨_, rfl⟩
      have hqb : -8 < q ∧ q < 8 := by
        rw [hq]
        rcases Int.le_total 0 n with hn | hn
        · rw [Int.tmod_eq_emod_of_nonneg hn]; omega
        · have e : n.tmod 8 = -((-n).tmod 8) := by rw [Int.neg_tmod, Int.neg_neg]
          rw [e, Int.tmod_eq_emod_of_nonneg (by omega)]; omega
      obtain ⟨hqb1, hqb2⟩ := hqb
      have hs := HS.out
      simp only [h8, ne_eq, not_false_eq_true, and_self, if_true] at hs
      rw [← hq] at hs h8'
      obtain ⟨z, s3, h3⟩ : ∃ z s3, rT l (8 - q) (a2, false) = (z, s3) := ⟨_, _, (Prod.eta _).symm⟩
      rw [h3] at hs
      simp only [] at hs
      subst hs
      have H3 := hide h3
      have hq' := hq.symm
      clear h3 h8 hq
      go_wp2_with fail
      refine (rtakeR_ok g l (8 - q) (a2, false) z s3 w2 HR2.out hl H3.out).mono ?_
      rintro e w3 ⟨rfl, hr3, hg3⟩
      have HG3 := hide (grown_trans HG2.out hg3)
      go_wp2
      go_ret
      exact ⟨rfl, hr3, HG3.out⟩
end Go.Proofs.YtlepahfbbdjdgaaDoor
