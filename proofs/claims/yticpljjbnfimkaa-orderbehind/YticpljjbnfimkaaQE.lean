/- The walks of container/heap's Push and Pop, over the heap of package order. -/
import Derived.Test.YticpljjbnfimkaaQD
namespace Go.Proofs.Yticpljjbnfimkaa
open Go.RowKit
variable {H : Nat}

theorem own_len (a : Option Addr) (n m c d : Nat) : (Value.slice a n c).ownBlock = (Value.slice a m d).ownBlock := by cases a <;> rfl
/-- The heap, in order. -/
structure RdyH (H : Nat) (w : World) (g : Nat) (ns : List ByteArray) (L : List Nat) (a : Option Addr) (c : Nat) : Prop where
  rdy : Rdy H w g ns L a c
  heap : Hog.Heapy (ltQ ns) L L.length
theorem RdyH.below {w w' : World} {g : Nat} {ns : List ByteArray} {L : List Nat} {a : Option Addr} {c : Nat} (h : RdyH H w g ns L a c) (hb : Below w.heap.size w w') : RdyH H w' g ns L a c := ⟨h.rdy.below hb, h.heap⟩
set_option maxRecDepth 100000 in
set_option maxHeartbeats 4000000 in
theorem hpush_ok (w : World) (g : Nat) (ns : List ByteArray) (L : List Nat) (a : Option Addr) (c z : Nat) (o : Hog.Ordy (ltQ ns)) (h : RdyH H w g ns L a c) (hz : z < ns.length) (hl : L.length < 800000) :
    Calls Try.prog 28 #[.iface 57 (.pointer (some ⟨g, 0, none⟩)), .iface 3 (.int .i64 z)] w fun e w' => e = .returned (.tuple #[]) ∧
      ∃ L' b2 c2, RdyH H w' g ns L' b2 c2 ∧ L'.Perm (z :: L) ∧ Ke g (Value.slice a L.length c).ownBlock w w' ∧ Stays w (.slice a L.length c) (.slice b2 L'.length c2) := by
  have HR := hide h
  have HO := hide o
  have HZ := hide hz
  clear h o hz
  go_enter Try.func28, Try.ntmps28
  go_wp2_with fail
  refine (pushQ_ok w g ns L a c z HR.out.rdy HZ.out (by omega)).mono ?_
  rintro e w1 ⟨rfl, b2, c2, hr1, hk1, hs1⟩
  have HR1 := hide hr1
  have HK1 := hide hk1
  have HS1 := hide hs1
  clear hr1 hk1 hs1
  go_wp2_with fail
  refine (lenQ_ok w1 g ns (L ++ [z]) b2 c2 (L.length + 1) HR1.out (by simp)).mono ?_
  rintro e w2 ⟨rfl, rfl⟩
  go_wp2_with fail
  refine (up_ok w2 g ns (L ++ [z]) b2 c2 L.length (L.length + 1) HO.out HR1.out (by simp) (by omega) (by omega) (HR.out.heap.push z)).mono ?_
  rintro e w3 ⟨rfl, L', hr3, hp3, hh3, hk3⟩
  have hl3 := hp3.length_eq
  rw [List.length_append, List.length_singleton] at hl3
  have HF : Hid (RdyH H w3 g ns L' b2 c2 ∧ L'.Perm (z :: L) ∧ Ke g (Value.slice a L.length c).ownBlock w w3 ∧ Stays w (.slice a L.length c) (.slice b2 L'.length c2)) := by
    refine hide ⟨⟨hr3, by rw [hl3]; exact hh3⟩, hp3.trans (List.perm_append_singleton z L), HK1.out.trans HS1.out hk3, ?_⟩
    rw [hl3]; exact HS1.out
  clear hr3 hp3 hh3 hk3 hl3
  go_wp2_with fail
  go_end0
  exact ⟨rfl, L', b2, c2, HF.out.1, HF.out.2.1, HF.out.2.2.1, HF.out.2.2.2⟩
set_option maxRecDepth 100000 in
set_option maxHeartbeats 4000000 in
theorem hpop_ok (w : World) (g : Nat) (ns : List ByteArray) (L : List Nat) (a : Option Addr) (c n : Nat) (o : Hog.Ordy (ltQ ns)) (h : RdyH H w g ns L a c) (hn : L.length = n + 1) (hl : L.length < 800000) :
    Calls Try.prog 30 #[.iface 57 (.pointer (some ⟨g, 0, none⟩))] w fun e w' => ∃ (z : Nat) (M : List Nat), e = .returned (.iface 3 (.int .i64 z)) ∧
      RdyH H w' g ns M a c ∧ L.Perm (z :: M) ∧ (∀ y ∈ L, ¬ ltQ ns y z) ∧ Ke g (Value.slice a L.length c).ownBlock w w' := by
  obtain ⟨x, hx⟩ : ∃ x, L[0]? = some x := ⟨L[0]'(by omega), List.getElem?_eq_some_iff.2 ⟨_, rfl⟩⟩
  obtain ⟨y, hy⟩ : ∃ y, L[n]? = some y := ⟨L[n]'(by omega), List.getElem?_eq_some_iff.2 ⟨_, rfl⟩⟩
  have HR := hide h
  have HO := hide o
  have HN := hide hn
  have HX := hide hx
  have HY := hide hy
  have hnl : n < 800000 := by omega
  have HLEAST : Hid (∀ y ∈ L, ¬ ltQ ns y x) := hide fun y hy => by
    obtain ⟨k, hk⟩ := List.getElem?_of_mem hy
    have hh := h.heap
    exact hh.least o (Nat.le_refl _) k (List.getElem?_eq_some_iff.1 hk).1 y x hk hx
  clear h o hn hx hy hl
  go_enter Try.func30, Try.ntmps30
  go_wp2_with fail
  refine (lenQ_ok w g ns L a c (n + 1) HR.out.rdy HN.out).mono ?_
  rintro e w1 ⟨rfl, rfl⟩
  go_wp2_with fail
  refine (swapQ_ok w1 g ns L a c 0 n x y HR.out.rdy HX.out HY.out).mono ?_
  rintro e w2 ⟨rfl, hr2, hk2⟩
  have HR2 := hide hr2
  have HK2 := hide hk2
  have HD : Hid (Hog.DownH (ltQ ns) (Hog.swp L 0 n x y) n 0) := by
    have hh := HR.out.heap
    rw [HN.out] at hh
    exact hide (hh.pop HX.out HY.out)
  clear hr2 hk2
  go_wp2_with fail
  refine (down_ok w2 g ns (Hog.swp L 0 n x y) a c n (n + 1) HO.out HR2.out (by rw [Hog.swp_len]; exact HN.out) (by omega) (by omega) HD.out).mono ?_
  rintro e w3 ⟨⟨r, rfl⟩, L', hr3, hp3, hkeep, hh3, hk3⟩
  have hl3 : L'.length = n + 1 := by rw [hp3.length_eq, Hog.swp_len]; exact HN.out
  have hlast : L'[n]? = some x := by rw [hkeep n (Nat.le_refl _), Hog.swp_get HX.out HY.out, if_pos rfl]
  have hcut : L' = L'.take n ++ [x] := by
    obtain ⟨h1, h2⟩ := List.getElem?_eq_some_iff.1 hlast
    have h3 := List.take_succ_eq_append_getElem h1
    rw [h2, List.take_of_length_le (by omega)] at h3
    exact h3
  have HR3 := hide hr3
  have HK3 := hide hk3
  have HCUT := hide hcut
  have HH3 : Hid (Hog.Heapy (ltQ ns) (L'.take n) (L'.take n).length) := by rw [List.length_take, Nat.min_eq_left (by omega)]; exact hide hh3.cut
  have HLT : Hid ((L'.take n).length = n) := hide (by rw [List.length_take]; omega)
  have HP3 : Hid (L.Perm (x :: L'.take n)) := by
    have h4 := (hp3.trans (Hog.swp_perm HX.out HY.out)).symm
    rw [hcut] at h4
    exact hide (h4.trans (List.perm_append_singleton x _))
  clear hr3 hp3 hkeep hh3 hk3 hl3 hlast hcut
  go_wp2_with fail
  refine (popQ_ok w3 g ns L' (L'.take n) a c x n HR3.out HCUT.out HLT.out (by omega)).mono ?_
  rintro e w4 ⟨rfl, hr4, hk4⟩
  have HR4 := hide hr4
  have HK4 := hide hk4
  clear hr4 hk4
  go_wp2_with fail
  go_ret
  refine ⟨x, L'.take n, rfl, ⟨HR4.out, HH3.out⟩, HP3.out, HLEAST.out, ?_⟩
  have h5 := HK2.out
  have h6 := HK3.out
  rw [own_len a (n + 1) L.length c c] at h6
  exact (h5.trans (.inl rfl) h6).trans (.inl rfl) ⟨HK4.out.os, HK4.out.tape, HK4.out.output, HK4.out.size, fun k hk hg _ => HK4.out.block k hk hg (by simp)⟩
end Go.Proofs.Yticpljjbnfimkaa
