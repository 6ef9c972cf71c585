/- The walk of closure's take. -/
import Derived.Test.YtinjbijigjfdfaaGreatDoorKG
namespace Go.Proofs.YtinjbijigjfdfaaGreatDoor
open Go.RowKit

/-- Places, as the program's numbers. -/
def numK (L : List Nat) : List Int := L.map fun k : Nat => (k : Int)
theorem nums_len (L : List Nat) : (numK L).length = L.length := List.length_map _
theorem nums_app (L M : List Nat) : numK (L ++ M) = numK L ++ numK M := List.map_append
theorem nums_get {L : List Nat} {j k : Nat} (h : L[j]? = some k) : (numK L)[j]? = some (k : Int) := by unfold numK; rw [List.getElem?_map, h]; rfl
theorem OwnZ.off {base : Nat} {w : World} {v : Value} {xs : List Int} {m : Nat} (h : OwnZ base w v xs) (hm : m < base) : v.ownBlock = none ∨ v.ownBlock ≠ some m := by
  refine .inr fun e => ?_
  have := (h.lt m e).1
  omega
theorem OwnZ.held {base : Nat} {w w' : World} {v : Value} {xs : List Int} {m : Nat} (h : OwnZ base w v xs) (hg : w.grownBy w' (some m)) (hm : m < base) : OwnZ base w' v xs := World.ownsRow.kept h hg (h.off hm)
theorem take_hit {f fk : ByteArray → Option Nat} {L : List Nat} {xs : List ByteArray} {k z : Nat} {x : ByteArray} (hx : xs[k]? = some x) (h : Hog.takeK f (xs.take k) = (fk, L)) (hz : fk x = some z) : Hog.takeK f (xs.take (k + 1)) = (Hog.delK fk x, L ++ [z]) := by
  rw [Hog.takeK_in hx (by rw [h]; exact hz), h]
theorem take_not {f fk : ByteArray → Option Nat} {L : List Nat} {xs : List ByteArray} {k : Nat} {x : ByteArray} (hx : xs[k]? = some x) (h : Hog.takeK f (xs.take k) = (fk, L)) (hz : fk x = none) : Hog.takeK f (xs.take (k + 1)) = (fk, L) := by
  rw [Hog.takeK_out hx (by rw [h]; exact hz), h]

set_option maxRecDepth 100000 in
set_option maxHeartbeats 2000000 in
theorem take_some (m b o c n : Nat) (f f' : ByteArray → Option Nat) (L : List Nat) (xs : List ByteArray) (w : World) (hm : MapF w m (intM f)) (hn : n = xs.length) (hl : n < 900000) (hx : ∀ (j : Nat) x, xs[j]? = some x → w.cell? ⟨b, o + j, none⟩ = some (.string x))
    (ht : Hog.takeK f xs = (f', L)) :
    Calls Tryz.prog 24 #[.map (some m), .slice (some ⟨b, o, none⟩) n c] w fun e w' => ∃ a c', e = .returned (.slice a L.length c') ∧ OwnZ w.heap.size w' (.slice a L.length c') (numK L) ∧ MapF w' m (intM f') ∧ w.grownBy w' (some m) := by
  have HM0 := hide hm
  have HN := hide hn
  have HX := hide hx
  have HT := hide ht
  have hmw : m < w.heap.size := hm.lt
  clear hm hn hx ht
  go_enter Tryz.func24, Tryz.ntmps24
  go_wp2
  go_loopw [5, 12] (fun v i wr => ∃ (k q : Nat) (fk : ByteArray → Option Nat) (Lk : List Nat) (a : Option Addr) (c2 : Nat), k ≤ n ∧ q ≤ k ∧ v = .slice a q c2 ∧ i = .int .i64 k ∧ Hid (Hog.takeK f (xs.take k) = (fk, Lk)) ∧ Hid (Lk.length = q) ∧ Hid (OwnZ w.heap.size wr (.slice a q c2) (numK Lk)) ∧ Hid (MapF wr m (intM fk)) ∧ Hid (w.grownBy wr (some m))) (fun _ i _ => n - (intOf i).toNat)
  case atStart => exact ⟨0, 0, f, [], none, 0, Nat.zero_le _, Nat.le_refl _, rfl, rfl, by rw [List.take_zero]; exact rfl, rfl, OwnZ.nil _ _, HM0.out, grown_refl _ _⟩
  case round =>
    obtain ⟨k, q, fk, Lk, a, c2, hk, hq, rfl, rfl, htk, hlen, hown, hmf, hgr⟩ := hrel
    by_cases hlt : k < n
    · obtain ⟨x, hxk⟩ : ∃ x, xs[k]? = some x := ⟨xs[k]'(by have := HN.out; omega), List.getElem?_eq_some_iff.2 ⟨_, rfl⟩⟩
      have hc0 := HX.out k x hxk
      have hcell := hgr.out.cell hc0 (map_not_cell HM0.out hc0)
      have HXK := hide hxk
      have hki : (k : Int) < (n : Int) := by omega
      clear hxk hc0
      cases hz : fk x with
      | none =>
        have z1 : Hid (atF (intM fk) x = 0) := by unfold atF; rw [intM_none hz]; exact hide rfl
        have z2 : Hid ((intM fk x).isSome = false) := by rw [intM_none hz]; exact hide rfl
        have HST := hide (take_not HXK.out htk.out hz)
        clear hz
        go_wp2_with (at_lookup; refine wpList_lookG rfl _ _ rfl m _ rfl hmf.out x rfl 0 false z1.out z2.out ?_)
        go_roundw
        case rel => exact ⟨k + 1, q, fk, Lk, a, c2, by omega, by omega, rfl, by go_num, HST, hlen, hown, hmf, hgr⟩
        case measure => simp [intOf]; omega
      | some z =>
        have z1 : Hid (atF (intM fk) x = (z : Int)) := by unfold atF; rw [intM_some hz]; exact hide rfl
        have z2 : Hid ((intM fk x).isSome = true) := by rw [intM_some hz]; exact hide rfl
        have HST := hide (take_hit HXK.out htk.out hz)
        clear hz
        obtain ⟨w1, hrun, hm1, hg1⟩ := mapG_delete hmf.out x 0
        rw [intM_del] at hm1
        have HM1 := hide hm1
        have HG1 := hide (grown_trans hgr.out hg1)
        have HO1 := hide (hown.out.held hg1 hmw)
        clear hm1 hg1
        have hsz1 : w.heap.size ≤ w1.heap.size := HG1.out.size
        have HOA := hide (HO1.out.alloc (.cells #[.int .i64 (z : Int)] 3))
        have HA := hide (argI_one w1 (z : Int))
        go_wp2_with (first
          | (at_lookup; refine wpList_lookG rfl _ _ rfl m _ rfl hmf.out x rfl (z : Int) true z1.out z2.out ?_)
          | (at_builtin; refine wpList_append_whereZ rfl _ _ rfl w.heap.size _ (numK Lk) rfl HOA.out _ _ _ [(z : Int)] rfl HA.out ?d1 ?d2 ?_))
        case d1 => rw [nums_len, hlen.out]; simp; omega
        case d2 => simp; omega
        intro b3 c3 w3 h3 hg3 _
        rw [nums_len, hlen.out] at h3 ⊢
        have HO3 : Hid (OwnZ w.heap.size w3 (.slice b3 (q + 1) c3) (numK (Lk ++ [z]))) := by rw [nums_app]; exact hide h3
        have HM3 := hide ((HM1.out.below (below_box w1 (.cells #[.int .i64 (z : Int)] 3))).grown hg3 (fun e => by have := (HOA.out.lt m e.symm).1; omega))
        have HG3 := hide (grown_new HG1.out (World.grownBy_alloc w1 (.cells #[.int .i64 (z : Int)] 3) none) (fun g e => by cases e))
        have HG4 := hide (grown_new HG3.out hg3 (fun g e => (HOA.out.lt g e).1))
        clear h3 hg3
        go_wp2
        go_roundw
        case rel => exact ⟨k + 1, q + 1, Hog.delK fk x, Lk ++ [z], b3, c3, by omega, by omega, rfl, by go_num, HST, by rw [List.length_append, hlen.out]; exact hide rfl, HO3, HM3, HG4⟩
        case measure => simp [intOf]; omega
    · have hki : (n : Int) ≤ (k : Int) := by omega
      have HE : Hid (fk = f' ∧ Lk = L) := by
        have h1 := htk.out
        rw [List.take_of_length_le (by have := HN.out; omega), HT.out] at h1
        exact ⟨(congrArg Prod.fst h1).symm, (congrArg Prod.snd h1).symm⟩
      go_wp2
      go_ret
      have hL : L.length = q := by rw [← HE.out.2]; exact hlen.out
      refine ⟨a, c2, by rw [hL]; rfl, ?_, ?_, hgr.out⟩
      · rw [hL, ← HE.out.2]; exact hown.out
      · rw [← HE.out.1]; exact hmf.out
set_option maxRecDepth 100000 in
set_option maxHeartbeats 1000000 in
theorem take_none (m : Nat) (a : Option Addr) (c : Nat) (w : World) :
    Calls Tryz.prog 24 #[.map (some m), .slice a 0 c] w fun e w' => e = .returned (.slice none 0 0) ∧ w' = w := by
  go_enter Tryz.func24, Tryz.ntmps24
  go_wp2
  go_loop [5, 12] (fun v i => v = .slice none 0 0 ∧ i = .int .i64 0) (fun _ _ => 0)
  case atStart => exact ⟨rfl, rfl⟩
  case round =>
    obtain ⟨rfl, rfl⟩ := hrel
    go_wp2
    go_ret
    exact ⟨rfl, rfl⟩
theorem take_ok (m : Nat) (v : Value) (f f' : ByteArray → Option Nat) (L : List Nat) (xs : List ByteArray) (w : World) (hm : MapF w m (intM f)) (hv : Txt w v xs) (hl : xs.length < 900000) (ht : Hog.takeK f xs = (f', L)) :
    Calls Tryz.prog 24 #[.map (some m), v] w fun e w' => ∃ a c', e = .returned (.slice a L.length c') ∧ OwnZ w.heap.size w' (.slice a L.length c') (numK L) ∧ MapF w' m (intM f') ∧ w.grownBy w' (some m) := by
  rcases hv with ⟨rfl, a, c, rfl⟩ | ⟨b, o, c, rfl, _, _, hcell⟩
  · rw [Hog.takeK_nil] at ht
    obtain ⟨rfl, rfl⟩ : f = f' ∧ [] = L := by cases ht; exact ⟨rfl, rfl⟩
    refine (take_none m a c w).mono ?_
    rintro e w' ⟨rfl, rfl⟩
    exact ⟨none, 0, rfl, OwnZ.nil _ _, hm, grown_refl _ _⟩
  · exact take_some m b o c xs.length f f' L xs w hm rfl hl hcell ht
end Go.Proofs.YtinjbijigjfdfaaGreatDoor
