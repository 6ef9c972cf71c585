/- The walks of package scan: standing, over either search; Text, Tree. -/
import Derived.Test.YtinjbijigjfdfaaDoorSK
namespace Go.Proofs.YtinjbijigjfdfaaDoor
open Go.RowKit

set_option maxRecDepth 100000 in
set_option maxHeartbeats 2000000 in
theorem standingT_ok (B b o c n : Nat) (xs R : List ByteArray) (act : ByteArray → Bool) (w : World) (hn : xs.length = n) (hl : n < 900000) (hz : ∀ x ∈ xs, x.size ≤ maxLen) (hb : b < w.heap.size)
    (hx : ∀ (j : Nat) x, xs[j]? = some x → w.cell? ⟨b, o + j, none⟩ = some (.string x)) (hS : Searches 30 #[.pointer (some ⟨B, 0, none⟩)] act w) (hR : toldT act xs = R) :
    Calls Tryd.prog 29 #[.slice (some ⟨b, o, none⟩) n c, .func (.func 30) #[] #[.pointer (some ⟨B, 0, none⟩)]] w fun e w' => ∃ a c', e = .returned (.slice a R.length c') ∧ Own w.heap.size w' (.slice a R.length c') R ∧ Below w.heap.size w w' := by
  have HX := hide hx
  have HN := hide hn
  have HZ := hide hz
  have HS := hide hS
  have HR := hide hR
  clear hx hn hz hS hR
  have hmm := @run_makeMap Tryd.prog
  go_enter Tryd.func29, Tryd.ntmps29
  go_wp2
  clear hmm
  go_loopw [14] (fun i wr => ∃ k : Nat, k ≤ n ∧ i = .int .i64 k ∧ Hid (∃ f, MapF wr w.heap.size f ∧ Tal (keysOf (xs.take k)) (fun _ => false) 0 f) ∧ Hid (Below w.heap.size w wr)) (fun i _ => n - (intOf i).toNat)
  case atStart => exact ⟨0, Nat.zero_le _, rfl, ⟨_, MapF.made w, tal_start⟩, below_box _ _⟩
  case round =>
    obtain ⟨k, hk, rfl, hex, hbl⟩ := hrel
    by_cases hlt : k < n
    · obtain ⟨x, hx⟩ : ∃ x, xs[k]? = some x := ⟨xs[k]'(by have := HN.out; omega), List.getElem?_eq_some_iff.2 ⟨_, rfl⟩⟩
      have hcell := (hbl.out.cell (p := ⟨b, o + k, none⟩) hb).trans (HX.out k x hx)
      have hki : (k : Int) < (n : Int) := by omega
      have hxz := HZ.out x (List.mem_of_getElem? hx)
      have HXK := hide hx
      clear hx
      go_wp2_with fail
      refine (hash_ok x (hashT x) wr (by unfold maxLen at hxz; omega) rfl).mono ?_
      rintro e w1 ⟨rfl, hb1⟩
      obtain ⟨f, hf1, hf2⟩ := hex.out
      have HM := hide (hf1.below hb1)
      have HT := hide hf2
      have HB1 := hide (below_two hbl.out hb1)
      clear hb1 hf1 hf2 hcell
      go_wp2_with (at_mapUpdate; refine wpList_putF rfl _ _ _ rfl w.heap.size f rfl HM.out (hashT x) rfl 0 rfl ?_; intro w2 hm2 hg2; have HM2 := hide hm2; have HB2 := hide (HB1.out.grown hg2 HB1.out.size (fun j e => by cases e; exact Nat.le_refl _)); clear hm2 hg2)
      go_roundw
      case rel => exact ⟨k + 1, by omega, by go_num, ⟨_, HM2.out, HT.out.key (keys_step HXK.out)⟩, HB2⟩
      case measure => simp [intOf]; omega
    · have hki : (n : Int) ≤ (k : Int) := by omega
      have HF : Hid (∃ f, MapF wr w.heap.size f ∧ Tal (keysOf xs) (fun _ => false) 0 f) := by
        obtain ⟨f, h1, h2⟩ := hex.out
        refine ⟨f, h1, ?_⟩
        have e : xs.take k = xs := by rw [show k = xs.length by have := HN.out; omega, List.take_length]
        rw [e] at h2
        exact h2
      have HCS := hide (HS.out wr w.heap.size (keysOf xs) hbl.out (Nat.le_refl _) HF.out)
      clear hex HF
      go_wp2_with fail
      refine HCS.out.mono ?_
      rintro e w3 ⟨rfl, hf3, hg3⟩
      have HF3 := hide hf3
      have HB3 := hide (hbl.out.grown hg3 hbl.out.size (fun j e => by cases e; exact Nat.le_refl _))
      clear hf3 hg3 HCS hki hlt hk
      go_wp2
      go_loopw [8, 27] (fun v i wr => ∃ (k q : Nat) (a : Option Addr) (c2 : Nat), k ≤ n ∧ q ≤ k ∧ v = .slice a q c2 ∧ i = .int .i64 k ∧ Hid ((seenT act (xs.take k)).length = q) ∧ Hid (Own w.heap.size wr (.slice a q c2) (seenT act (xs.take k))) ∧ Hid (∃ f, MapF wr w.heap.size f ∧ ∃ d, Tal (keysOf xs) act d f) ∧ Hid (Below w.heap.size w wr)) (fun _ i _ => n - (intOf i).toNat)
      case atStart => exact ⟨0, 0, none, 0, Nat.zero_le _, Nat.le_refl _, rfl, rfl, rfl, Own.nil _ _, HF3, HB3⟩
      case round =>
        obtain ⟨k, q, a, c2, hk, hq, rfl, rfl, hlen, hown, hex, hbl⟩ := hrel
        by_cases hlt : k < n
        · obtain ⟨x, hx⟩ : ∃ x, xs[k]? = some x := ⟨xs[k]'(by have := HN.out; omega), List.getElem?_eq_some_iff.2 ⟨_, rfl⟩⟩
          have hcell := (hbl.out.cell (p := ⟨b, o + k, none⟩) hb).trans (HX.out k x hx)
          have hki : (k : Int) < (n : Int) := by omega
          have hxz := HZ.out x (List.mem_of_getElem? hx)
          have HXK := hide hx
          have HKEY : Hid (keysOf xs (hashT x) = true) := List.any_eq_true.2 ⟨x, List.mem_of_getElem? hx, by simp⟩
          clear hx
          go_wp2_with fail
          refine (hash_ok x (hashT x) wr (by unfold maxLen at hxz; omega) rfl).mono ?_
          rintro e w4 ⟨rfl, hb4⟩
          obtain ⟨f, hf1, d, hf2⟩ := hex.out
          obtain ⟨z, hz1, _, hz3⟩ := hf2.yes _ HKEY.out
          have HM := hide (hf1.below hb4)
          have HT := hide hf2
          have HB4 := hide (below_two hbl.out hb4)
          have HO4 := hide (hown.out.below hb4)
          have HZ3 := hide hz3
          have hat : Hid (atF f (hashT x) = (z : Int)) := by unfold atF; rw [hz1]; exact hide rfl
          have hw4 : w.heap.size ≤ w4.heap.size := HB4.out.size
          clear hb4 hf1 hf2 hcell hz1 hz3 hbl hown hex
          cases hact : act (hashT x) with
          | false =>
            have hzp : (z : Int) ≤ 0 := by
              have h1 := HZ3.out
              rw [hact] at h1
              simp at h1
              omega
            have HST : Hid (seenT act (xs.take (k + 1)) = seenT act (xs.take k)) := by
              have h1 := seen_step (act := act) HXK.out
              rw [hact, if_neg (by decide), List.append_nil] at h1
              exact h1
            clear hact
            go_wp2_with (at_lookup; refine wpList_getF rfl _ _ rfl w.heap.size f rfl HM.out (hashT x) rfl (z : Int) hat.out ?_)
            go_roundw
            case rel => exact ⟨k + 1, q, a, c2, by omega, by omega, rfl, by go_num, by rw [HST.out]; exact hlen, by rw [HST.out]; exact HO4, ⟨f, HM.out, d, HT.out⟩, HB4⟩
            case measure => simp [intOf]; omega
          | true =>
            have hzp : (0 : Int) < (z : Int) := by
              have h1 := HZ3.out
              rw [hact] at h1
              simp at h1
              omega
            have HST : Hid (seenT act (xs.take k) ++ [x] = seenT act (xs.take (k + 1))) := by
              have h1 := seen_step (act := act) HXK.out
              rw [hact, if_pos rfl] at h1
              exact h1.symm
            have HA5 := hide (arg_one w4 x)
            have HO5 := hide (HO4.out.alloc (.cells #[.string x] 9))
            clear hact
            go_wp2_with (first
              | (at_lookup; refine wpList_getF rfl _ _ rfl w.heap.size f rfl HM.out (hashT x) rfl (z : Int) hat.out ?_)
              | (at_builtin; refine wpList_append_one rfl _ _ rfl w.heap.size _ _ rfl HO5.out ⟨w4.heap.size, 0, none⟩ x rfl HA5.out q hlen.out _ HST.out ?c1 ?c2 ?_)
              | go_in)
            case c1 => omega
            case c2 => simp; omega
            intro b5 c5 w5 ho5 hg5
            have HM5 : Hid (MapF w5 w.heap.size f) := (HM.out.below (below_box w4 (.cells #[.string x] 9))).grown hg5 (row_not_map HO5.out (HM.out.below (below_box w4 _)))
            have HB5 : Hid (Below w.heap.size w w5) := (HB4.out.trans ((below_box w4 (.cells #[.string x] 9)).mono hw4)).trans (Own.grownBelow HO5.out hg5 (by simp; omega))
            have HO6 := hide ho5
            have HL6 : Hid ((seenT act (xs.take (k + 1))).length = q + 1) := by rw [← HST.out, List.length_append, hlen.out]; exact hide rfl
            clear ho5 hg5 HO5 HA5 HM HB4
            go_wp2
            go_roundw
            case rel => exact ⟨k + 1, q + 1, b5, c5, by omega, by omega, rfl, by go_num, HL6, HO6, ⟨f, HM5.out, d, HT.out⟩, HB5⟩
            case measure => simp [intOf]; omega
        · have hki : (n : Int) ≤ (k : Int) := by omega
          have HALL : Hid (xs.take k = xs) := by rw [show k = xs.length by have := HN.out; omega]; exact List.take_length
          rw [HALL.out] at hlen hown
          have hq9 : q < 1000000 := by omega
          clear hex HF3 HALL
          go_wp2_with fail
          refine (sortT_ok _ (seenT act xs) _ w.heap.size wr hown.out (by rw [hlen.out]; exact hq9) rfl).mono ?_
          rintro e w4 ⟨rfl, ho4, hg4⟩
          have HB4 := hide (hbl.out.trans (Own.grownBelow hown.out hg4 hbl.out.size))
          have HO4 := hide ho4
          have HL4 : Hid (((sortedL (plainT (seenT act xs))).map Hog.mk).length < 1000000) := by
            show _ < _
            rw [List.length_map, sortedL_len]
            unfold plainT
            rw [List.length_map, hlen.out]
            exact hq9
          clear ho4 hg4 hown
          go_wp2_with fail
          refine (compactT_ok _ _ R w.heap.size w4 HO4.out HL4.out ?_).mono ?_
          · rw [plain_mk, ← HR.out]
            rfl
          rintro e w5 ⟨a5, c5, rfl, ho5, hg5⟩
          have HB5 := hide (HB4.out.trans (Own.grownBelow HO4.out hg5 HB4.out.size))
          have HO5 := hide ho5
          clear ho5 hg5 HO4 HB4
          go_wp2
          go_ret
          exact ⟨a5, c5, rfl, HO5.out, HB5.out⟩

set_option maxRecDepth 100000 in
set_option maxHeartbeats 1000000 in
theorem standingT_none (B : Nat) (a : Option Addr) (c : Nat) (act : ByteArray → Bool) (w : World) (hS : Searches 30 #[.pointer (some ⟨B, 0, none⟩)] act w) :
    Calls Tryd.prog 29 #[.slice a 0 c, .func (.func 30) #[] #[.pointer (some ⟨B, 0, none⟩)]] w fun e w' => ∃ a' c', e = .returned (.slice a' 0 c') ∧ Own w.heap.size w' (.slice a' 0 c') [] ∧ Below w.heap.size w w' := by
  have HCS := hide (hS (w.alloc (.map #[] 0)) w.heap.size (keysOf []) (below_box _ _) (Nat.le_refl _) ⟨_, MapF.made w, tal_start⟩)
  have hmm := @run_makeMap Tryd.prog
  clear hS
  go_enter Tryd.func29, Tryd.ntmps29
  go_wp2
  clear hmm
  go_loopw [14] (fun i wr => i = .int .i64 0 ∧ Hid (wr = w.alloc (.map #[] 0))) (fun _ _ => 0)
  case atStart => exact ⟨rfl, rfl⟩
  case round =>
    obtain ⟨rfl, hwr⟩ := hrel
    go_wp2_with fail
    have HC2 := HCS
    rw [← hwr.out] at HC2
    refine HC2.out.mono ?_
    rintro e w3 ⟨rfl, _, hg3⟩
    have HB3 : Hid (Below w.heap.size w w3) := by
      rw [hwr.out] at hg3
      exact (below_box w _).grown hg3 (by simp) (fun j e => by cases e; exact Nat.le_refl _)
    clear hg3 HC2
    go_wp2
    go_loopw [8, 27] (fun v i wr => v = .slice none 0 0 ∧ i = .int .i64 0 ∧ Hid (wr = w3)) (fun _ _ _ => 0)
    case atStart => exact ⟨rfl, rfl, rfl⟩
    case round =>
      obtain ⟨rfl, rfl, hw3⟩ := hrel
      go_wp2_with fail
      refine (sortT_ok (.slice none 0 0) [] [] w.heap.size wr (Own.nil _ _) (by simp) (by simp [sortedL, plainT])).mono ?_
      rintro e w4 ⟨rfl, ho4, hg4⟩
      have HB4 : Hid (Below w.heap.size w w4) := by
        have h := HB3.out
        rw [← hw3.out] at h
        exact h.grown hg4 h.size (fun j e => by cases e)
      have HO4 := hide ho4
      clear ho4 hg4
      go_wp2_with fail
      refine (compactT_ok (.slice none 0 0) [] [] w.heap.size w4 HO4.out (by simp) rfl).mono ?_
      rintro e w5 ⟨a5, c5, rfl, ho5, hg5⟩
      have HB5 := hide (HB4.out.grown hg5 HB4.out.size (fun j e => by cases e))
      have HO5 := hide ho5
      clear ho5 hg5 HO4 HB4
      go_wp2
      go_ret
      exact ⟨a5, c5, rfl, HO5.out, HB5.out⟩

theorem told_nil (act : ByteArray → Bool) : toldT act [] = [] := by unfold toldT seenT plainT; rw [List.filter_nil, List.map_nil, Hog.pick_nil]; rfl
theorem standingT_all (B : Nat) (v : Value) (xs R : List ByteArray) (act : ByteArray → Bool) (w : World) (hv : Txt w v xs) (hl : xs.length < 900000) (hz : ∀ x ∈ xs, x.size ≤ maxLen) (hS : Searches 30 #[.pointer (some ⟨B, 0, none⟩)] act w) (hR : toldT act xs = R) :
    Calls Tryd.prog 29 #[v, .func (.func 30) #[] #[.pointer (some ⟨B, 0, none⟩)]] w fun e w' => ∃ a c', e = .returned (.slice a R.length c') ∧ Own w.heap.size w' (.slice a R.length c') R ∧ Below w.heap.size w w' := by
  rcases hv with ⟨rfl, a, c, rfl⟩ | ⟨b, o, c, rfl, _, hb, hcell⟩
  · rw [told_nil] at hR
    subst hR
    exact standingT_none B a c act w hS
  · exact standingT_ok B b o c xs.length xs R act w rfl hl hz hb hcell hS hR

set_option maxHeartbeats 400000 in
theorem tree_ok (u : Value) (ns : List Nd) (v : Value) (xs R : List ByteArray) (w : World) (hu : Nods w u ns) (hn : ns.length < 900000) (hd : ∀ x ∈ ns, x.2.2.size < 1000000) (hv : Txt w v xs) (hl : xs.length < 900000) (hz : ∀ x ∈ xs, x.size ≤ maxLen) (hR : toldT (hitN ns) xs = R) :
    Calls Tryd.prog 14 #[u, v] w fun e w' => ∃ a c', e = .returned (.slice a R.length c') ∧ Own w.heap.size w' (.slice a R.length c') R ∧ Below w.heap.size w w' := by
  have HB := hide (below_box w (.cells #[u] 31))
  have HC := hide (standingT_all w.heap.size v xs R (hitN ns) (w.alloc (.cells #[u] 31)) (hv.below HB.out) hl hz (tree1_ok w.heap.size u ns _ (by simp) hn hd (by simp) (hu.below HB.out)) hR)
  obtain ⟨av, cv, rfl⟩ := hv.form
  obtain ⟨au, cu, rfl⟩ := hu.form
  clear hv hz hR hu hd
  go_enter Tryd.func14, Tryd.ntmps14
  go_wp2_with fail
  refine HC.out.mono ?_
  rintro e w1 ⟨a, c, rfl, ho, hb⟩
  have HO : Hid (Own w.heap.size w1 (.slice a R.length c) R) := ho.base (by simp)
  have HB1 := hide (below_two HB.out hb)
  clear ho hb HC
  go_wp2
  go_ret
  exact ⟨a, c, rfl, HO.out, HB1.out⟩
end Go.Proofs.YtinjbijigjfdfaaDoor
