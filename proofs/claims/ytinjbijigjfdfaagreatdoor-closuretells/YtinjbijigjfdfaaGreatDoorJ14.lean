/- Texts that stand together, joined: X5, X6, X7, X8, X9. -/
import Derived.Test.YtinjbijigjfdfaaGreatDoorJ8
import Derived.Test.YtinjbijigjfdfaaGreatDoorT1
import Derived.Test.YtinjbijigjfdfaaGreatDoorR8
import Derived.Test.YtinjbijigjfdfaaGreatDoorJ6
import Derived.Deep.RegionHeld
import Derived.RegionTactic
/- Items in memory; the walks of item's May and Same. -/
namespace Go.Proofs.YtinjbijigjfdfaaGreatDoor
open Go.RowKit

/-- An item: its name, its references, its tree. -/
abbrev It := ByteArray × List ByteArray × List Nd
def mayI (i : It) : Bool := Hog.nameL i.1.data.toList && refsB i.2.1 && ownB i.2.2
/-- Neither its name, nor its references, nor its paths are too long to be gone through. -/
structure Fair (i : It) : Prop where
  name : i.1.size < 900000
  refs : i.2.1.length < 900000
  ref : ∀ x ∈ i.2.1, x.size < 900000
  tree : i.2.2.length < 900000
  path : ∀ n ∈ i.2.2, n.1.size < 900000 ∧ n.2.2.size < 900000

/-- The cells of an item, as a struct has them. -/
def icells (nm : ByteArray) (ra : Option Addr) (rn rc : Nat) (ta : Option Addr) (tn tc : Nat) : Obj := .cells #[.string nm, .slice ra rn rc, .slice ta tn tc] 29

set_option maxRecDepth 100000 in
set_option maxHeartbeats 1000000 in
theorem mayI_ok (i : It) (ra : Option Addr) (rn rc : Nat) (ta : Option Addr) (tn tc : Nat) (r : Bool) (w0 w : World) (hok : Ok w0 w) (hf : Fair i) (hr : Txt w (.slice ra rn rc) i.2.1) (ht : Nods w (.slice ta tn tc) i.2.2) (hv : mayI i = r) :
    Calls Tryz.prog 44 #[.agg #[.string i.1, .slice ra rn rc, .slice ta tn tc]] w fun e w' => e = .returned (.bool r) ∧ Ok w0 w' ∧ Below w.heap.size w w' := by
  have HV := hide hv
  have hnm := hf.name
  have HF := hide hf
  have HB0 := hide (below_box w (icells i.1 ra rn rc ta tn tc))
  have OK0 := hide (hok.alloc (icells i.1 ra rn rc ta tn tc))
  have HT := hide hr
  have HN := hide ht
  have c0 : (w.alloc (icells i.1 ra rn rc ta tn tc)).cell? ⟨w.heap.size, 0, none⟩ = some (.string i.1) := by simp [icells]
  have c1 : (w.alloc (icells i.1 ra rn rc ta tn tc)).cell? ⟨w.heap.size, 1, none⟩ = some (.slice ra rn rc) := by simp [icells]
  have c2 : (w.alloc (icells i.1 ra rn rc ta tn tc)).cell? ⟨w.heap.size, 2, none⟩ = some (.slice ta tn tc) := by simp [icells]
  have hsz : w.heap.size < (w.alloc (icells i.1 ra rn rc ta tn tc)).heap.size := by simp
  clear hv hf hr ht
  cases h1 : Hog.nameL i.1.data.toList with
  | false =>
    have H1 := hide h1
    clear h1
    go_enter Tryz.func44, Tryz.ntmps44
    go_wp2_with fail
    refine (name_ok i.1 false _ (by omega) H1.out).mono ?_
    rintro e w1 ⟨rfl, hb1⟩
    go_wp2
    go_ret
    exact ⟨ret_bool (by rw [← HV.out]; unfold mayI; rw [H1.out]; rfl), OK0.out.next hb1, below_two HB0.out hb1⟩
  | true =>
    have H1 := hide h1
    clear h1
    cases h2 : refsB i.2.1 with
    | false =>
      have H2 := hide h2
      clear h2
      go_enter Tryz.func44, Tryz.ntmps44
      go_wp2_with fail
      refine (name_ok i.1 true _ (by omega) H1.out).mono ?_
      rintro e w1 ⟨rfl, hb1⟩
      have d1 := (hb1.cell (p := ⟨w.heap.size, 1, none⟩) hsz).trans c1
      have HB1 := hide (below_two HB0.out hb1)
      have OK1 := hide (OK0.out.next hb1)
      clear hb1 c0 c1 c2
      go_wp2_with fail
      refine (refer_ok _ i.2.1 false _ (HT.out.below HB1.out) (by have := HF.out.refs; unfold maxLen; omega) (fun x hx => by have := HF.out.ref x hx; omega) H2.out).mono ?_
      rintro e w2 ⟨rfl, hb2⟩
      go_wp2
      go_ret
      exact ⟨ret_bool (by rw [← HV.out]; unfold mayI; rw [H1.out, H2.out]; rfl), OK1.out.next hb2, below_two HB1.out hb2⟩
    | true =>
      have H2 := hide h2
      clear h2
      have H3 : Hid (ownB i.2.2 = r) := by
        rw [← HV.out]; unfold mayI; rw [H1.out, H2.out]; exact (Bool.true_and _).symm
      go_enter Tryz.func44, Tryz.ntmps44
      go_wp2_with fail
      refine (name_ok i.1 true _ (by omega) H1.out).mono ?_
      rintro e w1 ⟨rfl, hb1⟩
      have d1 := (hb1.cell (p := ⟨w.heap.size, 1, none⟩) hsz).trans c1
      have d2 := (hb1.cell (p := ⟨w.heap.size, 2, none⟩) hsz).trans c2
      have hsz1 : w.heap.size < w1.heap.size := Nat.lt_of_lt_of_le hsz hb1.size
      have HB1 := hide (below_two HB0.out hb1)
      have OK1 := hide (OK0.out.next hb1)
      clear hb1 c0 c1 c2 hsz
      go_wp2_with fail
      refine (refer_ok _ i.2.1 true _ (HT.out.below HB1.out) (by have := HF.out.refs; unfold maxLen; omega) (fun x hx => by have := HF.out.ref x hx; omega) H2.out).mono ?_
      rintro e w2 ⟨rfl, hb2⟩
      have f2 := (hb2.cell (p := ⟨w.heap.size, 2, none⟩) hsz1).trans d2
      have HB2 := hide (below_two HB1.out hb2)
      have OK2 := hide (OK1.out.next hb2)
      clear hb2 d1 d2
      go_wp2_with fail
      refine (stand_ok _ i.2.2 r w0 _ OK2.out (HN.out.below HB2.out) (by have := HF.out.tree; unfold maxLen; omega) (fun x hx => (HF.out.path x hx).1) H3.out).mono ?_
      rintro e w3 ⟨rfl, ok3, hb3⟩
      go_wp2
      go_ret
      exact ⟨rfl, ok3, below_two HB2.out hb3⟩
end Go.Proofs.YtinjbijigjfdfaaGreatDoor
/- The walks of slices.Equal at texts, of item's Same, of the document's own SameTexts and Same. -/
namespace Go.Proofs.YtinjbijigjfdfaaGreatDoor
open Go.RowKit

theorem eqT_less (a b : Option Addr) (n m c d : Nat) (w : World) (h : n ≠ m) :
    Calls Tryz.prog 46 #[.slice a n c, .slice b m d] w fun e w' => e = .returned (.bool false) ∧ w' = w := by
  have h1 : ((n : Int) != (m : Int)) = true := by rw [bne_iff_ne]; omega
  go_enter Tryz.func46, Tryz.ntmps46
  go_wp2
  go_ret
  exact ⟨rfl, rfl⟩
theorem eqT_none (a b : Option Addr) (c d : Nat) (w : World) :
    Calls Tryz.prog 46 #[.slice a 0 c, .slice b 0 d] w fun e w' => e = .returned (.bool true) ∧ w' = w := by
  go_enter Tryz.func46, Tryz.ntmps46
  go_wp2
  go_loop [5, 13] (fun _ i => i = .int .i64 0) (fun _ _ => 0)
  case atStart => rfl
  case round =>
    subst hrel
    go_wp2
    go_ret
    exact ⟨rfl, rfl⟩
set_option maxHeartbeats 800000 in
theorem eqT_some (b o c b' o' c' n : Nat) (xs ys : List ByteArray) (w : World) (hn : n < 1000000) (hnx : n = xs.length) (hny : n = ys.length)
    (hb : b < w.heap.size) (hb' : b' < w.heap.size)
    (hx : ∀ (j : Nat) x, xs[j]? = some x → w.cell? ⟨b, o + j, none⟩ = some (.string x)) (hy : ∀ (j : Nat) x, ys[j]? = some x → w.cell? ⟨b', o' + j, none⟩ = some (.string x)) :
    Calls Tryz.prog 46 #[.slice (some ⟨b, o, none⟩) n c, .slice (some ⟨b', o', none⟩) n c'] w fun e w' => e = .returned (.bool (decide (xs = ys))) ∧ Below w.heap.size w w' := by
  have HX := hx
  have HCX : Hid (∀ (j : Nat) x, xs[j]? = some x → w.cell? ⟨b, o + j, none⟩ = some (.string x)) := hx
  have HCY : Hid (∀ (j : Nat) x, ys[j]? = some x → w.cell? ⟨b', o' + j, none⟩ = some (.string x)) := hy
  have HNX : Hid (n = xs.length) := hnx
  have HNY : Hid (n = ys.length) := hny
  clear hx hy hnx hny HX
  have hne : ((n : Int) != (n : Int)) = false := by simp
  go_enter Tryz.func46, Tryz.ntmps46
  go_wp2
  go_loopw [5, 13] (fun _ i wr => ∃ k : Nat, k ≤ n ∧ i = .int .i64 k ∧ Hid (xs.take k = ys.take k) ∧ Below w.heap.size w wr) (fun _ i _ => n - (intOf i).toNat)
  case atStart => exact ⟨0, Nat.zero_le _, rfl, rfl, Below.refl _ _⟩
  case round =>
    obtain ⟨k, hk, rfl, hsame, hbl⟩ := hrel
    by_cases hlt : k < n
    · obtain ⟨x, hx⟩ : ∃ x, xs[k]? = some x := ⟨xs[k]'(by have := HNX.out; omega), List.getElem?_eq_some_iff.2 ⟨_, rfl⟩⟩
      obtain ⟨y, hy⟩ : ∃ y, ys[k]? = some y := ⟨ys[k]'(by have := HNY.out; omega), List.getElem?_eq_some_iff.2 ⟨_, rfl⟩⟩
      have hcx : wr.cell? ⟨b, o + k, none⟩ = some (.string x) := (hbl.cell (p := ⟨b, o + k, none⟩) hb).trans (HCX.out k x hx)
      have hcy : wr.cell? ⟨b', o' + k, none⟩ = some (.string y) := (hbl.cell (p := ⟨b', o' + k, none⟩) hb').trans (HCY.out k y hy)
      have hki : (k : Int) < (n : Int) := by omega
      have HXK : Hid (xs[k]? = some x) := hx
      have HYK : Hid (ys[k]? = some y) := hy
      clear hx hy
      go_wp2
      go_quiet (fail)
      go_wp2
      · have hne : (!x.toList == y.toList) = true := by assumption
        go_ret
        refine ⟨ret_bool ?_, below_drewN hbl nq⟩
        symm
        rw [decide_eq_false_iff_not]
        intro e
        have h3 : x = y := Option.some.inj (HXK.out.symm.trans ((congrArg (fun l => l[k]?) e).trans HYK.out))
        rw [h3] at hne
        simp at hne
      · have heq : (!x.toList == y.toList) = false := by assumption
        have he : x = y := by
          have h3 : x.toList = y.toList := by simpa using heq
          rw [Lib.toList_data, Lib.toList_data] at h3
          rw [← Hog.data_mk x, ← Hog.data_mk y, h3]
        go_roundw
        case rel => exact ⟨k + 1, by omega, by go_num, take_same hsame.out HXK.out HYK.out he, below_drewN hbl nq⟩
        case measure => simp [intOf]; omega
    · go_wp2
      go_ret
      refine ⟨ret_bool ?_, hbl⟩
      have e : k = n := by omega
      have h1 := hsame.out
      rw [e] at h1
      have h2 : xs = ys := by
        rw [HNX.out] at h1
        have h3 := HNX.out.symm.trans HNY.out
        rw [List.take_length] at h1
        rw [h1, h3, List.take_length]
      rw [h2]; simp
theorem eqT_any (v u : Value) (xs ys : List ByteArray) (w : World) (hv : Txt w v xs) (hu : Txt w u ys) (hx : xs.length < 1000000) :
    Calls Tryz.prog 46 #[v, u] w fun e w' => e = .returned (.bool (decide (xs = ys))) ∧ Below w.heap.size w w' := by
  by_cases hl : xs.length = ys.length
  · rcases hv with ⟨rfl, a, c, rfl⟩ | ⟨b, o, c, rfl, hc, hb, hcell⟩
    · have hy : ys = [] := List.eq_nil_of_length_eq_zero hl.symm
      subst hy
      rcases hu with ⟨_, a', c', rfl⟩ | ⟨b', o', c', rfl, _, _, _⟩
      · refine (eqT_none a a' c c' w).mono ?_
        rintro e w' ⟨rfl, rfl⟩
        exact ⟨rfl, Below.refl _ _⟩
      · refine (eqT_none a (some ⟨b', o', none⟩) c c' w).mono ?_
        rintro e w' ⟨rfl, rfl⟩
        exact ⟨rfl, Below.refl _ _⟩
    · rcases hu with ⟨rfl, a', c', rfl⟩ | ⟨b', o', c', rfl, _, hb', hcell'⟩
      · have hx0 : xs = [] := List.eq_nil_of_length_eq_zero hl
        subst hx0
        refine (eqT_none (some ⟨b, o, none⟩) a' c c' w).mono ?_
        rintro e w' ⟨rfl, rfl⟩
        exact ⟨rfl, Below.refl _ _⟩
      · rw [← hl]
        exact eqT_some b o c b' o' c' xs.length xs ys w hx rfl hl hb hb' hcell hcell'
  · have he : decide (xs = ys) = false := by rw [decide_eq_false_iff_not]; intro e; exact hl (congrArg List.length e)
    rw [he]
    have hv' : ∃ a c, v = .slice a xs.length c := by
      rcases hv with ⟨rfl, a, c, rfl⟩ | ⟨b, o, c, rfl, _⟩
      · exact ⟨a, c, rfl⟩
      · exact ⟨_, c, rfl⟩
    have hu' : ∃ a c, u = .slice a ys.length c := by
      rcases hu with ⟨rfl, a, c, rfl⟩ | ⟨b, o, c, rfl, _⟩
      · exact ⟨a, c, rfl⟩
      · exact ⟨_, c, rfl⟩
    obtain ⟨a, c, rfl⟩ := hv'
    obtain ⟨a', c', rfl⟩ := hu'
    refine (eqT_less a a' xs.length ys.length c c' w hl).mono ?_
    rintro e w' ⟨rfl, rfl⟩
    exact ⟨rfl, Below.refl _ _⟩
theorem rsT_less (a b : Option Addr) (n m c d : Nat) (w : World) (h : n ≠ m) :
    Calls Tryz.prog 35 #[.slice a n c, .slice b m d] w fun e w' => e = .returned (.bool false) ∧ w' = w := by
  have h1 : ((n : Int) != (m : Int)) = true := by rw [bne_iff_ne]; omega
  go_enter Tryz.func35, Tryz.ntmps35
  go_wp2
  go_ret
  exact ⟨rfl, rfl⟩
theorem rsT_none (a b : Option Addr) (c d : Nat) (w : World) :
    Calls Tryz.prog 35 #[.slice a 0 c, .slice b 0 d] w fun e w' => e = .returned (.bool true) ∧ w' = w := by
  go_enter Tryz.func35, Tryz.ntmps35
  go_wp2
  go_loop [5] (fun i => i = .int .i64 0) (fun _ => 0)
  case atStart => rfl
  case round =>
    subst hrel
    go_wp2
    go_ret
    exact ⟨rfl, rfl⟩
set_option maxHeartbeats 800000 in
theorem rsT_some (b o c b' o' c' n : Nat) (xs ys : List ByteArray) (w : World) (hn : n < 1000000) (hnx : n = xs.length) (hny : n = ys.length)
    (hb : b < w.heap.size) (hb' : b' < w.heap.size)
    (hx : ∀ (j : Nat) x, xs[j]? = some x → w.cell? ⟨b, o + j, none⟩ = some (.string x)) (hy : ∀ (j : Nat) x, ys[j]? = some x → w.cell? ⟨b', o' + j, none⟩ = some (.string x)) :
    Calls Tryz.prog 35 #[.slice (some ⟨b, o, none⟩) n c, .slice (some ⟨b', o', none⟩) n c'] w fun e w' => e = .returned (.bool (decide (xs = ys))) ∧ Below w.heap.size w w' := by
  have HX := hx
  have HCX : Hid (∀ (j : Nat) x, xs[j]? = some x → w.cell? ⟨b, o + j, none⟩ = some (.string x)) := hx
  have HCY : Hid (∀ (j : Nat) x, ys[j]? = some x → w.cell? ⟨b', o' + j, none⟩ = some (.string x)) := hy
  have HNX : Hid (n = xs.length) := hnx
  have HNY : Hid (n = ys.length) := hny
  clear hx hy hnx hny HX
  have hne : ((n : Int) != (n : Int)) = false := by simp
  go_enter Tryz.func35, Tryz.ntmps35
  go_wp2
  go_loopw [5] (fun i wr => ∃ k : Nat, k ≤ n ∧ i = .int .i64 k ∧ Hid (xs.take k = ys.take k) ∧ Below w.heap.size w wr) (fun i _ => n - (intOf i).toNat)
  case atStart => exact ⟨0, Nat.zero_le _, rfl, rfl, Below.refl _ _⟩
  case round =>
    obtain ⟨k, hk, rfl, hsame, hbl⟩ := hrel
    by_cases hlt : k < n
    · obtain ⟨x, hx⟩ : ∃ x, xs[k]? = some x := ⟨xs[k]'(by have := HNX.out; omega), List.getElem?_eq_some_iff.2 ⟨_, rfl⟩⟩
      obtain ⟨y, hy⟩ : ∃ y, ys[k]? = some y := ⟨ys[k]'(by have := HNY.out; omega), List.getElem?_eq_some_iff.2 ⟨_, rfl⟩⟩
      have hcx : wr.cell? ⟨b, o + k, none⟩ = some (.string x) := (hbl.cell (p := ⟨b, o + k, none⟩) hb).trans (HCX.out k x hx)
      have hcy : wr.cell? ⟨b', o' + k, none⟩ = some (.string y) := (hbl.cell (p := ⟨b', o' + k, none⟩) hb').trans (HCY.out k y hy)
      have hki : (k : Int) < (n : Int) := by omega
      have HXK : Hid (xs[k]? = some x) := hx
      have HYK : Hid (ys[k]? = some y) := hy
      clear hx hy
      go_wp2
      go_quiet (fail)
      go_wp2
      · have hne : (!x.toList == y.toList) = true := by assumption
        go_ret
        refine ⟨ret_bool ?_, below_drewN hbl nq⟩
        symm
        rw [decide_eq_false_iff_not]
        intro e
        have h3 : x = y := Option.some.inj (HXK.out.symm.trans ((congrArg (fun l => l[k]?) e).trans HYK.out))
        rw [h3] at hne
        simp at hne
      · have heq : (!x.toList == y.toList) = false := by assumption
        have he : x = y := by
          have h3 : x.toList = y.toList := by simpa using heq
          rw [Lib.toList_data, Lib.toList_data] at h3
          rw [← Hog.data_mk x, ← Hog.data_mk y, h3]
        go_roundw
        case rel => exact ⟨k + 1, by omega, by go_num, take_same hsame.out HXK.out HYK.out he, below_drewN hbl nq⟩
        case measure => simp [intOf]; omega
    · go_wp2
      go_ret
      refine ⟨ret_bool ?_, hbl⟩
      have e : k = n := by omega
      have h1 := hsame.out
      rw [e] at h1
      have h2 : xs = ys := by
        rw [HNX.out] at h1
        have h3 := HNX.out.symm.trans HNY.out
        rw [List.take_length] at h1
        rw [h1, h3, List.take_length]
      rw [h2]; simp
theorem rsT_any (v u : Value) (xs ys : List ByteArray) (w : World) (hv : Txt w v xs) (hu : Txt w u ys) (hx : xs.length < 1000000) :
    Calls Tryz.prog 35 #[v, u] w fun e w' => e = .returned (.bool (decide (xs = ys))) ∧ Below w.heap.size w w' := by
  by_cases hl : xs.length = ys.length
  · rcases hv with ⟨rfl, a, c, rfl⟩ | ⟨b, o, c, rfl, hc, hb, hcell⟩
    · have hy : ys = [] := List.eq_nil_of_length_eq_zero hl.symm
      subst hy
      rcases hu with ⟨_, a', c', rfl⟩ | ⟨b', o', c', rfl, _, _, _⟩
      · refine (rsT_none a a' c c' w).mono ?_
        rintro e w' ⟨rfl, rfl⟩
        exact ⟨rfl, Below.refl _ _⟩
      · refine (rsT_none a (some ⟨b', o', none⟩) c c' w).mono ?_
        rintro e w' ⟨rfl, rfl⟩
        exact ⟨rfl, Below.refl _ _⟩
    · rcases hu with ⟨rfl, a', c', rfl⟩ | ⟨b', o', c', rfl, _, hb', hcell'⟩
      · have hx0 : xs = [] := List.eq_nil_of_length_eq_zero hl
        subst hx0
        refine (rsT_none (some ⟨b, o, none⟩) a' c c' w).mono ?_
        rintro e w' ⟨rfl, rfl⟩
        exact ⟨rfl, Below.refl _ _⟩
      · rw [← hl]
        exact rsT_some b o c b' o' c' xs.length xs ys w hx rfl hl hb hb' hcell hcell'
  · have he : decide (xs = ys) = false := by rw [decide_eq_false_iff_not]; intro e; exact hl (congrArg List.length e)
    rw [he]
    have hv' : ∃ a c, v = .slice a xs.length c := by
      rcases hv with ⟨rfl, a, c, rfl⟩ | ⟨b, o, c, rfl, _⟩
      · exact ⟨a, c, rfl⟩
      · exact ⟨_, c, rfl⟩
    have hu' : ∃ a c, u = .slice a ys.length c := by
      rcases hu with ⟨rfl, a, c, rfl⟩ | ⟨b, o, c, rfl, _⟩
      · exact ⟨a, c, rfl⟩
      · exact ⟨_, c, rfl⟩
    obtain ⟨a, c, rfl⟩ := hv'
    obtain ⟨a', c', rfl⟩ := hu'
    refine (rsT_less a a' xs.length ys.length c c' w hl).mono ?_
    rintro e w' ⟨rfl, rfl⟩
    exact ⟨rfl, Below.refl _ _⟩
end Go.Proofs.YtinjbijigjfdfaaGreatDoor
/- Texts that were handed in, appended and cloned; OverTexts, and which block it turns. -/
namespace Go.Proofs.YtinjbijigjfdfaaGreatDoor
open Go.RowKit

theorem strs_one (ys : List ByteArray) : ∀ z ∈ ys.map Value.string, z.oneCell' = true := by
  intro z hz
  obtain ⟨y, _, rfl⟩ := List.mem_map.1 hz
  rfl
theorem wpList_append_arg {w : World} {ops : Array Oper} {rest : List Oper} {o : Oper} {a : Act} {Q : Exit → Act → World → Prop} (hgd : o.guard = none) (s x : Operand)
    (ho : o.op = .call { callee := .builtin .append, args := #[s, x], argTypes := #[23, 23] })
    (base : Nat) (v : Value) (xs : List ByteArray) (hs : a.eval s = v) (hown : Own base w v xs) (ao : Option Addr) (m c : Nat) (ys : List ByteArray) (hx : a.eval x = .slice ao m c) (hu : Arg w ao m c ys)
    (hlen : xs.length + ys.length < 1000000) (hbase : base ≤ w.heap.size)
    (h : ∀ b c w', Own base w' (.slice b (xs.length + ys.length) c) (xs ++ ys) → Below base w w' → wpList Tryz.prog ops Q rest (a.put o.dst (.slice b (xs.length + ys.length) c)) w') : wpList Tryz.prog ops Q (o :: rest) a w := by
  obtain ⟨i0, hi, hz0, hz1, hz2⟩ := info_parts A9
  cases ao with
  | none =>
    obtain ⟨rfl, rfl⟩ := hu.none rfl
    have hy : ys = [] := List.eq_nil_of_length_eq_zero hu.len
    subst hy
    obtain ⟨b, c, e⟩ := hown.form
    subst e
    refine wpList_append_own_none hgd s x 23 ho base 9 i0 1 Tryz.underlying23 hi _ _ _ hs hown hx ?_
    exact h b c w (by simpa using hown) (Below.refl _ _)
  | some ad =>
    obtain rfl := hu.len
    refine wpList_append_own w hgd s x 23 ho base 9 i0 (.string ByteArray.empty) 1 16 Tryz.underlying23 hi hz0 hz1 hz2 rfl (by decide) v xs.length (xs.map Value.string) hs hown ad ys.length c (ys.map Value.string) hx (by simp) (hu.cell ad rfl) (strs_one ys) (by unfold maxLen; omega) (by omega) hbase ?_
    intro v' w' h1 h2 _
    have h3 : Own base w' v' (xs ++ ys) := Own.joined h1
    obtain ⟨b, c, e⟩ := h3.form
    rw [List.length_append] at e
    subst e
    exact h b c w' h3 (Own.grownBelow hown h2 hbase)
theorem wpList_append_whereT {w : World} {ops : Array Oper} {rest : List Oper} {o : Oper} {a : Act} {Q : Exit → Act → World → Prop} (hgd : o.guard = none) (s x : Operand)
    (ho : o.op = .call { callee := .builtin .append, args := #[s, x], argTypes := #[23, 23] })
    (base : Nat) (v : Value) (xs : List ByteArray) (hs : a.eval s = v) (hown : Own base w v xs) (ad : Addr) (m c : Nat) (ys : List ByteArray) (hx : a.eval x = .slice (some ad) m c) (hu : Arg w (some ad) m c ys)
    (hlen : xs.length + ys.length < 1000000) (hbase : base ≤ w.heap.size)
    (h : ∀ b c w', Own base w' (.slice b (xs.length + ys.length) c) (xs ++ ys) → w.grownBy w' v.ownBlock → Stays w v (.slice b (xs.length + ys.length) c) → wpList Tryz.prog ops Q rest (a.put o.dst (.slice b (xs.length + ys.length) c)) w') : wpList Tryz.prog ops Q (o :: rest) a w := by
  obtain ⟨i0, hi, hz0, hz1, hz2⟩ := info_parts A9
  obtain rfl := hu.len
  refine wpList_plain hgd fun K hK => ?_
  obtain ⟨v', w', hr, h2, h3, h4⟩ := run_append_where (P := Tryz.prog) w base 23 o.type 9 i0 (.string ByteArray.empty) 1 16 Tryz.underlying23 hi hz0 hz1 hz2 rfl (by decide) v xs.length (xs.map Value.string) hown ad ys.length c (ys.map Value.string) (by simp) (hu.cell ad rfl) (strs_one ys) (by unfold maxLen; omega) (by omega) hbase
  have h5 : Own base w' v' (xs ++ ys) := Own.joined h2
  obtain ⟨b, c', e⟩ := h5.form
  rw [List.length_append] at e
  subst e
  unfold Oper.wp execOp
  simp only [ho, resolve, invoke, builtin, Sem.run_bind, Sem.run_pure, Result.andThen_ok, List.map_toArray, List.map_cons, List.map_nil, hs, hx, hr]
  exact hK _ _ (h b c' w' h5 h3 h4)

theorem arg_one (w : World) (x : ByteArray) : Arg (w.alloc (.cells #[.string x] 9)) (some ⟨w.heap.size, 0, none⟩) 1 1 [x] := by
  refine ⟨rfl, by simp, Nat.le_refl _, fun ad e j u hu => ?_⟩
  cases e
  match j, hu with
  | 0, hu => simp at hu; subst hu; simp [add_plain]
  | j + 1, hu => simp at hu
theorem Own.empty (base : Nat) (w : World) (hb : base ≤ w.heap.size) : Own base (w.alloc (.cells #[] 9)) (.slice (some ⟨w.heap.size, 0, none⟩) 0 0) [] :=
  ⟨rfl, .inr ⟨w.heap.size, 0, #[], rfl, hb, heap_alloc_new w _, Nat.le_refl _, by unfold maxLen; omega, rfl, rfl⟩⟩

set_option maxRecDepth 100000 in
set_option maxHeartbeats 800000 in
theorem cloneT_ok (ao : Option Addr) (n c : Nat) (xs : List ByteArray) (w : World) (h : Arg w ao n c xs) (hn : n < 900000) :
    Calls Tryz.prog 39 #[.slice ao n c] w fun e w' => ∃ a' c', e = .returned (.slice a' n c') ∧ Own w.heap.size w' (.slice a' n c') xs ∧ Below w.heap.size w w' := by
  cases ao with
  | none =>
    obtain ⟨rfl, rfl⟩ := h.none rfl
    have hy : xs = [] := List.eq_nil_of_length_eq_zero h.len
    subst hy
    have hq := fun w => eql_slice_none _ _ 0 0 w Tryz.underlying23
    go_enter Tryz.func39, Tryz.ntmps39
    go_wp2
    go_ret
    exact ⟨_, _, rfl, Own.nil _ _, Below.refl _ _⟩
  | some ad =>
    have HA := hide h
    have HL := hide h.len
    clear h
    have hq := fun w => eql_slice_some _ _ ad n c w Tryz.underlying23
    go_enter Tryz.func39, Tryz.ntmps39
    have HA1 := hide (HA.out.below (below_box w (.cells #[] 9)))
    go_wp2_with (at_builtin; refine wpList_append_arg rfl _ _ rfl w.heap.size _ [] rfl (Own.empty _ _ (Nat.le_refl _)) _ _ _ xs rfl HA1.out (by rw [HL.out]; simp; omega) (by simp) ?_)
    intro b1 c1 w1 ho hb
    have HO := hide ho
    have HB := hide ((below_box w (.cells #[] 9)).trans hb)
    clear ho hb
    rw [HL.out] at HO
    go_wp2
    go_ret
    exact ⟨b1, c1, by rw [HL.out]; rfl, HO.out, HB.out⟩
set_option maxRecDepth 100000 in
set_option maxHeartbeats 800000 in
theorem overT_none (w : World) :
    Calls Tryz.prog 18 #[.slice none 0 0] w fun e w' => e = .returned (.tuple #[]) ∧ w.grownBy w' none := by
  have HA := hide (arg_one w ⟨#[111, 118, 101, 114]⟩)
  go_enter Tryz.func18, Tryz.ntmps18
  go_wp2
  go_loop [2] (fun i => i = .int .i64 0) (fun _ => 0)
  case atStart => rfl
  case round =>
    subst hrel
    go_wp2_with (at_builtin; refine wpList_append_whereT rfl _ _ rfl 0 _ [] rfl (Own.nil _ _) _ _ _ [⟨#[111, 118, 101, 114]⟩] rfl HA.out (by simp) (by simp) ?_)
    intro b c w1 _ hb1 _
    go_wp2
    go_end0
    exact ⟨rfl, grown_trans (grown_box _ _ _) hb1⟩
set_option maxRecDepth 100000 in
set_option maxHeartbeats 800000 in
theorem overT_some (base g cap : Nat) (xs : List ByteArray) (w : World) (hb : base ≤ w.heap.size) (h : Own base w (.slice (some ⟨g, 0, none⟩) xs.length cap) xs) (hl : xs.length < 900000) :
    Calls Tryz.prog 18 #[.slice (some ⟨g, 0, none⟩) xs.length cap] w fun e w' => e = .returned (.tuple #[]) ∧ w.grownBy w' (some g) := by
  obtain ⟨n, hn⟩ : ∃ n, n = xs.length := ⟨_, rfl⟩
  have HO := hide h
  have HN := hide hn
  rw [← hn] at hl ⊢
  clear h hn
  go_enter Tryz.func18, Tryz.ntmps18
  go_wp2
  go_loopw [2] (fun i wr => ∃ k : Nat, k ≤ n ∧ i = .int .i64 k ∧ Hid (∃ ys : List ByteArray, ys.length = n ∧ Own base wr (.slice (some ⟨g, 0, none⟩) ys.length cap) ys) ∧ w.grownBy wr (some g)) (fun i _ => n - (intOf i).toNat)
  case atStart => exact ⟨0, Nat.zero_le _, rfl, ⟨xs, HN.out.symm, HO.out⟩, grown_refl _ _⟩
  case round =>
    obtain ⟨k, hk, rfl, hys, hbl⟩ := hrel
    obtain ⟨ys, hyn, hown⟩ := hys.out
    have HO2 := hide hown
    have HY := hide hyn
    clear hys hown hyn
    have hbs := hbl.size
    by_cases hlt : k < n
    · have hf : wr.frozen? ⟨g, k, none⟩ = false := World.ownsRow.frozenAt HO2.out k
      obtain ⟨y, hy⟩ : ∃ y, ys[k]? = some y := ⟨ys[k]'(by have := HY.out; omega), List.getElem?_eq_some_iff.2 ⟨_, rfl⟩⟩
      have hc : wr.cell? ⟨g, k, none⟩ = some (.string y) := by
        have h1 := World.ownsRow.cellAt HO2.out k (by have := HY.out; omega)
        rw [h1]; simp [hy]
      clear hy
      go_wp2
      go_roundw
      case rel =>
        refine ⟨k + 1, by omega, by go_num, ⟨ys.set k ⟨#[111, 118, 101, 114]⟩, by rw [List.length_set]; exact HY.out, HO2.out.stored k _⟩, grown_trans hbl (grown_setCell _ g k _)⟩
      case measure => simp [intOf]; omega
    · have HO3 := hide (HO2.out.alloc (.cells #[.string ⟨#[111, 118, 101, 114]⟩] 9))
      rw [HY.out] at HO3
      have HA := hide (arg_one wr ⟨#[111, 118, 101, 114]⟩)
      go_wp2_with (at_builtin; refine wpList_append_whereT rfl _ _ rfl base _ ys rfl HO3.out _ _ _ [⟨#[111, 118, 101, 114]⟩] rfl HA.out (by simp; have := HY.out; omega) (by simp; omega) ?_)
      intro b c w1 _ hb1 _
      go_wp2
      go_end0
      exact ⟨rfl, grown_trans hbl (grown_trans (grown_box _ _ _) hb1)⟩
theorem overT_ok (v : Value) (xs : List ByteArray) (base : Nat) (w : World) (ho : Own base w v xs) (hbw : base ≤ w.heap.size) (hl : xs.length < 900000) :
    Calls Tryz.prog 18 #[v] w fun e w' => e = .returned (.tuple #[]) ∧ w.grownBy w' v.ownBlock := by
  obtain ⟨_, h2⟩ := id ho
  rcases h2 with ⟨rfl, _⟩ | ⟨g, cap, cur, rfl, _⟩
  · exact overT_none w
  · exact overT_some base g cap xs w hbw ho hl
end Go.Proofs.YtinjbijigjfdfaaGreatDoor
/- The walk of item's Own. -/
namespace Go.Proofs.YtinjbijigjfdfaaGreatDoor
open Go.RowKit

theorem cloneN_ok (ao : Option Addr) (n c : Nat) (ns : List Nd) (w : World) (h : ArgN w ao n c ns) (hn : n < 900000) :
    Calls Tryz.prog 40 #[.slice ao n c] w fun e w' => ∃ a' c', e = .returned (.slice a' n c') ∧ OwnN w.heap.size w' (.slice a' n c') ns ∧ Below w.heap.size w w' := by
  refine (clone_ok ao n c ns w h hn).mono ?_
  rintro e w' ⟨v, rfl, ho, hb⟩
  obtain ⟨a', c', e⟩ := ho.form
  rw [h.len] at e
  subst e
  exact ⟨a', c', rfl, ho, hb⟩

theorem Own.far {base g : Nat} {w w' : World} {v : Value} {xs : List ByteArray} (h : Own base w v xs) (hg : w.grownBy w' (some g)) (hlt : g < base) : Own base w' v xs :=
  World.ownsRow.kept h hg (.inr fun e => by have := (h.lt g e).1; omega)
theorem OwnN.far {base g : Nat} {w w' : World} {v : Value} {ns : List Nd} (h : OwnN base w v ns) (hg : w.grownBy w' (some g)) (hlt : g < base) : OwnN base w' v ns :=
  World.ownsRow.kept h hg (.inr fun e => by have := (h.lt g e).1; omega)
theorem struct_item : Tryz.prog.underlying 29 = some (.struct (Tryz.prog.fieldsOf 29)) := by kernel_rfl
theorem size_of_item : (Tryz.prog.info? 29).map (·.size) = some 3 := by kernel_rfl

set_option maxRecDepth 100000 in
set_option maxHeartbeats 1000000 in
theorem ownI_ok (nm : ByteArray) (rs : List ByteArray) (ns : List Nd) (ra : Option Addr) (rn rc : Nat) (ta : Option Addr) (tn tc : Nat) (w : World) (hr : Arg w ra rn rc rs) (ht : ArgN w ta tn tc ns) (h1 : rn < 900000) (h2 : tn < 900000) :
    Calls Tryz.prog 22 #[.agg #[.string nm, .slice ra rn rc, .slice ta tn tc]] w fun e w' => ∃ ra' rc' ta' tc' base, e = .returned (.agg #[.string nm, .slice ra' rn rc', .slice ta' tn tc']) ∧
      Own w.heap.size w' (.slice ra' rn rc') rs ∧ OwnN base w' (.slice ta' tn tc') ns ∧ w.heap.size ≤ base ∧ base ≤ w'.heap.size ∧ (∀ k, (Value.slice ra' rn rc').ownBlock = some k → k < base) ∧ Below w.heap.size w w' := by
  have HR := hide hr
  have HT := hide ht
  obtain ⟨W, hW⟩ : ∃ W, W = (w.alloc (.cells #[.string nm, .slice ra rn rc, .slice ta tn tc] 29)).alloc (.cells #[.string ⟨#[]⟩, .slice none 0 0, .slice none 0 0] 29) := ⟨_, rfl⟩
  have HB0 : Hid (Below w.heap.size w W) := by rw [hW]; exact below_two (below_box _ _) (below_box _ _)
  have c0 : W.cell? ⟨w.heap.size, 0, none⟩ = some (.string nm) := by rw [hW]; simp
  have c1 : W.cell? ⟨w.heap.size, 1, none⟩ = some (.slice ra rn rc) := by rw [hW]; simp
  have c2 : W.cell? ⟨w.heap.size, 2, none⟩ = some (.slice ta tn tc) := by rw [hW]; simp
  have hbox : W.heap[w.heap.size + 1]? = some (.cells #[.string ⟨#[]⟩, .slice none 0 0, .slice none 0 0] 29) := by
    rw [hW]
    have h3 := heap_alloc_new (w.alloc (.cells #[.string nm, .slice ra rn rc, .slice ta tn tc] 29)) (.cells #[.string ⟨#[]⟩, .slice none 0 0, .slice none 0 0] 29)
    rw [show (w.alloc (.cells #[.string nm, .slice ra rn rc, .slice ta tn tc] 29)).heap.size = w.heap.size + 1 by simp] at h3
    exact h3
  have HBX := hide hbox
  have hsz : W.heap.size = w.heap.size + 2 := by rw [hW]; simp
  have HW := hide hW.symm
  clear hr ht hbox hW
  go_enter Tryz.func22, Tryz.ntmps22
  go_wp2_with fail
  rw [HW.out]
  have hb1 : w.heap.size < w.heap.size + 1 := by omega
  have hS0 : Below (w.heap.size + 1) W W.drew := (Below.refl _ W).drew
  refine wp_region_held (S := fun w' => Below (w.heap.size + 1) W w') (by kernel_rfl) ?_
  change wpAnyH _ _ _ _ _ _ _ _ (World.drew _)
  refine wpAnyH_take (i := 0) (v := (.pointer (some ⟨w.heap.size, 0, none⟩))) rfl (by kernel_rfl) (by kernel_rfl) (by kernel_rfl) (fun _ _ _ h => h) (Or.inl ⟨by rfl, ?_⟩) hS0 ?_
  · intro w' hw'
    go_simp
  refine wpAnyH_take (i := 1) (v := (.string nm)) rfl (by kernel_rfl) (by kernel_rfl) (by kernel_rfl) (fun _ _ _ h => h) (Or.inl ⟨by rfl, ?_⟩) hS0 ?_
  · intro w' hw'
    have c9 := hw'.cell (p := ⟨w.heap.size, 0, none⟩) hb1
    rw [c0] at c9
    go_simp
  refine wpAnyH_take (i := 2) (v := (.pointer (some ⟨w.heap.size, 1, none⟩))) rfl (by kernel_rfl) (by kernel_rfl) (by kernel_rfl) (fun _ _ _ h => h) (Or.inl ⟨by rfl, ?_⟩) hS0 ?_
  · intro w' hw'
    go_simp
  refine wpAnyH_take (i := 3) (v := (.slice ra rn rc)) rfl (by kernel_rfl) (by kernel_rfl) (by kernel_rfl) (fun _ _ _ h => h) (Or.inl ⟨by rfl, ?_⟩) hS0 ?_
  · intro w' hw'
    have c9 := hw'.cell (p := ⟨w.heap.size, 1, none⟩) hb1
    rw [c1] at c9
    go_simp
  refine wpAnyH_take (i := 5) (v := (.pointer (some ⟨w.heap.size, 2, none⟩))) rfl (by kernel_rfl) (by kernel_rfl) (by kernel_rfl) (fun _ _ _ h => h) (Or.inl ⟨by rfl, ?_⟩) hS0 ?_
  · intro w' hw'
    go_simp
  refine wpAnyH_take (i := 6) (v := (.slice ta tn tc)) rfl (by kernel_rfl) (by kernel_rfl) (by kernel_rfl) (fun _ _ _ h => h) (Or.inl ⟨by rfl, ?_⟩) hS0 ?_
  · intro w' hw'
    have c9 := hw'.cell (p := ⟨w.heap.size, 2, none⟩) hb1
    rw [c2] at c9
    go_simp
  have HBD : Hid (Below W.heap.size W W.drew) := (Below.refl _ W).drew
  have HRD := hide (HR.out.below (below_two HB0.out HBD.out))
  refine wpAnyH_ready (rs := [4]) (by kernel_rfl) (by simp) (AllReadyH.cons rfl (fun K hK => ?_) AllReadyH.nil)
  go_simp
  refine (cloneT_ok ra rn rc rs W.drew HRD.out h1).mono ?_
  rintro e w4 ⟨a4, c4, rfl, ho4, hb4⟩
  have HO4 := hide ho4
  have HB4 : Hid (Below W.heap.size W w4) := below_two HBD.out hb4
  have hS4 : Below (w.heap.size + 1) W w4 := HB4.out.mono (by omega)
  have HBK : Hid (∀ k, (Value.slice a4 rn c4).ownBlock = some k → k < w4.heap.size) := fun k hk => (ho4.lt k hk).2
  clear ho4 hb4
  refine hK.out _ _ hS4 (fun _ => ?_)
  clear hK K
  have HT4 := hide (HT.out.below (below_two HB0.out HB4.out))
  refine wpAnyH_ready (rs := [7]) (by kernel_rfl) (by simp) (AllReadyH.cons rfl (fun K hK => ?_) AllReadyH.nil)
  go_simp
  refine (cloneN_ok ta tn tc ns w4 HT4.out h2).mono ?_
  rintro e w5 ⟨a5, c5, rfl, ho5, hb5⟩
  have HO5 := hide ho5
  have HB5 : Hid (Below W.heap.size W w5) := below_two HB4.out hb5
  have HO45 := hide (HO4.out.below hb5)
  have hS5 : Below (w.heap.size + 1) W w5 := HB5.out.mono (by omega)
  clear ho5
  refine hK.out _ _ hS5 (fun _ => ?_)
  clear hK K
  refine wpAnyH_ready (rs := [8]) (by kernel_rfl) (by simp) (AllReadyH.cons rfl (fun K hK => ?_) AllReadyH.nil)
  go_simp
  refine hK.out _ _ hS5 (fun _ => ?_)
  clear hK K
  have hbox5 : w5.heap[w.heap.size + 1]? = some (.cells #[.string ⟨#[]⟩, .slice none 0 0, .slice none 0 0] 29) := by
    rw [HB5.out.block (w.heap.size + 1) (by omega)]; exact HBX.out
  have k0 := (cell_of_row w5 (w.heap.size + 1) 0 _ _ (0, 0) hbox5)
  have k1 := (cell_of_row w5 (w.heap.size + 1) 1 _ _ (0, 0) hbox5)
  have k2 := (cell_of_row w5 (w.heap.size + 1) 2 _ _ (0, 0) hbox5)
  have l0 := frozen_of_row w5 (w.heap.size + 1) 0 _ _ hbox5
  have l1 := frozen_of_row w5 (w.heap.size + 1) 1 _ _ hbox5
  have l2 := frozen_of_row w5 (w.heap.size + 1) 2 _ _ hbox5
  refine wpAnyH_ready (rs := [9]) (by kernel_rfl) (by simp) (AllReadyH.cons rfl (fun K hK => ?_) AllReadyH.nil)
  go_simp
  have hg6 := grown_trans (grown_setCell w5 (w.heap.size + 1) 0 (.string nm)) (grown_trans (grown_setCell _ (w.heap.size + 1) 1 (.slice a4 rn c4)) (grown_setCell _ (w.heap.size + 1) 2 (.slice a5 tn c5)))
  have hbx6 : (((w5.setCell ⟨w.heap.size + 1, 0, none⟩ (.string nm)).setCell ⟨w.heap.size + 1, 1, none⟩ (.slice a4 rn c4)).setCell ⟨w.heap.size + 1, 2, none⟩ (.slice a5 tn c5)).heap[w.heap.size + 1]? = some (.cells #[.string nm, .slice a4 rn c4, .slice a5 tn c5] 29) := by
    have q1 := heap_setCell_same w5 (w.heap.size + 1) 0 _ _ (.string nm) hbox5
    have q2 := heap_setCell_same _ (w.heap.size + 1) 1 _ _ (.slice a4 rn c4) q1
    have q3 := heap_setCell_same _ (w.heap.size + 1) 2 _ _ (.slice a5 tn c5) q2
    rw [q3]; rfl
  have hS6 : Below (w.heap.size + 1) W (((w5.setCell ⟨w.heap.size + 1, 0, none⟩ (.string nm)).setCell ⟨w.heap.size + 1, 1, none⟩ (.slice a4 rn c4)).setCell ⟨w.heap.size + 1, 2, none⟩ (.slice a5 tn c5)) :=
    ((hS5.setCell (p := ⟨w.heap.size + 1, 0, none⟩) (Nat.le_refl _) _).setCell (p := ⟨w.heap.size + 1, 1, none⟩) (Nat.le_refl _) _).setCell (p := ⟨w.heap.size + 1, 2, none⟩) (Nat.le_refl _) _
  have h4s : W.heap.size ≤ w4.heap.size := HB4.out.size
  have HO6 := hide (Own.far HO45.out hg6 (show w.heap.size + 1 < W.drew.heap.size by show w.heap.size + 1 < W.heap.size; omega))
  have HN6 := hide (OwnN.far HO5.out hg6 (show w.heap.size + 1 < w4.heap.size by omega))
  have HB6 := hide (HB0.out.trans (hS6.mono (show w.heap.size ≤ w.heap.size + 1 by omega)))
  refine hK.out _ _ hS6 (fun _ => ?_)
  have hsz6 : w4.heap.size ≤ (((w5.setCell ⟨w.heap.size + 1, 0, none⟩ (.string nm)).setCell ⟨w.heap.size + 1, 1, none⟩ (.slice a4 rn c4)).setCell ⟨w.heap.size + 1, 2, none⟩ (.slice a5 tn c5)).heap.size := Nat.le_trans hb5.size hg6.size
  clear hK K k0 k1 k2 l0 l1 l2 hg6
  refine wpAnyH_done (by kernel_rfl) ?_ _
  go_wp2
  try simp only [Exit.inBlock, Exit.then]
  refine bodyPost_ret (results_cell_row rfl _ _ (w.heap.size + 1) 29 _ (0, 0) _ rfl hbx6 struct_item rfl size_of_item) rfl ?_
  exact ⟨a4, c4, a5, c5, w4.heap.size, rfl, HO6.out.base (show w.heap.size ≤ W.heap.size by omega), HN6.out, by omega, hsz6, HBK.out, HB6.out⟩
end Go.Proofs.YtinjbijigjfdfaaGreatDoor
/- A slice of items in memory; the walk of item's Names. -/
namespace Go.Proofs.YtinjbijigjfdfaaGreatDoor
open Go.RowKit

/-- The item i stands in block b from place o on. -/
def ItAt (w : World) (b o : Nat) (i : It) : Prop :=
  ∃ ra rn rc ta tn tc, w.cell? ⟨b, o, none⟩ = some (.string i.1) ∧ w.cell? ⟨b, o + 1, none⟩ = some (.slice ra rn rc) ∧ w.cell? ⟨b, o + 2, none⟩ = some (.slice ta tn tc) ∧ Txt w (.slice ra rn rc) i.2.1 ∧ Nods w (.slice ta tn tc) i.2.2
theorem ItAt.below {w w' : World} {b o : Nat} {i : It} (h : ItAt w b o i) (hb : Below w.heap.size w w') : ItAt w' b o i := by
  obtain ⟨ra, rn, rc, ta, tn, tc, h0, h1, h2, h3, h4⟩ := h
  have hlt : b < w.heap.size := (addr_plain h0).2
  exact ⟨ra, rn, rc, ta, tn, tc, (hb.cell (p := ⟨b, o, none⟩) hlt).trans h0, (hb.cell (p := ⟨b, o + 1, none⟩) hlt).trans h1, (hb.cell (p := ⟨b, o + 2, none⟩) hlt).trans h2, h3.below hb, h4.below hb⟩
/-- From place o of block b on stand the items. -/
def RunI (w : World) (b o : Nat) (is : List It) : Prop := b < w.heap.size ∧ ∀ (j : Nat) i, is[j]? = some i → ItAt w b (o + j * 3) i
theorem RunI.below {w w' : World} {b o : Nat} {is : List It} (h : RunI w b o is) (hb : Below w.heap.size w w') : RunI w' b o is :=
  ⟨Nat.lt_of_lt_of_le h.1 hb.size, fun j i hi => (h.2 j i hi).below hb⟩
/-- The slice v holds the items. -/
def Its (w : World) (v : Value) (is : List It) : Prop :=
  (is = [] ∧ ∃ a c, v = .slice a 0 c) ∨ (∃ b o c, v = .slice (some ⟨b, o, none⟩) is.length c ∧ is.length ≤ c ∧ RunI w b o is)
theorem Its.below {w w' : World} {v : Value} {is : List It} (h : Its w v is) (hb : Below w.heap.size w w') : Its w' v is := by
  rcases h with h | ⟨b, o, c, rfl, hc, hr⟩
  · exact .inl h
  · exact .inr ⟨b, o, c, rfl, hc, hr.below hb⟩
theorem Its.form {w : World} {v : Value} {is : List It} (h : Its w v is) : ∃ a c, v = .slice a is.length c := by
  rcases h with ⟨rfl, a, c, rfl⟩ | ⟨b, o, c, rfl, _⟩
  · exact ⟨a, c, rfl⟩
  · exact ⟨_, c, rfl⟩
/-- A new slice of one item. -/
theorem Its.one {w : World} {i : It} {ra : Option Addr} {rn rc : Nat} {ta : Option Addr} {tn tc : Nat} (h : Txt w (.slice ra rn rc) i.2.1) (k : Nods w (.slice ta tn tc) i.2.2) :
    Its (w.alloc (.cells #[.string i.1, .slice ra rn rc, .slice ta tn tc] 29)) (.slice (some ⟨w.heap.size, 0, none⟩) 1 1) [i] := by
  refine .inr ⟨w.heap.size, 0, 1, rfl, Nat.le_refl _, by simp, fun j x hx => ?_⟩
  match j, hx with
  | 0, hx =>
    simp at hx
    subst hx
    exact ⟨ra, rn, rc, ta, tn, tc, by simp, by simp, by simp, h.below (below_alloc _ _), k.below (below_alloc _ _)⟩
  | j + 1, hx => simp at hx
/-- A new slice of two items. -/
theorem Its.two {w : World} {i i' : It} {ra : Option Addr} {rn rc : Nat} {ta : Option Addr} {tn tc : Nat} {ra' : Option Addr} {rn' rc' : Nat} {ta' : Option Addr} {tn' tc' : Nat} (h : Txt w (.slice ra rn rc) i.2.1) (k : Nods w (.slice ta tn tc) i.2.2)
    (h' : Txt w (.slice ra' rn' rc') i'.2.1) (k' : Nods w (.slice ta' tn' tc') i'.2.2) :
    Its (w.alloc (.cells #[.string i.1, .slice ra rn rc, .slice ta tn tc, .string i'.1, .slice ra' rn' rc', .slice ta' tn' tc'] 29)) (.slice (some ⟨w.heap.size, 0, none⟩) 2 2) [i, i'] := by
  refine .inr ⟨w.heap.size, 0, 2, rfl, Nat.le_refl _, by simp, fun j x hx => ?_⟩
  match j, hx with
  | 0, hx =>
    simp at hx
    subst hx
    exact ⟨ra, rn, rc, ta, tn, tc, by simp, by simp, by simp, h.below (below_alloc _ _), k.below (below_alloc _ _)⟩
  | 1, hx =>
    simp at hx
    subst hx
    exact ⟨ra', rn', rc', ta', tn', tc', by simp, by simp, by simp, h'.below (below_alloc _ _), k'.below (below_alloc _ _)⟩
  | j + 2, hx => simp at hx

set_option maxRecDepth 100000 in
set_option maxHeartbeats 1000000 in
theorem names_some (b o c n : Nat) (is : List It) (w : World) (hn : n = is.length) (h1 : n < 900000) (hr : RunI w b o is) :
    Calls Tryz.prog 45 #[.slice (some ⟨b, o, none⟩) n c] w fun e w' => ∃ a' c', e = .returned (.slice a' n c') ∧ Own w.heap.size w' (.slice a' n c') (is.map (·.1)) ∧ Below w.heap.size w w' := by
  have HN := hide hn
  have HR := hide hr
  obtain ⟨i0, hi, hz0, hz1, hz2⟩ := info_parts A9
  clear hn hr
  go_enter Tryz.func45, Tryz.ntmps45
  go_wp2_with (at_make; refine wpList_make_own w rfl _ _ 23 rfl w.heap.size 9 i0 (.string ByteArray.empty) 1 Tryz.underlying23 hi hz0 hz1 .i64 .i64 _ n rfl rfl ?c1 ?c2 ?c3 (Nat.le_refl _) ?_)
  case c1 => simp
  case c2 => rw [hz2]; omega
  case c3 => unfold maxLen; omega
  intro w1 hown1 hgrow1
  have hb1 : Below w.heap.size w w1 := (Below.refl _ w).grown hgrow1 (Nat.le_refl _) (fun k hk => by cases hk)
  have HO1 : Hid (Own w.heap.size w1 (.slice (some ⟨w.heap.size, 0, none⟩) 0 n) []) := hown1
  clear hown1 hgrow1 hi hz0 hz1 hz2
  go_wp2
  go_loopw [3, 5, 11] (fun v _ i wr => ∃ (k : Nat) (xs : List ByteArray) (a' : Option Addr) (c' : Nat), k ≤ n ∧ i = .int .i64 k ∧ v = .slice a' k c' ∧ Hid (xs = (is.take k).map (·.1)) ∧ Hid (xs.length = k) ∧ Hid (Own w.heap.size wr (.slice a' k c') xs) ∧ Hid (Below w.heap.size w wr)) (fun _ _ i _ => n - (intOf i).toNat)
  case atStart => exact ⟨0, [], _, _, Nat.zero_le _, rfl, rfl, rfl, rfl, HO1, hb1⟩
  case round =>
    obtain ⟨k, xs, a', c', hk, rfl, rfl, HXS, HXL, HO, HB⟩ := hrel
    by_cases hlt : k < n
    · obtain ⟨i, hi⟩ : ∃ i, is[k]? = some i := ⟨is[k]'(by have := HN.out; omega), List.getElem?_eq_some_iff.2 ⟨_, rfl⟩⟩
      obtain ⟨ra, rn, rc, ta, tn, tc, q0, q1, q2, _, _⟩ := (HR.out.2 k i hi).below HB.out
      have HI := hide hi
      have hki : (k : Int) < (n : Int) := by omega
      have hbs : w.heap.size ≤ wr.heap.size := HB.out.size
      clear hi
      have HOA := hide ((HO.out.alloc (.cells #[.string i.1, .slice ra rn rc, .slice ta tn tc] 29)).alloc (.cells #[.string i.1] 9))
      have HA := hide (arg_one (wr.alloc (.cells #[.string i.1, .slice ra rn rc, .slice ta tn tc] 29)) i.1)
      have HBA := hide (below_two HB.out (below_two (below_box wr (.cells #[.string i.1, .slice ra rn rc, .slice ta tn tc] 29)) (below_box _ (.cells #[.string i.1] 9))))
      rw [show (wr.alloc (.cells #[.string i.1, .slice ra rn rc, .slice ta tn tc] 29)).heap.size = wr.heap.size + 1 by simp] at HA
      go_wp2_with (at_builtin; refine wpList_append_arg rfl _ _ rfl w.heap.size _ xs rfl HOA.out _ _ _ [i.1] rfl HA.out ?d1 ?d2 ?_)
      case d1 => rw [HXL.out]; simp; omega
      case d2 => simp; omega
      intro b2 c2 w2 ho2 hb2
      have HB2 := hide (HBA.out.trans hb2)
      have HO2 := hide ho2
      rw [HXL.out] at HO2
      clear ho2 hb2
      go_wp2
      go_roundw
      case rel =>
        refine ⟨k + 1, xs ++ [i.1], b2, c2, by omega, by go_num, by rw [HXL.out], ?_, by rw [List.length_append, HXL.out]; exact hide rfl, HO2, HB2⟩
        obtain ⟨hkl, e⟩ := List.getElem?_eq_some_iff.1 HI.out
        rw [List.take_succ_eq_append_getElem hkl, List.map_append, HXS.out, e]
        exact hide rfl
      case measure => simp [intOf]; omega
    · obtain rfl : k = n := by omega
      go_wp2
      go_ret
      refine ⟨a', c', rfl, ?_, HB.out⟩
      have h3 := HO.out
      rw [HXS.out, HN.out, List.take_length, ← HN.out] at h3
      exact h3
set_option maxRecDepth 100000 in
set_option maxHeartbeats 400000 in
theorem names_none (a : Option Addr) (c : Nat) (w : World) :
    Calls Tryz.prog 45 #[.slice a 0 c] w fun e w' => ∃ a' c', e = .returned (.slice a' 0 c') ∧ Own w.heap.size w' (.slice a' 0 c') [] ∧ Below w.heap.size w w' := by
  obtain ⟨i0, hi, hz0, hz1, hz2⟩ := info_parts A9
  go_enter Tryz.func45, Tryz.ntmps45
  go_wp2_with (at_make; refine wpList_make_own w rfl _ _ 23 rfl w.heap.size 9 i0 (.string ByteArray.empty) 1 Tryz.underlying23 hi hz0 hz1 .i64 .i64 _ 0 rfl rfl ?c1 ?c2 ?c3 (Nat.le_refl _) ?_)
  case c1 => simp
  case c2 => rw [hz2]; omega
  case c3 => unfold maxLen; omega
  intro w1 hown1 hgrow1
  have hb1 : Below w.heap.size w w1 := (Below.refl _ w).grown hgrow1 (Nat.le_refl _) (fun k hk => by cases hk)
  have HO1 : Hid (Own w.heap.size w1 (.slice (some ⟨w.heap.size, 0, none⟩) 0 0) []) := hown1
  clear hown1 hgrow1 hi hz0 hz1 hz2
  go_wp2
  go_loop [3, 5, 11] (fun v _ i => i = .int .i64 0 ∧ v = .slice (some ⟨w.heap.size, 0, none⟩) 0 0) (fun _ _ _ => 0)
  case atStart => exact ⟨rfl, rfl⟩
  case round =>
    obtain ⟨rfl, rfl⟩ := hrel
    go_wp2
    go_ret
    exact ⟨_, _, rfl, HO1.out, hb1⟩
theorem names_ok (v : Value) (is : List It) (l : List ByteArray) (w : World) (h : Its w v is) (h1 : is.length < 900000) (hl : is.map (·.1) = l) :
    Calls Tryz.prog 45 #[v] w fun e w' => ∃ a' c', e = .returned (.slice a' is.length c') ∧ Own w.heap.size w' (.slice a' is.length c') l ∧ Below w.heap.size w w' := by
  subst hl
  rcases h with ⟨rfl, a, c, rfl⟩ | ⟨b, o, c, rfl, _, hr⟩
  · exact names_none a c w
  · exact names_some b o c is.length is w rfl h1 hr
end Go.Proofs.YtinjbijigjfdfaaGreatDoor
