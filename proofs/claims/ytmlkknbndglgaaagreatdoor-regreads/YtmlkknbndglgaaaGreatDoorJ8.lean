/- Texts that stand together, joined: X1, X2, X3, X4. -/
import Derived.Test.YtmlkknbndglgaaaGreatDoorJ2
import Derived.Test.YtmlkknbndglgaaaGreatDoorJ7
import Derived.Test.YtmlkknbndglgaaaGreatDoorJ5
import Derived.Test.YtmlkknbndglgaaaGreatDoorJ1
import Derived.Test.YtmlkknbndglgaaaGreatDoorJ6
/- The walks of package item: only, Name, Hash. -/
namespace Go.Proofs.YtmlkknbndglgaaaGreatDoor
open Go.RowKit

theorem index_not {g : List UInt8} {c : UInt8} (h : c ∉ g) : decide (Lib.indexByte g c < 0) = true := by
  rw [decide_eq_true_eq, Hog.indexByte_neg]; exact h
theorem index_in {g : List UInt8} {c : UInt8} (h : c ∈ g) : decide (Lib.indexByte g c < 0) = false := by
  rw [decide_eq_false_iff_not, Hog.indexByte_neg]; exact fun k => k h

set_option maxHeartbeats 400000 in
theorem only_any (s g : ByteArray) (w : World) (hs : s.size < 1000000) :
    Calls Tryz.prog 78 #[.string s, .string g] w fun e w' => e = .returned (.bool (Hog.onlyL s.data.toList g.data.toList)) ∧ w' = w := by
  go_enter Tryz.func78, Tryz.ntmps78
  go_wp2
  go_loop [5, 8] (fun _ i => ∃ k : Nat, k ≤ s.size ∧ i = .int .i64 k ∧ Hid (Hog.onlyL (s.data.toList.take k) g.data.toList = true)) (fun _ i => s.size - (intOf i).toNat)
  case atStart => exact ⟨0, Nat.zero_le _, rfl, rfl⟩
  case round =>
    obtain ⟨k, hk, rfl, ho⟩ := hrel
    by_cases hlt : k < s.size
    · have HAT := hide (at_byte s k hlt)
      by_cases hc : s[k] ∈ g.data.toList
      · have hd := index_in hc
        have HC := hide hc
        clear hc
        go_wp2_with fail
        refine (Tryz.strings_IndexByte _ _ _).mono ?_
        rintro e w1 ⟨rfl, rfl⟩
        go_wp2
        go_round
        case rel => exact ⟨k + 1, by omega, by go_num, Hog.only_step HAT.out ho.out HC.out⟩
        case measure => simp [intOf]; omega
      · have hd := index_not hc
        have HC := hide hc
        clear hc
        go_wp2_with fail
        refine (Tryz.strings_IndexByte _ _ _).mono ?_
        rintro e w1 ⟨rfl, rfl⟩
        go_wp2
        go_ret
        exact ⟨ret_bool (Hog.only_fall HAT.out HC.out).symm, rfl⟩
    · go_wp2
      go_ret
      refine ⟨ret_bool ?_, rfl⟩
      have e : k = s.data.toList.length := by rw [← Hog.size_len]; omega
      have h1 := ho.out
      rw [e, List.take_length] at h1
      exact h1.symm
end Go.Proofs.YtmlkknbndglgaaaGreatDoor
/- The walks of package item: Name, Hash. -/
namespace Go.Proofs.YtmlkknbndglgaaaGreatDoor
open Go.RowKit

theorem only_ok (s g : ByteArray) (b : Bool) (w : World) (hs : s.size < 1000000) (hv : Hog.onlyL s.data.toList g.data.toList = b) :
    Calls Tryz.prog 78 #[.string s, .string g] w fun e w' => e = .returned (.bool b) ∧ w' = w := by
  subst hv
  exact only_any s g w hs

theorem name_parts (s r : ByteArray) (h8 : 8 < s.size) (h10 : 10 ≤ s.size) (h30 : s.size ≤ 30) (e1 : (s.extract 0 8).data.toList = s.data.toList.take 8) (e2 : r.data.toList = s.data.toList.drop 9)
    (e3 : (r.extract 0 1).data.toList = (s.data.toList.drop 9).take 1) (h : s.data.toList[8]? = some s[8]) :
    Hog.nameL s.data.toList = (Hog.onlyL (s.extract 0 8).data.toList Hog.hashG && decide (s[8] = 45) && Hog.onlyL (r.extract 0 1).data.toList Hog.firstG && Hog.onlyL r.data.toList Hog.restG) := by
  unfold Hog.nameL
  rw [e1, e2, e3, h, decide_eq_true (show 10 ≤ s.data.toList.length by rw [← Hog.size_len]; omega), decide_eq_true (show s.data.toList.length ≤ 30 by rw [← Hog.size_len]; omega)]
  simp only [Option.some.injEq, Bool.and_self, Bool.true_and]

set_option maxRecDepth 100000 in
set_option maxHeartbeats 800000 in
theorem name_any (s : ByteArray) (w : World) (hs : s.size ≤ 9223372036854775807) :
    Calls Tryz.prog 65 #[.string s] w fun e w' => e = .returned (.bool (Hog.nameL s.data.toList)) ∧ Below w.heap.size w w' := by
  have HZ := hide (Hog.size_len s)
  by_cases h10 : s.size < 10
  · have h10' : (s.size : Int) < 10 := by omega
    go_enter Tryz.func65, Tryz.ntmps65
    go_wp2
    go_ret
    exact ⟨ret_bool (Hog.name_not fun k => by have := k.low; have := HZ.out; omega).symm, Below.refl _ _⟩
  · by_cases h30 : 30 < s.size
    · have h10' : (10 : Int) ≤ (s.size : Int) := by omega
      have h30' : (30 : Int) < (s.size : Int) := by omega
      go_enter Tryz.func65, Tryz.ntmps65
      go_wp2
      go_ret
      exact ⟨ret_bool (Hog.name_not fun k => by have := k.high; have := HZ.out; omega).symm, Below.refl _ _⟩
    · have h10' : (10 : Int) ≤ (s.size : Int) := by omega
      have h30' : (s.size : Int) ≤ 30 := by omega
      have h8 : 8 < s.size := by omega
      have h8' : (8 : Int) ≤ (s.size : Int) := by omega
      have h9' : (9 : Int) ≤ (s.size : Int) := by omega
      have h8l : (8 : Int) < (s.size : Int) := by omega
      have hb8 := at_byte s 8 h8
      have e1 : (s.extract 0 8).data.toList = s.data.toList.take 8 := by rw [take_mk, Hog.mk_data]
      have e2 : (s.extract 9 s.size).data.toList = s.data.toList.drop 9 := by rw [drop_mk, Hog.mk_data]
      have e3 : ((s.extract 9 s.size).extract 0 1).data.toList = (s.data.toList.drop 9).take 1 := by rw [take_mk, Hog.mk_data, e2]
      have z1 : (s.extract 0 8).size < 1000000 := by rw [Hog.size_len, e1, List.length_take]; omega
      have z2 : (s.extract 9 s.size).size < 1000000 := by rw [Hog.size_len, e2, List.length_drop, ← HZ.out]; omega
      have z2' : (s.extract 9 s.size).size = s.size - 9 := by rw [Hog.size_len, e2, List.length_drop, ← HZ.out]
      have z3 : ((s.extract 9 s.size).extract 0 1).size < 1000000 := by rw [Hog.size_len, e3, List.length_take]; omega
      have z4 : (1 : Int) ≤ ((s.extract 9 s.size).size : Int) := by rw [z2']; omega
      have E1 := hide e1
      have E2 := hide e2
      have E3 := hide e3
      have HB8 := hide hb8
      obtain ⟨r, hr⟩ : ∃ r, r = s.extract 9 s.size := ⟨_, rfl⟩
      have HR := hide hr
      rw [← hr] at E2 E3 z2 z3 z4
      clear e1 e2 e3 hb8 z2'
      go_enter Tryz.func65, Tryz.ntmps65
      go_wp2
      go_quiet (fail)
      clear hr
      rw [← HR.out]
      have NM := hide (name_parts s r h8 (by omega) (by omega) E1.out E2.out E3.out HB8.out)
      have HBQ := hide (below_drewN (Below.refl w.heap.size w) nq)
      cases b1 : Hog.onlyL (s.extract 0 8).data.toList Hog.hashG with
      | false =>
        have B1 := hide b1
        clear b1
        go_wp2_with fail
        refine (only_ok _ _ false _ z1 B1.out).mono ?_
        rintro e w1 ⟨rfl, rfl⟩
        go_wp2
        go_ret
        exact ⟨ret_bool (by rw [NM.out, B1.out]; rfl), HBQ.out⟩
      | true =>
        have B1 := hide b1
        clear b1
        by_cases h45 : s[8] = 45
        · have t45 : (((s[8].toNat : Nat) : Int) == 45) = true := by rw [h45]; rfl
          have H45 := hide h45
          clear h45
          cases b2 : Hog.onlyL (r.extract 0 1).data.toList Hog.firstG with
          | false =>
            have B2 := hide b2
            clear b2
            go_wp2_with fail
            refine (only_ok _ _ true _ z1 B1.out).mono ?_
            rintro e w1 ⟨rfl, rfl⟩
            go_wp2_with fail
            refine (only_ok _ _ false _ z3 B2.out).mono ?_
            rintro e w1 ⟨rfl, rfl⟩
            go_wp2
            go_ret
            exact ⟨ret_bool (by rw [NM.out, B1.out, B2.out, decide_eq_true H45.out]; rfl), HBQ.out⟩
          | true =>
            have B2 := hide b2
            clear b2
            cases b3 : Hog.onlyL r.data.toList Hog.restG with
            | _ =>
              have B3 := hide b3
              clear b3
              go_wp2_with fail
              refine (only_ok _ _ true _ z1 B1.out).mono ?_
              rintro e w1 ⟨rfl, rfl⟩
              go_wp2_with fail
              refine (only_ok _ _ true _ z3 B2.out).mono ?_
              rintro e w1 ⟨rfl, rfl⟩
              go_wp2_with fail
              refine (only_ok _ _ _ _ z2 B3.out).mono ?_
              rintro e w1 ⟨rfl, rfl⟩
              go_wp2
              go_ret
              exact ⟨ret_bool (by rw [NM.out, B1.out, B2.out, B3.out, decide_eq_true H45.out]; rfl), HBQ.out⟩
        · have t45 : (((s[8].toNat : Nat) : Int) == 45) = false := by
            rw [beq_eq_false_iff_ne]
            intro e
            exact h45 (byte_is (n := 45) (by decide) (beq_iff_eq.2 e))
          have H45 := hide h45
          clear h45
          go_wp2_with fail
          refine (only_ok _ _ true _ z1 B1.out).mono ?_
          rintro e w1 ⟨rfl, rfl⟩
          go_wp2
          go_ret
          exact ⟨ret_bool (by rw [NM.out, B1.out, decide_eq_false H45.out]; rfl), HBQ.out⟩

theorem name_ok (s : ByteArray) (b : Bool) (w : World) (hs : s.size ≤ 9223372036854775807) (hv : Hog.nameL s.data.toList = b) :
    Calls Tryz.prog 65 #[.string s] w fun e w' => e = .returned (.bool b) ∧ Below w.heap.size w w' := by
  subst hv
  exact name_any s w hs

end Go.Proofs.YtmlkknbndglgaaaGreatDoor
/- The walk of item's own mayRefer. -/
namespace Go.Proofs.YtmlkknbndglgaaaGreatDoor
open Go.RowKit

/-- May the k-th of these texts stand there, behind the one ahead of it? -/
def refAt (xs : List ByteArray) (k : Nat) : Bool :=
  match xs[k]? with
  | none => true
  | some x => Hog.nameL x.data.toList && match k with
    | 0 => true
    | j + 1 => match xs[j]? with
      | none => true
      | some y => Op.bytesLess y.data.toList x.data.toList
/-- Are these texts an item's references? -/
def refsB (xs : List ByteArray) : Bool := decide (xs.length ≤ 8) && (List.range xs.length).all (refAt xs)

theorem refs_step {xs : List ByteArray} {k : Nat} (h : (List.range k).all (refAt xs) = true) (hk : refAt xs k = true) : (List.range (k + 1)).all (refAt xs) = true := by
  rw [List.range_succ, List.all_append, h]
  simpa using hk
theorem refs_fall {xs : List ByteArray} {k : Nat} (hl : k < xs.length) (hk : refAt xs k = false) : refsB xs = false := by
  unfold refsB
  rw [Bool.and_eq_false_iff]
  refine .inr (List.all_eq_false.2 ⟨k, List.mem_range.2 hl, by simp [hk]⟩)
theorem refs_many {xs : List ByteArray} (h : 8 < xs.length) : refsB xs = false := by
  unfold refsB; rw [decide_eq_false (by omega)]; rfl
theorem refs_full {xs : List ByteArray} (h : xs.length ≤ 8) (ha : (List.range xs.length).all (refAt xs) = true) : refsB xs = true := by
  unfold refsB; rw [decide_eq_true h, ha]; rfl
theorem refAt_not {xs : List ByteArray} {k : Nat} {x : ByteArray} (hx : xs[k]? = some x) (hn : Hog.nameL x.data.toList = false) : refAt xs k = false := by
  unfold refAt; rw [hx]; simp [hn]
theorem refAt_zero {xs : List ByteArray} {x : ByteArray} (hx : xs[0]? = some x) (hn : Hog.nameL x.data.toList = true) : refAt xs 0 = true := by
  unfold refAt; rw [hx]; simp [hn]
theorem refAt_next {xs : List ByteArray} {j : Nat} {x y : ByteArray} (hx : xs[j + 1]? = some x) (hy : xs[j]? = some y) (hn : Hog.nameL x.data.toList = true) : refAt xs (j + 1) = Op.bytesLess y.data.toList x.data.toList := by
  unfold refAt; rw [hx]; simp [hn, hy]
theorem less_not {y x : ByteArray} (h : Op.bytesLess y.data.toList x.data.toList = false) : x.toList = y.toList ∨ Op.bytesLess x.toList y.toList = true := by
  rw [Lib.toList_data, Lib.toList_data]
  rcases Hog.not_less_iff.1 h with e | e
  · exact .inl e.symm
  · exact .inr e
theorem less_yes {y x : ByteArray} (h : Op.bytesLess y.data.toList x.data.toList = true) : (x.toList == y.toList) = false ∧ Op.bytesLess x.toList y.toList = false := by
  rw [Lib.toList_data, Lib.toList_data, beq_eq_false_iff_ne]
  exact ⟨fun e => Hog.less_ne h e.symm, Hog.less_asymm h⟩

set_option maxHeartbeats 400000 in
theorem refer_many (a : Option Addr) (n c : Nat) (w : World) (h : 8 < n) (hm : n ≤ maxLen) :
    Calls Tryz.prog 76 #[.slice a n c] w fun e w' => e = .returned (.bool false) ∧ Below w.heap.size w w' := by
  unfold maxLen at hm
  have h' : (8 : Int) < (n : Int) := by omega
  go_enter Tryz.func76, Tryz.ntmps76
  go_wp2
  go_ret
  exact ⟨rfl, Below.refl _ _⟩
set_option maxHeartbeats 400000 in
theorem refer_none (a : Option Addr) (c : Nat) (w : World) :
    Calls Tryz.prog 76 #[.slice a 0 c] w fun e w' => e = .returned (.bool true) ∧ Below w.heap.size w w' := by
  go_enter Tryz.func76, Tryz.ntmps76
  go_wp2
  go_loop [3, 4, 10] (fun _ _ i => i = .int .i64 0) (fun _ _ _ => 0)
  case atStart => rfl
  case round =>
    subst hrel
    go_wp2
    go_ret
    exact ⟨rfl, Below.refl _ _⟩
set_option maxRecDepth 100000 in
set_option maxHeartbeats 1000000 in
theorem refer_some (b o c n : Nat) (xs : List ByteArray) (w : World) (hn : n = xs.length) (h8 : n ≤ 8) (hb : b < w.heap.size) (hx : ∀ (j : Nat) x, xs[j]? = some x → w.cell? ⟨b, o + j, none⟩ = some (.string x)) (hz : ∀ x ∈ xs, x.size ≤ 9223372036854775807) :
    Calls Tryz.prog 76 #[.slice (some ⟨b, o, none⟩) n c] w fun e w' => e = .returned (.bool (refsB xs)) ∧ Below w.heap.size w w' := by
  have HN := hide hn
  have HC := hide hx
  have HZ := hide hz
  have h8' : (n : Int) ≤ 8 := by omega
  clear hn hx hz
  go_enter Tryz.func76, Tryz.ntmps76
  go_wp2
  go_loopw [3, 4, 10] (fun _ _ i wr => ∃ k : Nat, k ≤ n ∧ i = .int .i64 k ∧ Hid ((List.range k).all (refAt xs) = true) ∧ Below w.heap.size w wr) (fun _ _ i _ => n - (intOf i).toNat)
  case atStart => exact ⟨0, Nat.zero_le _, rfl, rfl, Below.refl _ _⟩
  case round =>
    obtain ⟨k, hk, rfl, hall, hbl⟩ := hrel
    by_cases hlt : k < n
    · obtain ⟨x, hx⟩ : ∃ x, xs[k]? = some x := ⟨xs[k]'(by have := HN.out; omega), List.getElem?_eq_some_iff.2 ⟨_, rfl⟩⟩
      have hc : wr.cell? ⟨b, o + k, none⟩ = some (.string x) := (hbl.cell (p := ⟨b, o + k, none⟩) hb).trans (HC.out k x hx)
      have hxz := HZ.out x (List.mem_of_getElem? hx)
      have hki : (k : Int) < (n : Int) := by omega
      have HX := hide hx
      clear hx
      cases hnm : Hog.nameL x.data.toList with
      | false =>
        have HNM := hide hnm
        clear hnm
        go_wp2_with fail
        refine (name_ok x false wr hxz HNM.out).mono ?_
        rintro e w1 ⟨rfl, hb1⟩
        go_wp2
        go_ret
        exact ⟨ret_bool (refs_fall (by rw [← HN.out]; exact hlt) (refAt_not HX.out HNM.out)).symm, below_two hbl hb1⟩
      | true =>
        have HNM := hide hnm
        clear hnm
        cases k with
        | zero =>
          rw [Nat.add_zero] at hc
          go_wp2_with fail
          refine (name_ok x true wr hxz HNM.out).mono ?_
          rintro e w1 ⟨rfl, hb1⟩
          have HB1 := hide (below_two hbl hb1)
          clear hb1
          go_wp2
          go_roundw
          case rel => exact ⟨1, by omega, by go_num, refs_step hall.out (refAt_zero HX.out HNM.out), HB1.out⟩
          case measure => simp [intOf]; omega
        | succ j =>
          obtain ⟨y, hy⟩ : ∃ y, xs[j]? = some y := ⟨xs[j]'(by have := HN.out; omega), List.getElem?_eq_some_iff.2 ⟨_, rfl⟩⟩
          have HY := hide hy
          clear hy
          have hj0 : (0 : Int) < (j : Int) + 1 := by omega
          cases hls : Op.bytesLess y.data.toList x.data.toList with
          | true =>
            obtain ⟨l1, l2⟩ := less_yes hls
            have HLS := hide hls
            clear hls
            go_wp2_with fail
            refine (name_ok x true wr hxz HNM.out).mono ?_
            rintro e w1 ⟨rfl, hb1⟩
            have HB1 := hide (below_two hbl hb1)
            have hcy : w1.cell? ⟨b, o + j, none⟩ = some (.string y) := ((HB1.out).cell (p := ⟨b, o + j, none⟩) hb).trans (HC.out j y HY.out)
            clear hb1
            go_wp2
            go_roundw
            case rel => exact ⟨j + 2, by omega, by go_num, refs_step hall.out ((refAt_next HX.out HY.out HNM.out).trans HLS.out), HB1.out⟩
            case measure => simp [intOf]; omega
          | false =>
            have hle := less_not hls
            have HLS := hide hls
            clear hls
            rcases hle with hle | hle
            all_goals
              go_wp2_with fail
              refine (name_ok x true wr hxz HNM.out).mono ?_
              rintro e w1 ⟨rfl, hb1⟩
              have HB1 := hide (below_two hbl hb1)
              have hcy : w1.cell? ⟨b, o + j, none⟩ = some (.string y) := ((HB1.out).cell (p := ⟨b, o + j, none⟩) hb).trans (HC.out j y HY.out)
              clear hb1
              go_wp2
              go_ret
              exact ⟨ret_bool (refs_fall (by rw [← HN.out]; exact hlt) ((refAt_next HX.out HY.out HNM.out).trans HLS.out)).symm, HB1.out⟩
    · go_wp2
      go_ret
      refine ⟨ret_bool ?_, hbl⟩
      have e : k = xs.length := by have := HN.out; omega
      have h1 := hall.out
      rw [e] at h1
      exact (refs_full (by rw [← HN.out]; exact h8) h1).symm

theorem Txt.form {w : World} {v : Value} {xs : List ByteArray} (h : Txt w v xs) : ∃ a c, v = .slice a xs.length c := by
  rcases h with ⟨rfl, a, c, rfl⟩ | ⟨b, o, c, rfl, _⟩
  · exact ⟨a, c, rfl⟩
  · exact ⟨_, c, rfl⟩
theorem refer_ok (v : Value) (xs : List ByteArray) (r : Bool) (w : World) (h : Txt w v xs) (hm : xs.length ≤ maxLen) (hz : ∀ x ∈ xs, x.size ≤ 9223372036854775807) (hv : refsB xs = r) :
    Calls Tryz.prog 76 #[v] w fun e w' => e = .returned (.bool r) ∧ Below w.heap.size w w' := by
  subst hv
  by_cases h8 : 8 < xs.length
  · obtain ⟨a, c, rfl⟩ := h.form
    rw [refs_many h8]
    exact refer_many a xs.length c w h8 hm
  · rcases h with ⟨rfl, a, c, rfl⟩ | ⟨b, o, c, rfl, _, hb, hcell⟩
    · exact refer_none a c w
    · exact refer_some b o c xs.length xs w rfl (by omega) hb hcell hz
end Go.Proofs.YtmlkknbndglgaaaGreatDoor
/- The walk of item's own mayStand. -/
namespace Go.Proofs.YtmlkknbndglgaaaGreatDoor
open Go.RowKit

/-- May the node stand within an item? -/
def innerB (n : Nd) : Bool := decide (n.1.size ≤ 120) && decide ((Hog.splitL n.1.data.toList).length ≤ 8)
/-- May these nodes be an item's tree? -/
def ownB (ns : List Nd) : Bool := decide (ns.length ≤ 24) && mayN ns && ns.all innerB
theorem own_many {ns : List Nd} (h : 24 < ns.length) : ownB ns = false := by unfold ownB; rw [decide_eq_false (by omega)]; rfl
theorem own_not {ns : List Nd} (h : mayN ns = false) : ownB ns = false := by unfold ownB; rw [h]; simp
theorem own_fall {ns : List Nd} {k : Nat} {n : Nd} (hn : ns[k]? = some n) (h : innerB n = false) : ownB ns = false := by
  unfold ownB
  rw [Bool.and_eq_false_iff]
  exact .inr (List.all_eq_false.2 ⟨n, List.mem_of_getElem? hn, by simp [h]⟩)
theorem inner_step {ns : List Nd} {k : Nat} {n : Nd} (hn : ns[k]? = some n) (h : innerB n = true) (ha : (ns.take k).all innerB = true) : (ns.take (k + 1)).all innerB = true := by
  obtain ⟨hk, rfl⟩ := List.getElem?_eq_some_iff.1 hn
  rw [List.take_succ_eq_append_getElem hk, List.all_append, ha]
  simpa using h
theorem own_full {ns : List Nd} (h : ns.length ≤ 24) (hm : mayN ns = true) (ha : ns.all innerB = true) : ownB ns = true := by
  unfold ownB; rw [decide_eq_true h, hm, ha]; rfl

set_option maxHeartbeats 400000 in
theorem stand_many (a : Option Addr) (n c : Nat) (w : World) (h : 24 < n) (hm : n ≤ maxLen) :
    Calls Tryz.prog 77 #[.slice a n c] w fun e w' => e = .returned (.bool false) ∧ w' = w := by
  unfold maxLen at hm
  have h' : (24 : Int) < (n : Int) := by omega
  go_enter Tryz.func77, Tryz.ntmps77
  go_wp2
  go_ret
  exact ⟨rfl, rfl⟩
set_option maxHeartbeats 400000 in
theorem stand_not (a : Option Addr) (n c : Nat) (ns : List Nd) (w0 w : World) (hn : n = ns.length) (hok : Ok w0 w) (h : n ≤ 24) (hv : Nods w (.slice a n c) ns) (hp : ∀ x ∈ ns, x.1.size < 900000) (hm : mayN ns = false) :
    Calls Tryz.prog 77 #[.slice a n c] w fun e w' => e = .returned (.bool false) ∧ Ok w0 w' ∧ Below w.heap.size w w' := by
  have h' : (n : Int) ≤ 24 := by omega
  have HV := hide hv
  have HN := hide hn
  have HP := hide hp
  have HM := hide hm
  clear hv hn hp hm
  go_enter Tryz.func77, Tryz.ntmps77
  go_wp2_with fail
  refine (mayT_ok _ ns false w0 w hok (fun x hx => by have := HP.out x hx; omega) HV.out (by have := HN.out; omega) HM.out).mono ?_
  rintro e w1 ⟨rfl, ok1, hb1⟩
  go_wp2
  go_ret
  exact ⟨rfl, ok1, hb1⟩
set_option maxRecDepth 100000 in
set_option maxHeartbeats 1000000 in
theorem stand_some (b o c n : Nat) (ns : List Nd) (w0 w : World) (hok : Ok w0 w) (hn : n = ns.length) (h24 : n ≤ 24) (hcap : n ≤ c) (hr : Run w b o ns) (hp : ∀ x ∈ ns, x.1.size < 900000) (hm : mayN ns = true) :
    Calls Tryz.prog 77 #[.slice (some ⟨b, o, none⟩) n c] w fun e w' => e = .returned (.bool (ownB ns)) ∧ Ok w0 w' ∧ Below w.heap.size w w' := by
  have h' : (n : Int) ≤ 24 := by omega
  have HR := hide hr
  have HN := hide hn
  have HP := hide hp
  have HM := hide hm
  clear hr hn hp hm
  go_enter Tryz.func77, Tryz.ntmps77
  go_wp2_with fail
  refine (mayT_ok _ ns true w0 w hok (fun x hx => by have := HP.out x hx; omega) (.inr ⟨b, o, c, by rw [HN.out], by rw [← HN.out]; exact hcap, HR.out⟩) (by have := HN.out; omega) HM.out).mono ?_
  rintro e w1 ⟨rfl, ok1, hb1⟩
  have HB1 := hide hb1
  clear hb1
  go_wp2
  go_loopw [4, 15] (fun _ i wr => ∃ k : Nat, k ≤ n ∧ i = .int .i64 k ∧ Hid ((ns.take k).all innerB = true) ∧ Hid (Ok w0 wr) ∧ Hid (Below w.heap.size w wr)) (fun _ i _ => n - (intOf i).toNat)
  case atStart => exact ⟨0, Nat.zero_le _, rfl, rfl, ok1, HB1⟩
  case round =>
    obtain ⟨k, hk, rfl, hall, OKR, HBR⟩ := hrel
    by_cases hlt : k < n
    · obtain ⟨x, hx⟩ : ∃ x, ns[k]? = some x := ⟨ns[k]'(by have := HN.out; omega), List.getElem?_eq_some_iff.2 ⟨_, rfl⟩⟩
      obtain ⟨g1, g2, g3⟩ := (HR.out.2 k x hx).below HBR.out HR.out.1
      have hxz := HP.out x (List.mem_of_getElem? hx)
      have hki : (k : Int) < (n : Int) := by omega
      have HX := hide hx
      clear hx
      have OKA := hide (OKR.out.alloc (.cells #[.string x.1, .int .i64 x.2.1, .string x.2.2] 86))
      have HBA := hide (below_two HBR.out (below_box wr (.cells #[.string x.1, .int .i64 x.2.1, .string x.2.2] 86)))
      by_cases h120 : 120 < x.1.size
      · have hq : (120 : Int) < (x.1.size : Int) := by omega
        go_wp2
        go_ret
        exact ⟨ret_bool (own_fall HX.out (by unfold innerB; rw [decide_eq_false (by omega)]; rfl)).symm, OKA.out, HBA.out⟩
      · have hq : (x.1.size : Int) ≤ 120 := by omega
        obtain ⟨l, hl⟩ : ∃ l, Hog.splitL x.1.data.toList = l := ⟨_, rfl⟩
        have HL := hide hl
        clear hl
        by_cases hl8 : 8 < l.length
        · have hl8' : (8 : Int) < (l.length : Int) := by omega
          go_wp2_with fail
          refine (split_ok x.1 l w0 _ OKA.out (by omega) HL.out).mono ?_
          rintro e w2 ⟨a2, c2, rfl, _, ok2, hb2⟩
          have HB2 := hide (below_two HBA.out hb2)
          clear hb2
          go_wp2
          go_ret
          exact ⟨ret_bool (own_fall HX.out (by unfold innerB; rw [HL.out, decide_eq_false (show ¬ l.length ≤ 8 by omega)]; simp)).symm, ok2, HB2.out⟩
        · have hl8' : (l.length : Int) ≤ 8 := by omega
          go_wp2_with fail
          refine (split_ok x.1 l w0 _ OKA.out (by omega) HL.out).mono ?_
          rintro e w2 ⟨a2, c2, rfl, _, ok2, hb2⟩
          have HB2 := hide (below_two HBA.out hb2)
          clear hb2
          go_wp2
          go_roundw
          case rel => exact ⟨k + 1, by omega, by go_num, inner_step HX.out (by unfold innerB; rw [HL.out, decide_eq_true (show l.length ≤ 8 by omega), decide_eq_true (show x.1.size ≤ 120 by omega)]; rfl) hall.out, ok2, HB2⟩
          case measure => simp [intOf]; omega
    · go_wp2
      go_ret
      refine ⟨ret_bool ?_, OKR.out, HBR.out⟩
      have e : k = ns.length := by have := HN.out; omega
      have h1 := hall.out
      rw [e, List.take_length] at h1
      exact (own_full (by rw [← HN.out]; exact h24) HM.out h1).symm

theorem may_nil : mayN [] = false := by decide
theorem stand_ok (v : Value) (ns : List Nd) (r : Bool) (w0 w : World) (hok : Ok w0 w) (h : Nods w v ns) (hm : ns.length ≤ maxLen) (hp : ∀ x ∈ ns, x.1.size < 900000) (hv : ownB ns = r) :
    Calls Tryz.prog 77 #[v] w fun e w' => e = .returned (.bool r) ∧ Ok w0 w' ∧ Below w.heap.size w w' := by
  subst hv
  by_cases h24 : 24 < ns.length
  · obtain ⟨a, c, rfl⟩ := h.form
    rw [own_many h24]
    refine (stand_many a ns.length c w h24 hm).mono ?_
    rintro e w' ⟨rfl, rfl⟩
    exact ⟨rfl, hok, Below.refl _ _⟩
  · cases hb : mayN ns with
    | false =>
      obtain ⟨a, c, rfl⟩ := h.form
      rw [own_not hb]
      exact stand_not a ns.length c ns w0 w rfl hok (by omega) h hp hb
    | true =>
      rcases h with ⟨rfl, a, c, rfl⟩ | ⟨b, o, c, rfl, hc, hr⟩
      · rw [may_nil] at hb; cases hb
      · exact stand_some b o c ns.length ns w0 w hok rfl (by omega) hc hr hp hb
end Go.Proofs.YtmlkknbndglgaaaGreatDoor
