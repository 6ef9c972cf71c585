/- The walks of package item: Name, Hash. -/
import Derived.Test.YtinjbijigjfdfaaDoorX1
namespace Go.Proofs.YtinjbijigjfdfaaDoor
open Go.RowKit

theorem only_ok (s g : ByteArray) (b : Bool) (w : World) (hs : s.size < 1000000) (hv : Hog.onlyL s.data.toList g.data.toList = b) :
    Calls Tryd.prog 37 #[.string s, .string g] w fun e w' => e = .returned (.bool b) ∧ w' = w := by
  subst hv
  exact only_any s g w hs

theorem name_parts (s r : ByteArray) (h8 : 8 < s.size) (h10 : 10 ≤ s.size) (h30 : s.size ≤ 30) (e1 : (s.extract 0 8).data.toList = s.data.toList.take 8) (e2 : r.data.toList = s.data.toList.drop 9)
    (e3 : (r.extract 0 1).data.toList = (s.data.toList.drop 9).take 1) (h : s.data.toList[8]? = some s[8]) :
    Hog.nameL s.data.toList = (Hog.onlyL (s.extract 0 8).data.toList Hog.hashG && decide (s[8] = 45) && Hog.onlyL (r.extract 0 1).data.toList Hog.firstG && Hog.onlyL r.data.toList Hog.restG) := by
  unfold Hog.nameL
  rw [e1, e2, e3, h, decide_eq_true (show 10 ≤ s.data.toList.length by rw [← Hog.size_len]; omega), decide_eq_true (show s.data.toList.length ≤ 30 by rw [← Hog.size_len]; omega)]
  simp only [Option.some.injEq, Bool.and_self, Bool.true_and]

set_option maxRecDepth 100000 in
set_option maxHeartbeats 800000 in
theorem name_any (s : ByteArray) (w : World) (hs : s.size ≤ 9223372036854775807) :
    Calls Tryd.prog 26 #[.string s] w fun e w' => e = .returned (.bool (Hog.nameL s.data.toList)) ∧ Below w.heap.size w w' := by
  have HZ := hide (Hog.size_len s)
  by_cases h10 : s.size < 10
  · have h10' : (s.size : Int) < 10 := by omega
    go_enter Tryd.func26, Tryd.ntmps26
    go_wp2
    go_ret
    exact ⟨ret_bool (Hog.name_not fun k => by have := k.low; have := HZ.out; omega).symm, Below.refl _ _⟩
  · by_cases h30 : 30 < s.size
    · have h10' : (10 : Int) ≤ (s.size : Int) := by omega
      have h30' : (30 : Int) < (s.size : Int) := by omega
      go_enter Tryd.func26, Tryd.ntmps26
      go_wp2
      go_ret
      exact ⟨ret_bool (Hog.name_not fun k => by have := k.high; have := HZ.out; omega).symm, Below.refl _ _⟩
    · have h10' : (10 : Int) ≤ (s.size : Int) := by omega
      have h30' : (s.size : Int) ≤ 30 := by omega
      have h8 : 8 < s.size := by omega
      have h8' : (8 : Int) ≤ (s.size : Int) := by omega
      have h9' : (9 : Int) ≤ (s.size : Int) := by omega
      have h8l : (8 : Int) < (s.size : Int) := by omega
      have hb8 := at_byte s 8 h8
      have e1 : (s.extract 0 8).data.toList = s.data.toList.take 8 := by rw [take_mk, Hog.mk_data]
      have e2 : (s.extract 9 s.size).data.toList = s.data.toList.drop 9 := by rw [drop_mk, Hog.mk_data]
      have e3 : ((s.extract 9 s.size).extract 0 1).data.toList = (s.data.toList.drop 9).take 1 := by rw [take_mk, Hog.mk_data, e2]
      have z1 : (s.extract 0 8).size < 1000000 := by rw [Hog.size_len, e1, List.length_take]; omega
      have z2 : (s.extract 9 s.size).size < 1000000 := by rw [Hog.size_len, e2, List.length_drop, ← HZ.out]; omega
      have z2' : (s.extract 9 s.size).size = s.size - 9 := by rw [Hog.size_len, e2, List.length_drop, ← HZ.out]
      have z3 : ((s.extract 9 s.size).extract 0 1).size < 1000000 := by rw [Hog.size_len, e3, List.length_take]; omega
      have z4 : (1 : Int) ≤ ((s.extract 9 s.size).size : Int) := by rw [z2']; omega
      have E1 := hide e1
      have E2 := hide e2
      have E3 := hide e3
      have HB8 := hide hb8
      obtain ⟨r, hr⟩ : ∃ r, r = s.extract 9 s.size := ⟨_, rfl⟩
      have HR := hide hr
      rw [← hr] at E2 E3 z2 z3 z4
      clear e1 e2 e3 hb8 z2'
      go_enter Tryd.func26, Tryd.ntmps26
      go_wp2
      go_quiet (fail)
      clear hr
      rw [← HR.out]
      have NM := hide (name_parts s r h8 (by omega) (by omega) E1.out E2.out E3.out HB8.out)
      have HBQ := hide (below_drewN (Below.refl w.heap.size w) nq)
      cases b1 : Hog.onlyL (s.extract 0 8).data.toList Hog.hashG with
      | false =>
        have B1 := hide b1
        clear b1
        go_wp2_with fail
        refine (only_ok _ _ false _ z1 B1.out).mono ?_
        rintro e w1 ⟨rfl, rfl⟩
        go_wp2
        go_ret
        exact ⟨ret_bool (by rw [NM.out, B1.out]; rfl), HBQ.out⟩
      | true =>
        have B1 := hide b1
        clear b1
        by_cases h45 : s[8] = 45
        · have t45 : (((s[8].toNat : Nat) : Int) == 45) = true := by rw [h45]; rfl
          have H45 := hide h45
          clear h45
          cases b2 : Hog.onlyL (r.extract 0 1).data.toList Hog.firstG with
          | false =>
            have B2 := hide b2
            clear b2
            go_wp2_with fail
            refine (only_ok _ _ true _ z1 B1.out).mono ?_
            rintro e w1 ⟨rfl, rfl⟩
            go_wp2_with fail
            refine (only_ok _ _ false _ z3 B2.out).mono ?_
            rintro e w1 ⟨rfl, rfl⟩
            go_wp2
            go_ret
            exact ⟨ret_bool (by rw [NM.out, B1.out, B2.out, decide_eq_true H45.out]; rfl), HBQ.out⟩
          | true =>
            have B2 := hide b2
            clear b2
            cases b3 : Hog.onlyL r.data.toList Hog.restG with
            | _ =>
              have B3 := hide b3
              clear b3
              go_wp2_with fail
              refine (only_ok _ _ true _ z1 B1.out).mono ?_
              rintro e w1 ⟨rfl, rfl⟩
              go_wp2_with fail
              refine (only_ok _ _ true _ z3 B2.out).mono ?_
              rintro e w1 ⟨rfl, rfl⟩
              go_wp2_with fail
              refine (only_ok _ _ _ _ z2 B3.out).mono ?_
              rintro e w1 ⟨rfl, rfl⟩
              go_wp2
              go_ret
              exact ⟨ret_bool (by rw [NM.out, B1.out, B2.out, B3.out, decide_eq_true H45.out]; rfl), HBQ.out⟩
        · have t45 : (((s[8].toNat : Nat) : Int) == 45) = false := by
            rw [beq_eq_false_iff_ne]
            intro e
            exact h45 (byte_is (n := 45) (by decide) (beq_iff_eq.2 e))
          have H45 := hide h45
          clear h45
          go_wp2_with fail
          refine (only_ok _ _ true _ z1 B1.out).mono ?_
          rintro e w1 ⟨rfl, rfl⟩
          go_wp2
          go_ret
          exact ⟨ret_bool (by rw [NM.out, B1.out, decide_eq_false H45.out]; rfl), HBQ.out⟩

theorem name_ok (s : ByteArray) (b : Bool) (w : World) (hs : s.size ≤ 9223372036854775807) (hv : Hog.nameL s.data.toList = b) :
    Calls Tryd.prog 26 #[.string s] w fun e w' => e = .returned (.bool b) ∧ Below w.heap.size w w' := by
  subst hv
  exact name_any s w hs

set_option maxHeartbeats 400000 in
theorem hash_ok (s : ByteArray) (t : ByteArray) (w : World) (hs : s.size ≤ 9223372036854775807) (hv : Hog.mk (Hog.hashL s.data.toList) = t) :
    Calls Tryd.prog 16 #[.string s] w fun e w' => e = .returned (.string t) ∧ Below w.heap.size w w' := by
  have HV := hide hv
  clear hv
  cases hb : Hog.nameL s.data.toList with
  | false =>
    have HB := hide hb
    clear hb
    go_enter Tryd.func16, Tryd.ntmps16
    go_wp2_with fail
    refine (name_ok s false w hs HB.out).mono ?_
    rintro e w1 ⟨rfl, hb1⟩
    go_wp2
    go_ret
    exact ⟨ret_str (by rw [← HV.out, Hog.hash_none HB.out]; rfl), hb1⟩
  | true =>
    have HB := hide hb
    have h8 : (8 : Int) ≤ (s.size : Int) := by
      have := (Hog.name_iff.1 hb).low
      rw [← Hog.size_len] at this
      omega
    clear hb
    go_enter Tryd.func16, Tryd.ntmps16
    go_wp2_with fail
    refine (name_ok s true w hs HB.out).mono ?_
    rintro e w1 ⟨rfl, hb1⟩
    go_wp2
    go_ret
    exact ⟨ret_str (by rw [← HV.out, Hog.hash_name HB.out, take_mk]), hb1⟩
end Go.Proofs.YtinjbijigjfdfaaDoor
