/- The walk of the document's own Under. -/
import Derived.Test.YtphjllnpabpohaaDoorR5
namespace Go.Proofs.YtphjllnpabpohaaDoor
open Go.RowKit

theorem under_val (p d : ByteArray) (h1 : Hog.mayL p.data.toList = true) (h2 : Hog.mayL d.data.toList = true) :
    Hog.underL p.data.toList d.data.toList = (p.toList == d.toList || d.toList.isEmpty || Lib.hasPrefix p.data.toList (d.data.toList ++ [47])) := by
  unfold Hog.underL
  rw [h1, h2, Lib.toList_data, Lib.toList_data]; rfl

theorem pre_val (p d : ByteArray) (h : d.size < p.size) :
    Lib.hasPrefix p.data.toList (d.data.toList ++ [47]) = ((p.extract 0 d.size).toList == d.toList && ((p[d.size].toNat : Int) == 47)) := by
  rw [Lib.toList_data, Lib.toList_data, Lib.extract_data, Nat.sub_zero, List.drop_zero, Bool.eq_iff_iff, Bool.and_eq_true, Hog.hasPrefix_iff, beq_iff_eq]
  have hd := Hog.size_len d
  have hb := at_byte p d.size h
  constructor
  · rintro ⟨t, ht⟩
    have e1 : p.data.toList.take d.size = d.data.toList := by rw [← ht, hd]; simp
    refine ⟨e1, ?_⟩
    have e2 : p.data.toList[d.size]? = some 47 := by rw [← ht, hd]; simp
    have e3 : p[d.size] = 47 := Option.some.inj (hb.symm.trans e2)
    rw [e3]; rfl
  · rintro ⟨e1, e2⟩
    have e3 : p[d.size] = 47 := byte_is (n := 47) (by decide) e2
    obtain ⟨hlt, hv⟩ := List.getElem?_eq_some_iff.1 hb
    refine ⟨p.data.toList.drop (d.size + 1), ?_⟩
    conv => rhs; rw [← List.take_append_drop d.size p.data.toList, e1, List.drop_eq_getElem_cons hlt, hv, e3]
    simp
theorem pre_short (p d : ByteArray) (h : p.size ≤ d.size) : Lib.hasPrefix p.data.toList (d.data.toList ++ [47]) = false := by
  cases hh : Lib.hasPrefix p.data.toList (d.data.toList ++ [47]) with
  | false => rfl
  | true =>
    have := ((Hog.hasPrefix_iff _ _).1 hh).length_le
    rw [List.length_append, ← Hog.size_len, ← Hog.size_len] at this
    simp at this; omega

set_option maxHeartbeats 1000000 in
theorem runder_ok (p d : ByteArray) (b : Bool) (w0 w : World) (h : Ok w0 w) (hp : p.size < 900000) (hd : d.size < 900000) (hv : Hog.underL p.data.toList d.data.toList = b) :
    Calls Tryd.prog 22 #[.string p, .string d] w fun e w' => e = .returned (.bool b) ∧ Ok w0 w' ∧ Below w.heap.size w w' := by
  subst hv
  cases hm : Hog.mayL p.data.toList with
  | false =>
    have HM := hide hm
    clear hm
    go_enter Tryd.func22, Tryd.ntmps22
    go_wp2_with fail
    refine (rmay_ok p false w0 w h hp HM.out).mono ?_
    rintro e w1 ⟨rfl, ok1, hb1⟩
    go_wp2_with fail
    go_ret
    exact ⟨ret_bool (by rw [Hog.under_not HM.out]), ok1, hb1⟩
  | true =>
    cases hk : Hog.mayL d.data.toList with
    | false =>
      have HM := hide hm
      have HK := hide hk
      clear hm hk
      go_enter Tryd.func22, Tryd.ntmps22
      go_wp2_with fail
      refine (rmay_ok p true w0 w h hp HM.out).mono ?_
      rintro e w1 ⟨rfl, ok1, hb1⟩
      go_wp2_with fail
      refine (rmay_ok d false w0 w1 ok1 hd HK.out).mono ?_
      rintro e w2 ⟨rfl, ok2, hb2⟩
      go_wp2_with fail
      go_ret
      exact ⟨ret_bool (by rw [Hog.under_not2 HK.out]), ok2, below_two hb1 hb2⟩
    | true =>
      have HU := hide (under_val p d hm hk)
      have HM := hide hm
      have HK := hide hk
      clear hm hk
      by_cases hsz : d.size < p.size
      · have hsz' : (d.size : Int) < (p.size : Int) := by omega
        have HV := hide (pre_val p d hsz)
        go_enter Tryd.func22, Tryd.ntmps22
        go_wp2_with fail
        refine (rmay_ok p true w0 w h hp HM.out).mono ?_
        rintro e w1 ⟨rfl, ok1, hb1⟩
        go_wp2_with fail
        refine (rmay_ok d true w0 w1 ok1 hd HK.out).mono ?_
        rintro e w2 ⟨rfl, ok2, hb2⟩
        go_wp2
        all_goals
          go_ret
          refine ⟨ret_bool ?_, ok2, below_two hb1 hb2⟩
          rw [HU.out, HV.out]
          simp_all
      · have hsz' : (p.size : Int) ≤ (d.size : Int) := by omega
        have HV := hide (pre_short p d (by omega))
        go_enter Tryd.func22, Tryd.ntmps22
        go_wp2_with fail
        refine (rmay_ok p true w0 w h hp HM.out).mono ?_
        rintro e w1 ⟨rfl, ok1, hb1⟩
        go_wp2_with fail
        refine (rmay_ok d true w0 w1 ok1 hd HK.out).mono ?_
        rintro e w2 ⟨rfl, ok2, hb2⟩
        go_wp2
        all_goals
          go_ret
          refine ⟨ret_bool ?_, ok2, below_two hb1 hb2⟩
          rw [HU.out, HV.out]
          simp_all

end Go.Proofs.YtphjllnpabpohaaDoor
