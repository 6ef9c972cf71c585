/- The walk of the statement PathTells: for every two texts it answers true. -/
import Derived.Test.YtphjllnpabpohaaDoorR7
namespace Go.Proofs.YtphjllnpabpohaaDoor
open Go.RowKit

theorem split_len (p : List UInt8) (h : p.length ≤ 300) : (Hog.splitL p).length ≤ 301 := by
  unfold Hog.splitL
  split
  · have := Hog.cutC_len p; omega
  · simp

theorem part_any' (p : ByteArray) (b : Bool) (w : World) (hp : p.size < 900000) (hv : Hog.partL p.data.toList = b) :
    Calls Tryd.prog 15 #[.string p] w fun e w' => e = .returned (.bool b) ∧ w' = w := by
  refine (part_any p w (by omega)).mono ?_
  rintro e w' ⟨rfl, rfl⟩
  exact ⟨ret_bool hv, rfl⟩
theorem rpart_any' (p : ByteArray) (b : Bool) (w : World) (hp : p.size < 900000) (hv : Hog.partL p.data.toList = b) :
    Calls Tryd.prog 16 #[.string p] w fun e w' => e = .returned (.bool b) ∧ w' = w := by
  refine (rpart_any p w (by omega)).mono ?_
  rintro e w' ⟨rfl, rfl⟩
  exact ⟨ret_bool hv, rfl⟩

set_option maxRecDepth 100000 in
set_option maxHeartbeats 2000000 in
theorem tells_main (p q : ByteArray) (w : World) (hsh : w.ShapedOpen Tryd.prog) (h1 : (p.size : Int) ≤ 300) (h2 : (q.size : Int) ≤ 300) :
    Calls Tryd.prog 3 #[.string p, .string q] w fun e w' => e = .returned (.bool true) ∧ Below w.heap.size w w' := by
  have h0 : Ok w w := Ok.start hsh
  have hml := Hog.mk_toList
  obtain ⟨l, hl⟩ : ∃ l, Hog.splitL p.data.toList = l := ⟨_, rfl⟩
  obtain ⟨pq, hpq⟩ : ∃ x, Hog.parentL p.data.toList = x := ⟨_, rfl⟩
  obtain ⟨pb, hpb⟩ : ∃ x, Hog.parentOk p.data.toList = x := ⟨_, rfl⟩
  obtain ⟨b1, hb1⟩ : ∃ x, Hog.partL p.data.toList = x := ⟨_, rfl⟩
  obtain ⟨b2, hb2⟩ : ∃ x, Hog.mayL p.data.toList = x := ⟨_, rfl⟩
  obtain ⟨x, hx⟩ : ∃ x, Hog.baseL p.data.toList = x := ⟨_, rfl⟩
  obtain ⟨b3, hb3⟩ : ∃ x, Hog.underL p.data.toList q.data.toList = x := ⟨_, rfl⟩
  obtain ⟨b4, hb4⟩ : ∃ x, Hog.underL q.data.toList p.data.toList = x := ⟨_, rfl⟩
  have hln : l.length ≤ 301 := by rw [← hl]; exact split_len _ (by rw [← Hog.size_len]; omega)
  have HL := hide hl; have HPQ := hide hpq; have HPB := hide hpb; have HB1 := hide hb1; have HB2 := hide hb2; have HX := hide hx; have HB3 := hide hb3; have HB4 := hide hb4
  clear hl hpq hpb hb1 hb2 hx hb3 hb4
  go_enter Tryd.func3, Tryd.ntmps3
  go_wp2_with fail
  refine (split_ok p l w w h0 (by omega) HL.out).mono ?_
  rintro e w1 ⟨a1, c1, rfl, ho1, ok1, _⟩
  have HO1 := hide ho1
  clear ho1
  go_wp2_with fail
  refine (parent_ok p pq pb w w1 ok1 (by omega) HPQ.out HPB.out).mono ?_
  rintro e w2 ⟨rfl, ok2, bl2⟩
  have HO2 := hide (HO1.out.below bl2)
  clear bl2
  go_wp2_with fail
  refine (rparent_ok p pq pb w w2 ok2 (by omega) HPQ.out HPB.out).mono ?_
  rintro e w3 ⟨rfl, ok3, bl3⟩
  have HO3 := hide (HO2.out.below bl3)
  clear bl3
  go_wp2_with fail
  refine (rsplit_ok p l w w3 ok3 (by omega) HL.out).mono ?_
  rintro e w4 ⟨a4, c4, rfl, ho4, ok4, bl4⟩
  have HO4 := hide (HO3.out.below bl4)
  have HT4 := hide ho4.txt
  clear bl4 ho4
  go_wp2_with fail
  refine (same_ok _ _ l l true w w4 ok4 HO4.out.txt HT4.out (by omega) (by simp)).mono ?_
  rintro e w5 ⟨rfl, ok5, bl5⟩
  have HO5 := hide (HO4.out.below bl5)
  clear bl5
  go_wp2_with fail
  refine (over_ok _ _ w.heap.size w w5 ok5 HO5.out (Nat.le_refl _) (by simp; omega)).mono ?_
  rintro e w6 ⟨rfl, ok6⟩
  go_wp2_with fail
  refine (part_any' p b1 w6 (by omega) HB1.out).mono ?_
  rintro e w7 ⟨rfl, rfl⟩
  go_wp2_with fail
  refine (rpart_any' p b1 _ (by omega) HB1.out).mono ?_
  rintro e w7 ⟨rfl, rfl⟩
  go_wp2_with fail
  refine (may_ok p b2 w _ ok6 (by omega) HB2.out).mono ?_
  rintro e w8 ⟨rfl, ok8, _⟩
  go_wp2_with fail
  refine (rmay_ok p b2 w w8 ok8 (by omega) HB2.out).mono ?_
  rintro e w9 ⟨rfl, ok9, _⟩
  go_wp2_with fail
  refine (base_ok p x w w9 ok9 (by omega) HX.out).mono ?_
  rintro e w10 ⟨rfl, ok10, _⟩
  go_wp2_with fail
  refine (rbase_ok p x w w10 ok10 (by omega) HX.out).mono ?_
  rintro e w11 ⟨rfl, ok11, _⟩
  go_wp2_with fail
  refine (under_ok p q b3 w w11 ok11 (by omega) (by omega) HB3.out).mono ?_
  rintro e w12 ⟨rfl, ok12, _⟩
  go_wp2_with fail
  refine (runder_ok p q b3 w w12 ok12 (by omega) (by omega) HB3.out).mono ?_
  rintro e w13 ⟨rfl, ok13, _⟩
  go_wp2_with fail
  refine (under_ok q p b4 w w13 ok13 (by omega) (by omega) HB4.out).mono ?_
  rintro e w14 ⟨rfl, ok14, _⟩
  go_wp2_with fail
  refine (runder_ok q p b4 w w14 ok14 (by omega) (by omega) HB4.out).mono ?_
  rintro e w15 ⟨rfl, ok15, _⟩
  go_wp2_with fail
  refine (awake_ok w w15 ok15).mono ?_
  rintro e w16 ⟨rfl, ok16, _⟩
  go_wp2_with fail
  go_ret
  exact ⟨rfl, ok16.2⟩

set_option maxHeartbeats 400000 in
theorem tells_walk (p q : ByteArray) (w : World) (hsh : w.ShapedOpen Tryd.prog) :
    Calls Tryd.prog 3 #[.string p, .string q] w fun e w' => e = .returned (.bool true) ∧ Below w.heap.size w w' := by
  by_cases h1 : (p.size : Int) ≤ 300
  · by_cases h2 : (q.size : Int) ≤ 300
    · exact tells_main p q w hsh h1 h2
    · have h2' : (300 : Int) < (q.size : Int) := by omega
      clear h2
      go_enter Tryd.func3, Tryd.ntmps3
      go_wp2_with fail
      refine (awake_ok w w (Ok.start hsh)).mono ?_
      rintro e w1 ⟨rfl, ok1, _⟩
      go_wp2_with fail
      go_ret
      exact ⟨rfl, ok1.2⟩
  · have h1' : (300 : Int) < (p.size : Int) := by omega
    clear h1
    go_enter Tryd.func3, Tryd.ntmps3
    go_wp2_with fail
    refine (awake_ok w w (Ok.start hsh)).mono ?_
    rintro e w1 ⟨rfl, ok1, _⟩
    go_wp2_with fail
    go_ret
    exact ⟨rfl, ok1.2⟩

end Go.Proofs.YtphjllnpabpohaaDoor
