/- The walks of the document's own Split and Join. -/
import Derived.Test.YtdgchinfanialaaDoorR3
namespace Go.Proofs.YtdgchinfanialaaDoor
open Go.RowKit

theorem rmay_ok (p : ByteArray) (b : Bool) (w0 w : World) (h : Ok w0 w) (hp : p.size < 900000) (hv : Hog.mayL p.data.toList = b) :
    Calls Tryd.prog 34 #[.string p] w fun e w' => e = .returned (.bool b) ∧ Ok w0 w' ∧ Below w.heap.size w w' := by
  refine (rmay_any p w hp).mono ?_
  rintro e w' ⟨rfl, hb⟩
  exact ⟨ret_bool hv, h.next hb, hb⟩
theorem rcut_ok (p : ByteArray) (l : List (List UInt8)) (w0 w : World) (h : Ok w0 w) (hp : p.size < 900000) (hv : Hog.cutL p.data.toList = l) :
    Calls Tryd.prog 47 #[.string p] w fun e w' => ∃ a c, e = .returned (.slice a l.length c) ∧ Own w.heap.size w' (.slice a l.length c) (l.map Hog.mk) ∧ Ok w0 w' ∧ Below w.heap.size w w' := by
  refine (rcut_any p w hp).mono ?_
  rintro e w' ⟨v, rfl, ho, hb⟩
  rw [hv] at ho
  obtain ⟨a, c, e⟩ := ho.form
  rw [List.length_map] at e
  subst e
  exact ⟨a, c, rfl, ho, h.next hb, hb⟩

set_option maxHeartbeats 800000 in
theorem rsplit_ok (p : ByteArray) (l : List (List UInt8)) (w0 w : World) (h : Ok w0 w) (hp : p.size < 900000) (hv : Hog.splitL p.data.toList = l) :
    Calls Tryd.prog 50 #[.string p] w fun e w' => ∃ a c, e = .returned (.slice a l.length c) ∧ Own w.heap.size w' (.slice a l.length c) (l.map Hog.mk) ∧ Ok w0 w' ∧ Below w.heap.size w w' := by
  have HV := hide hv
  clear hv
  by_cases h0 : p.data.toList = []
  · have hb : p.toList.isEmpty = true := by rw [Lib.toList_data, h0]; rfl
    have hl : l = [] := by rw [← HV.out, h0]; decide
    subst hl
    clear h0
    go_enter Tryd.func50, Tryd.ntmps50
    go_wp2_with fail
    go_ret
    exact ⟨none, 0, rfl, Own.nil _ _, h, Below.refl _ _⟩
  · have hb : p.toList.isEmpty = false := by rw [Lib.toList_data]; simpa using h0
    have HE := hide h0
    clear h0
    cases hm : Hog.mayL p.data.toList with
    | false =>
      have HM := hide hm
      clear hm
      have hl : l = [] := by rw [← HV.out]; unfold Hog.splitL; rw [if_neg (by rw [HM.out]; decide)]
      subst hl
      go_enter Tryd.func50, Tryd.ntmps50
      go_wp2_with fail
      refine (rmay_ok p false w0 w h hp HM.out).mono ?_
      rintro e w1 ⟨rfl, ok1, hb1⟩
      go_wp2_with fail
      go_ret
      exact ⟨none, 0, rfl, Own.nil _ _, ok1, hb1⟩
    | true =>
      have HM := hide hm
      clear hm
      have HL := hide (show Hog.cutL p.data.toList = l by rw [← HV.out]; unfold Hog.splitL Hog.cutC; rw [if_pos HM.out, if_neg HE.out])
      go_enter Tryd.func50, Tryd.ntmps50
      go_wp2_with fail
      refine (rmay_ok p true w0 w h hp HM.out).mono ?_
      rintro e w1 ⟨rfl, ok1, hb1⟩
      go_wp2_with fail
      refine (rcut_ok p l w0 w1 ok1 hp HL.out).mono ?_
      rintro e w2 ⟨a, c, rfl, ho, ok2, hb2⟩
      go_wp2_with fail
      go_ret
      exact ⟨a, c, rfl, ho.base hb1.size, ok2, below_two hb1 hb2⟩

theorem join_take_len (l : List (List UInt8)) (k : Nat) : (Hog.joinS (l.take k)).length ≤ (Hog.joinS l).length := by
  by_cases h1 : l.take k = []
  · rw [h1]; simp [Hog.join_nil]
  · by_cases h2 : l.drop k = []
    · have e : l.take k = l := by conv => rhs; rw [← List.take_append_drop k l, h2, List.append_nil]
      rw [e]; exact Nat.le_refl _
    · conv => rhs; rw [← List.take_append_drop k l]
      rw [Hog.join_app _ _ h1 h2]; simp
theorem join_first {l : List (List UInt8)} {y : List UInt8} (h : l[0]? = some y) : Hog.joinS (l.take 1) = y := by
  cases l with
  | nil => simp at h
  | cons x r => simp at h; subst h; rw [List.take_succ_cons, List.take_zero, Hog.join_one]
theorem join_later {l : List (List UInt8)} {k : Nat} {y : List UInt8} (h : l[k]? = some y) (hk : 0 < k) : Hog.joinS (l.take (k + 1)) = Hog.joinS (l.take k) ++ 47 :: y := by
  obtain ⟨hlt, rfl⟩ := List.getElem?_eq_some_iff.1 h
  rw [List.take_succ_eq_append_getElem hlt, Hog.join_app _ _ (by intro e; have := congrArg List.length e; rw [List.length_take, List.length_nil] at this; omega) (by simp), Hog.join_one]
theorem joinOk_part {l : List (List UInt8)} (h : l.all Hog.partL = false) : Hog.joinOk l = false := by
  unfold Hog.joinOk Hog.allP; rw [h, Bool.and_false, Bool.false_and]
theorem joinOk_long {l : List (List UInt8)} {k : Nat} (h : 200 < (Hog.joinS (l.take k)).length) : Hog.joinOk l = false := by
  unfold Hog.joinOk
  rw [decide_eq_false (by have := join_take_len l k; omega), Bool.and_false]
theorem joinV_no {l : List (List UInt8)} (h : Hog.joinOk l = false) : joinV l = [] := by unfold joinV; rw [if_neg (by rw [h]; decide)]
theorem mk_app (a b : List UInt8) : Hog.mk a ++ Hog.mk b = Hog.mk (a ++ b) := by
  rw [← Hog.data_mk (Hog.mk a ++ Hog.mk b)]
  rw [show (Hog.mk a ++ Hog.mk b).data.toList = a ++ b by rw [ByteArray.data_append, Array.toList_append, Hog.mk_data, Hog.mk_data]]
theorem mk_empty : (⟨#[]⟩ : ByteArray) = Hog.mk [] := rfl

set_option maxHeartbeats 1000000 in
theorem rjoin_none (a : Option Addr) (c : Nat) (w0 w : World) (h : Ok w0 w) :
    Calls Tryd.prog 51 #[.slice a 0 c] w fun e w' => e = .returned (.tuple #[.string ⟨#[]⟩, .bool true]) ∧ Ok w0 w' ∧ Below w.heap.size w w' := by
  go_enter Tryd.func51, Tryd.ntmps51
  go_wp2
  go_loop [4, 5] (fun s i => s = .string ⟨#[]⟩ ∧ i = .int .i64 0) (fun _ _ => 0)
  case atStart => exact ⟨rfl, rfl⟩
  case round =>
    obtain ⟨rfl, rfl⟩ := hrel
    go_wp2_with fail
    refine (rmay_ok ⟨#[]⟩ true w0 w h (by decide) (by decide)).mono ?_
    rintro e w1 ⟨rfl, ok1, hb1⟩
    go_wp2_with fail
    go_ret2
    exact ⟨rfl, ok1, hb1⟩

set_option maxRecDepth 100000 in
set_option maxHeartbeats 2000000 in
theorem rjoin_some (b o c : Nat) (l : List (List UInt8)) (w0 w : World) (h : Ok w0 w) (hl : l.length < 1000) (hz : ∀ y ∈ l, y.length < 1000)
    (hcell : ∀ (j : Nat) y, l[j]? = some y → w.cell? ⟨b, o + j, none⟩ = some (.string (Hog.mk y))) :
    Calls Tryd.prog 51 #[.slice (some ⟨b, o, none⟩) l.length c] w fun e w' => e = .returned (.tuple #[.string (Hog.mk (joinV l)), .bool (Hog.joinOk l)]) ∧ Ok w0 w' ∧ Below w.heap.size w w' := by
  have HC := hide hcell
  have HZ := hide hz
  have hms := Hog.mk_size
  clear hcell hz
  go_enter Tryd.func51, Tryd.ntmps51
  go_wp2
  go_loop [4, 5] (fun s i => ∃ (k : Nat) (J : List UInt8), k ≤ l.length ∧ i = .int .i64 k ∧ s = .string (Hog.mk J) ∧ Hid (J = Hog.joinS (l.take k)) ∧ Hid ((l.take k).all Hog.partL = true) ∧ J.length ≤ 2000) (fun _ i => l.length - (intOf i).toNat)
  case atStart => exact ⟨0, [], Nat.zero_le _, rfl, rfl, rfl, rfl, by simp⟩
  case round =>
    obtain ⟨k, J, hk, rfl, rfl, hJ, hall, hJl⟩ := hrel
    by_cases hlt : k < l.length
    · obtain ⟨y, hy⟩ : ∃ y, l[k]? = some y := ⟨l[k], List.getElem?_eq_some_iff.2 ⟨hlt, rfl⟩⟩
      have hc := HC.out k y hy
      have hyz := HZ.out y (List.mem_of_getElem? hy)
      have HY := hide hy
      clear hy
      cases hp : Hog.partL y with
      | false =>
        have HP := hide hp
        clear hp
        go_wp2_with (go_at_call 48; refine (rpart_ok y false _ (by omega) HP.out).mono ?_; rintro e w' ⟨rfl, rfl⟩)
        go_ret2
        have ho := joinOk_part (allL_fall HY.out HP.out)
        exact ⟨ret_two (by rw [joinV_no ho]; rfl) ho.symm, h, Below.refl _ _⟩
      | true =>
        have HP := hide hp
        clear hp
        by_cases hJ2 : J.length ≤ 200
        · have hJ2' : (J.length : Int) ≤ 200 := by omega
          by_cases hk0 : 0 < k
          · have hk0' : (0 : Int) < (k : Int) := by omega
            go_wp2_with (go_at_call 48; refine (rpart_ok y true _ (by omega) HP.out).mono ?_; rintro e w' ⟨rfl, rfl⟩)
            go_round
            case rel =>
              refine ⟨k + 1, J ++ 47 :: y, by omega, by go_num, ?_, ?_, allL_step HY.out hall.out HP.out, by simp; omega⟩
              · rw [show (⟨#[47]⟩ : ByteArray) = Hog.mk [47] from rfl, mk_app, mk_app]; simp
              · show J ++ 47 :: y = _
                rw [join_later HY.out hk0, ← hJ.out]
            case measure => simp [intOf]; omega
          · have hk1 : k = 0 := by omega
            subst hk1
            have hJ0 : J = [] := hJ.out
            subst hJ0
            have hc0 : w.cell? ⟨b, o, none⟩ = some (.string (Hog.mk y)) := by simpa using hc
            go_wp2_with (go_at_call 48; refine (rpart_ok y true _ (by omega) HP.out).mono ?_; rintro e w' ⟨rfl, rfl⟩)
            go_round
            case rel =>
              refine ⟨1, y, by omega, by go_num, ?_, (join_first HY.out).symm, allL_step HY.out hall.out HP.out, by omega⟩
              rw [mk_app]; rfl
            case measure => simp [intOf]; omega
        · have hJ2' : (200 : Int) < (J.length : Int) := by omega
          go_wp2_with (go_at_call 48; refine (rpart_ok y true _ (by omega) HP.out).mono ?_; rintro e w' ⟨rfl, rfl⟩)
          go_ret2
          have ho : Hog.joinOk l = false := joinOk_long (k := k) (by rw [← hJ.out]; omega)
          exact ⟨ret_two (by rw [joinV_no ho]; rfl) ho.symm, h, Below.refl _ _⟩
    · have e : k = l.length := by omega
      have h1 := hall.out
      have h2 := hJ.out
      rw [e, List.take_length] at h1 h2
      have hv := hide (Hog.may_join h1)
      have h2' := hide h2
      clear h1 h2 e
      cases hb : Hog.joinOk l with
      | true =>
        have HB := hide hb
        clear hb
        go_wp2_with fail
        refine (rmay_ok (Hog.mk J) true w0 w h (by rw [Hog.mk_size]; omega) (by rw [Hog.mk_data, h2'.out, hv.out]; exact HB.out)).mono ?_
        rintro e w1 ⟨rfl, ok1, hb1⟩
        go_wp2_with fail
        go_ret2
        exact ⟨ret_two (by unfold joinV; rw [if_pos HB.out, h2'.out]) HB.out.symm, ok1, hb1⟩
      | false =>
        have HB := hide hb
        clear hb
        go_wp2_with fail
        refine (rmay_ok (Hog.mk J) false w0 w h (by rw [Hog.mk_size]; omega) (by rw [Hog.mk_data, h2'.out, hv.out]; exact HB.out)).mono ?_
        rintro e w1 ⟨rfl, ok1, hb1⟩
        go_wp2_with fail
        go_ret2
        exact ⟨ret_two (by rw [joinV_no HB.out]; rfl) HB.out.symm, ok1, hb1⟩

theorem rjoin_ok (v : Value) (l : List (List UInt8)) (s : List UInt8) (b : Bool) (w0 w : World) (h : Ok w0 w) (ht : Txt w v (l.map Hog.mk)) (hl : l.length < 1000) (hz : ∀ y ∈ l, y.length < 1000) (hs : joinV l = s) (hb : Hog.joinOk l = b) :
    Calls Tryd.prog 51 #[v] w fun e w' => e = .returned (.tuple #[.string (Hog.mk s), .bool b]) ∧ Ok w0 w' ∧ Below w.heap.size w w' := by
  subst hs
  subst hb
  rcases ht with ⟨e, a, c, rfl⟩ | ⟨b, o, c, rfl, hc, hbk, hcell⟩
  · have hn : l = [] := List.map_eq_nil_iff.1 e
    subst hn
    refine (rjoin_none a c w0 w h).mono ?_
    rintro e w' ⟨rfl, ok1, hb1⟩
    exact ⟨rfl, ok1, hb1⟩
  · rw [List.length_map]
    exact rjoin_some b o c l w0 w h hl hz (fun j y hy => hcell j (Hog.mk y) (by simp [hy]))

end Go.Proofs.YtdgchinfanialaaDoor
