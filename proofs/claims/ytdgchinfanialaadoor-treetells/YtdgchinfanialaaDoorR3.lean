/- The walks of the document's own May, Split, Under. -/
import Derived.Test.YtdgchinfanialaaDoorR2
namespace Go.Proofs.YtdgchinfanialaaDoor
open Go.RowKit

/-- Texts that are not none lie at an address. -/
theorem Txt.at {w : World} {v : Value} {l : List (List UInt8)} (h : Txt w v (l.map Hog.mk)) (hne : l ≠ []) :
    ∃ b o c, v = .slice (some ⟨b, o, none⟩) l.length c ∧ l.length ≤ c ∧ b < w.heap.size ∧ ∀ (j : Nat) y, l[j]? = some y → w.cell? ⟨b, o + j, none⟩ = some (.string (Hog.mk y)) := by
  rcases h with ⟨e, _⟩ | ⟨b, o, c, rfl, hc, hb, hcell⟩
  · exact absurd (List.map_eq_nil_iff.1 e) hne
  · refine ⟨b, o, c, by rw [List.length_map], by simpa using hc, hb, fun j y hy => hcell j (Hog.mk y) (by simp [hy])⟩

theorem rpart_ok (x : List UInt8) (b : Bool) (w : World) (hp : x.length < 999999) (hv : Hog.partL x = b) :
    Calls Tryd.prog 48 #[.string (Hog.mk x)] w fun e w' => e = .returned (.bool b) ∧ w' = w := by
  refine (rpart_any (Hog.mk x) w (by rw [Hog.mk_size]; omega)).mono ?_
  rintro e w' ⟨rfl, rfl⟩
  exact ⟨ret_bool (by rw [Hog.mk_data]; exact hv), rfl⟩

theorem allL_step {l : List (List UInt8)} {k : Nat} {y : List UInt8} (hy : l[k]? = some y) (h : (l.take k).all Hog.partL = true) (hp : Hog.partL y = true) : (l.take (k + 1)).all Hog.partL = true := by
  obtain ⟨hk, rfl⟩ := List.getElem?_eq_some_iff.1 hy
  rw [List.take_succ_eq_append_getElem hk, List.all_append, h]
  simpa using hp
theorem allL_fall {l : List (List UInt8)} {k : Nat} {y : List UInt8} (hy : l[k]? = some y) (hp : Hog.partL y = false) : l.all Hog.partL = false := by
  rw [List.all_eq_false]
  exact ⟨y, List.mem_of_getElem? hy, by simp [hp]⟩

theorem may_cut {p : List UInt8} (hne : p ≠ []) : Hog.mayL p = (decide (p.length ≤ 200) && (decide ((Hog.cutL p).length ≤ 10) && (Hog.cutL p).all Hog.partL)) := by
  unfold Hog.mayL Hog.allP Hog.cutC
  rw [if_neg hne]

set_option maxHeartbeats 1000000 in
theorem rmay_any (s : ByteArray) (w : World) (hs : s.size < 900000) :
    Calls Tryd.prog 34 #[.string s] w fun e w' => e = .returned (.bool (Hog.mayL s.data.toList)) ∧ Below w.heap.size w w' := by
  by_cases h0 : s.data.toList = []
  · have hb : s.toList.isEmpty = true := by rw [Lib.toList_data, h0]; rfl
    have HE := hide h0
    clear h0
    go_enter Tryd.func34, Tryd.ntmps34
    go_wp2_with fail
    go_ret
    exact ⟨ret_bool (by rw [HE.out]; decide), Below.refl _ _⟩
  · have hb : s.toList.isEmpty = false := by rw [Lib.toList_data]; simpa using h0
    have HE := hide h0
    clear h0
    by_cases h : s.size ≤ 200
    · have h' : (s.size : Int) ≤ 200 := by omega
      have HC := hide (Hog.cut_len s.data.toList)
      obtain ⟨l, hl⟩ : ∃ l, l = Hog.cutL s.data.toList := ⟨_, rfl⟩
      have HL := hide hl
      have hln : l.length ≤ 201 := by have := HC.out; rw [hl]; rw [← Hog.size_len] at this; omega
      have hne := hide (show l ≠ [] by rw [hl]; exact Hog.cut_ne _)
      have HZ := hide (show ∀ y ∈ l, y.length ≤ 200 by intro y hy; rw [hl] at hy; have := Hog.cut_part_len _ y hy; rw [← Hog.size_len] at this; omega)
      have HM := hide (show Hog.mayL s.data.toList = (decide (l.length ≤ 10) && l.all Hog.partL) by
        rw [may_cut HE.out, ← hl, ← Hog.size_len, decide_eq_true h, Bool.true_and])
      clear hl HC h
      go_enter Tryd.func34, Tryd.ntmps34
      go_wp2_with fail
      refine (rcut_any s w hs).mono ?_
      rintro e w1 ⟨v, rfl, ho, hb1⟩
      rw [← HL.out] at ho
      obtain ⟨b, o, c, hv, _, _, hcell⟩ := ho.txt.at hne.out
      rw [hv]
      have HB := hide hb1
      have HCELL := hide hcell
      clear ho hv hb1 hcell
      go_wp2
      go_loop [4] (fun i => ∃ k : Nat, k ≤ l.length ∧ i = .int .i64 k ∧ Hid ((l.take k).all Hog.partL = true)) (fun i => l.length - (intOf i).toNat)
      case atStart => exact ⟨0, Nat.zero_le _, rfl, rfl⟩
      case round =>
        obtain ⟨k, hk, rfl, hall⟩ := hrel
        by_cases hlt : k < l.length
        · obtain ⟨y, hy⟩ : ∃ y, l[k]? = some y := ⟨l[k], List.getElem?_eq_some_iff.2 ⟨hlt, rfl⟩⟩
          have hc := HCELL.out k y hy
          have hyz := HZ.out y (List.mem_of_getElem? hy)
          have HY := hide hy
          clear hy
          cases hp : Hog.partL y with
          | true =>
            have HP := hide hp
            clear hp
            go_wp2_with (go_at_call 48; refine (rpart_ok y true _ (by omega) HP.out).mono ?_; rintro e w' ⟨rfl, rfl⟩)
            go_round
            case rel => exact ⟨k + 1, by omega, by go_num, allL_step HY.out hall.out HP.out⟩
            case measure => simp [intOf]; omega
          | false =>
            have HP := hide hp
            clear hp
            go_wp2_with (go_at_call 48; refine (rpart_ok y false _ (by omega) HP.out).mono ?_; rintro e w' ⟨rfl, rfl⟩)
            go_ret
            exact ⟨ret_bool (by rw [HM.out, allL_fall HY.out HP.out, Bool.and_false]), HB.out⟩
        · go_wp2
          go_ret
          refine ⟨ret_bool ?_, HB.out⟩
          have e : k = l.length := by omega
          have h1 := hall.out
          rw [e, List.take_length] at h1
          rw [HM.out, h1, Bool.and_true]
          rw [Bool.eq_iff_iff]
          simp only [decide_eq_true_eq]
          omega
    · have h' : (200 : Int) < (s.size : Int) := by omega
      go_enter Tryd.func34, Tryd.ntmps34
      go_wp2_with fail
      go_ret
      exact ⟨ret_bool (by rw [may_cut HE.out, ← Hog.size_len, decide_eq_false h, Bool.false_and]), Below.refl _ _⟩

end Go.Proofs.YtdgchinfanialaaDoor
