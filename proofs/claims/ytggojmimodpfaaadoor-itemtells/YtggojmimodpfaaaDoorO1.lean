/- The walk of ItemHashes. -/
import Derived.Test.YtggojmimodpfaaaDoorXA
import Derived.Test.YtggojmimodpfaaaDoorT3
import Derived.BigQuiet
namespace Go.Proofs.YtggojmimodpfaaaDoor
open Go.RowKit

theorem app_data (x y : ByteArray) : (x ++ y).data.toList = x.data.toList ++ y.data.toList := by simp
theorem name_long {s : ByteArray} (h : 30 < s.size) : Hog.nameL s.data.toList = false := Hog.name_not fun k => by have := k.high; rw [← Hog.size_len] at this; omega
theorem name_size {s : ByteArray} (h : Hog.nameL s.data.toList = true) : 10 ≤ s.size ∧ s.size ≤ 30 := by
  have k := Hog.name_iff.1 h
  have h1 := k.low
  have h2 := k.high
  rw [← Hog.size_len] at h1 h2
  exact ⟨h1, h2⟩
theorem hash_not {s : ByteArray} (h : Hog.nameL s.data.toList = false) : Hog.mk (Hog.hashL s.data.toList) = ⟨#[]⟩ := by rw [Hog.hash_none h]; rfl
theorem hash_is {s : ByteArray} (h : Hog.nameL s.data.toList = true) : Hog.mk (Hog.hashL s.data.toList) = s.extract 0 8 := by rw [Hog.hash_name h, take_mk]
theorem cross_data (a b : ByteArray) : (a.extract 0 8 ++ b.extract 8 b.size).data.toList = a.data.toList.take 8 ++ b.data.toList.drop 8 := by
  rw [app_data, take_mk, drop_mk, Hog.mk_data, Hog.mk_data]
theorem cross_name {a b : ByteArray} (ha : Hog.nameL a.data.toList = true) (hb : Hog.nameL b.data.toList = true) : Hog.nameL (a.extract 0 8 ++ b.extract 8 b.size).data.toList = true := by
  rw [cross_data]
  exact Hog.name_iff.2 (Hog.name_cross (Hog.name_iff.1 ha) (Hog.name_iff.1 hb))
theorem cross_hash {a b : ByteArray} (ha : Hog.nameL a.data.toList = true) (hb : Hog.nameL b.data.toList = true) : Hog.mk (Hog.hashL (a.extract 0 8 ++ b.extract 8 b.size).data.toList) = a.extract 0 8 := by
  rw [Hog.hash_name (cross_name ha hb), cross_data, Hog.cross_take (by have := (name_size ha).1; rw [Hog.size_len] at this; omega), take_mk]

set_option maxRecDepth 100000 in
set_option maxHeartbeats 1000000 in
theorem hashes_rest (a b : ByteArray) (w : World) (hsh : w.ShapedOpen Tryd.prog) (ha : a.size ≤ maxLen) (hb : b.size ≤ maxLen)
    (hg : 100 < a.size ∨ 100 < b.size ∨ Hog.nameL a.data.toList = false ∨ Hog.nameL b.data.toList = false) :
    Calls Tryd.prog 6 #[.string a, .string b] w fun e w' => e = .returned (.bool true) ∧ Below w.heap.size w w' := by
  unfold maxLen at ha hb
  have HOK := hide (Ok.start hsh)
  have HSH := hide hsh
  clear hsh
  by_cases h1 : 100 < a.size
  · have h1' : (100 : Int) < (a.size : Int) := by omega
    have HNA := hide (name_long (show 30 < a.size by omega))
    go_enter Tryd.func6, Tryd.ntmps6
    go_wp2_with fail
    refine (name_ok a false w (by omega) HNA.out).mono ?_
    rintro e w1 ⟨rfl, hb1⟩
    have HB1 := hide hb1
    clear hb1
    go_wp2_with fail
    refine (hash_ok a ⟨#[]⟩ w1 (by omega) (hash_not HNA.out)).mono ?_
    rintro e w2 ⟨rfl, hb2⟩
    have HB2 := hide (below_two HB1.out hb2)
    clear hb2 HB1
    go_wp2_with fail
    refine (awake7_ok w w2 ⟨HSH.out, HB2.out⟩).mono ?_
    rintro e w3 ⟨rfl, ok3, _⟩
    go_wp2
    go_ret
    exact ⟨rfl, ok3.2⟩
  · have h1' : (a.size : Int) ≤ 100 := by omega
    by_cases h2 : 100 < b.size
    · have h2' : (100 : Int) < (b.size : Int) := by omega
      cases hna : Hog.nameL a.data.toList with
      | true =>
        have HNA := hide hna
        clear hna
        go_enter Tryd.func6, Tryd.ntmps6
        go_wp2_with fail
        refine (name_ok a true w (by omega) HNA.out).mono ?_
        rintro e w1 ⟨rfl, hb1⟩
        have HB1 := hide hb1
        clear hb1
        go_wp2_with fail
        refine (awake7_ok w w1 ⟨HSH.out, HB1.out⟩).mono ?_
        rintro e w3 ⟨rfl, ok3, _⟩
        go_wp2
        go_ret
        exact ⟨rfl, ok3.2⟩
      | false =>
        have HNA := hide hna
        clear hna
        go_enter Tryd.func6, Tryd.ntmps6
        go_wp2_with fail
        refine (name_ok a false w (by omega) HNA.out).mono ?_
        rintro e w1 ⟨rfl, hb1⟩
        have HB1 := hide hb1
        clear hb1
        go_wp2_with fail
        refine (hash_ok a ⟨#[]⟩ w1 (by omega) (hash_not HNA.out)).mono ?_
        rintro e w2 ⟨rfl, hb2⟩
        have HB2 := hide (below_two HB1.out hb2)
        clear hb2 HB1
        go_wp2_with fail
        refine (awake7_ok w w2 ⟨HSH.out, HB2.out⟩).mono ?_
        rintro e w3 ⟨rfl, ok3, _⟩
        go_wp2
        go_ret
        exact ⟨rfl, ok3.2⟩
    · have h2' : (b.size : Int) ≤ 100 := by omega
      cases hna : Hog.nameL a.data.toList with
      | false =>
        have HNA := hide hna
        clear hna
        go_enter Tryd.func6, Tryd.ntmps6
        go_wp2_with fail
        refine (name_ok a false w (by omega) HNA.out).mono ?_
        rintro e w1 ⟨rfl, hb1⟩
        have HB1 := hide hb1
        clear hb1
        go_wp2_with fail
        refine (name_ok a false w1 (by omega) HNA.out).mono ?_
        rintro e w2 ⟨rfl, hb2⟩
        have HB2 := hide (below_two HB1.out hb2)
        clear hb2 HB1
        go_wp2_with fail
        refine (hash_ok a ⟨#[]⟩ w2 (by omega) (hash_not HNA.out)).mono ?_
        rintro e w3 ⟨rfl, hb3⟩
        have HB3 := hide (below_two HB2.out hb3)
        clear hb3 HB2
        go_wp2_with fail
        refine (awake7_ok w w3 ⟨HSH.out, HB3.out⟩).mono ?_
        rintro e w4 ⟨rfl, ok4, _⟩
        go_wp2
        go_ret
        exact ⟨rfl, ok4.2⟩
      | true =>
        have HNA := hide hna
        have HNB : Hid (Hog.nameL b.data.toList = false) := by
          rcases hg with k | k | k | k
          · omega
          · omega
          · rw [hna] at k; cases k
          · exact k
        clear hna hg
        go_enter Tryd.func6, Tryd.ntmps6
        go_wp2_with fail
        refine (name_ok a true w (by omega) HNA.out).mono ?_
        rintro e w1 ⟨rfl, hb1⟩
        have HB1 := hide hb1
        clear hb1
        go_wp2_with fail
        refine (name_ok b false w1 (by omega) HNB.out).mono ?_
        rintro e w2 ⟨rfl, hb2⟩
        have HB2 := hide (below_two HB1.out hb2)
        clear hb2 HB1
        go_wp2_with fail
        refine (name_ok a true w2 (by omega) HNA.out).mono ?_
        rintro e w3 ⟨rfl, hb3⟩
        have HB3 := hide (below_two HB2.out hb3)
        clear hb3 HB2
        go_wp2_with fail
        refine (awake7_ok w w3 ⟨HSH.out, HB3.out⟩).mono ?_
        rintro e w4 ⟨rfl, ok4, _⟩
        go_wp2
        go_ret
        exact ⟨rfl, ok4.2⟩

set_option maxRecDepth 100000 in
set_option maxHeartbeats 2000000 in
theorem hashes_main (a b : ByteArray) (w : World) (hsh : w.ShapedOpen Tryd.prog) (h1 : a.size ≤ 100) (h2 : b.size ≤ 100) (ha : Hog.nameL a.data.toList = true) (hb : Hog.nameL b.data.toList = true) :
    Calls Tryd.prog 6 #[.string a, .string b] w fun e w' => e = .returned (.bool true) ∧ Below w.heap.size w w' := by
  have HSH := hide hsh
  have h1' : (a.size : Int) ≤ 100 := by omega
  have h2' : (b.size : Int) ≤ 100 := by omega
  have h3' : (10 : Int) ≤ (a.size : Int) := by have := (name_size ha).1; omega
  have h4' : (10 : Int) ≤ (b.size : Int) := by have := (name_size hb).1; omega
  have h5' : (8 : Int) ≤ (a.size : Int) := by omega
  have h6' : (8 : Int) ≤ (b.size : Int) := by omega
  have HNA := hide ha
  have HNB := hide hb
  clear hsh ha hb
  go_enter Tryd.func6, Tryd.ntmps6
  go_wp2_with fail
  refine (name_ok a true w (by omega) HNA.out).mono ?_
  rintro e w1 ⟨rfl, hb1⟩
  have HB1 := hide hb1
  clear hb1
  go_wp2_with fail
  refine (name_ok b true w1 (by omega) HNB.out).mono ?_
  rintro e w2 ⟨rfl, hb2⟩
  have HB2 := hide (below_two HB1.out hb2)
  clear hb2 HB1
  go_wp2
  go_quiet (fail)
  obtain ⟨c, hc⟩ : ∃ c, c = a.extract 0 8 ++ b.extract 8 b.size := ⟨_, rfl⟩
  have HNC : Hid (Hog.nameL c.data.toList = true) := by rw [hc]; exact cross_name HNA.out HNB.out
  have HHC : Hid (Hog.mk (Hog.hashL c.data.toList) = a.extract 0 8) := by rw [hc]; exact cross_hash HNA.out HNB.out
  rw [← hc]
  clear hc
  have HB3 := hide (below_two HB2.out (below_drewN (Below.refl _ w2) nq))
  obtain ⟨w3, hw3⟩ : ∃ w3, w3 = w2.drewN nq := ⟨_, rfl⟩
  rw [← hw3] at HB3 ⊢
  clear hw3 HB2
  have zc : c.size ≤ 9223372036854775807 := by have := (name_size HNC.out).2; omega
  have HC1 : Hid (∀ p : Later w3, Calls Tryd.prog 13 #[.string c] p.w1 fun e w' => e = .returned (.bool true) ∧ Below p.w1.heap.size p.w1 w') := fun p => name_ok c true p.w1 zc HNC.out
  have HC2 : Hid (∀ p : Later w3, Calls Tryd.prog 15 #[.string c] p.w1 fun e w' => e = .returned (.string (a.extract 0 8)) ∧ Below p.w1.heap.size p.w1 w') := fun p => hash_ok c _ p.w1 zc HHC.out
  have HC3 : Hid (∀ p : Later w3, Calls Tryd.prog 15 #[.string a] p.w1 fun e w' => e = .returned (.string (a.extract 0 8)) ∧ Below p.w1.heap.size p.w1 w') := fun p => hash_ok a _ p.w1 (by omega) (hash_is HNA.out)
  have HC4 : Hid (∀ p : Later w3, Calls Tryd.prog 15 #[.string b] p.w1 fun e w' => e = .returned (.string (b.extract 0 8)) ∧ Below p.w1.heap.size p.w1 w') := fun p => hash_ok b _ p.w1 (by omega) (hash_is HNB.out)
  have HC5 : Hid (∀ p : Later w3, Calls Tryd.prog 8 #[] p.w1 fun e w' => e = .returned (.bool true) ∧ Below p.w1.heap.size p.w1 w') := fun p =>
    (awake7_ok w p.w1 ⟨HSH.out, below_two HB3.out p.below⟩).mono fun e w' ⟨q1, _, q3⟩ => ⟨q1, q3⟩
  have hne := later_one w3
  go_wp2
  refine wp_region_later (by kernel_rfl) (by kernel_rfl) ?_
  repeat (first
    | go_big_quiet_step ((first
      | (go_at_call 13; exact Calls.later_of (HC1.out _))
      | (go_at_call 15; first | exact Calls.later_of (HC2.out _) | exact Calls.later_of (HC3.out _) | exact Calls.later_of (HC4.out _))
      | (go_at_call 8; exact Calls.later_of (HC5.out _)))))
  refine wpQuiet_nil ?_
  intro W5 hw'
  have hbq := later_below hw'
  have HB5 := hide (below_two HB3.out hbq)
  clear hw' hbq
  go_wp2
  go_ret
  exact ⟨rfl, HB5.out⟩

theorem hashes_walk (a b : ByteArray) (w : World) (hsh : w.ShapedOpen Tryd.prog) (ha : a.size ≤ maxLen) (hb : b.size ≤ maxLen) :
    Calls Tryd.prog 6 #[.string a, .string b] w fun e w' => e = .returned (.bool true) ∧ Below w.heap.size w w' := by
  by_cases h1 : 100 < a.size
  · exact hashes_rest a b w hsh ha hb (.inl h1)
  · by_cases h2 : 100 < b.size
    · exact hashes_rest a b w hsh ha hb (.inr (.inl h2))
    · cases h3 : Hog.nameL a.data.toList with
      | false => exact hashes_rest a b w hsh ha hb (.inr (.inr (.inl h3)))
      | true =>
        cases h4 : Hog.nameL b.data.toList with
        | false => exact hashes_rest a b w hsh ha hb (.inr (.inr (.inr h4)))
        | true => exact hashes_main a b w hsh (by omega) (by omega) h3 h4
end Go.Proofs.YtggojmimodpfaaaDoor
