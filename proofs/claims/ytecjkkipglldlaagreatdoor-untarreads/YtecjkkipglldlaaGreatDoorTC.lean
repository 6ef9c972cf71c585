/- The walks of package tar's small functions: beginning, filling, entryOf, records. -/
import Derived.Test.YtecjkkipglldlaaGreatDoorTB
import Derived.Laws.Rows
import Derived.Deep.QuietTactic
import Derived.BigQuiet
namespace Go.Proofs.YtecjkkipglldlaaGreatDoor
open Go.RowKit

set_option maxHeartbeats 400000 in
theorem beginning_ok (s : ByteArray) (l x : List UInt8) (w : World) (hs : s.data.toList = l) (hx : l.take 100 = x) :
    Calls Tryz.prog 41 #[.string s] w fun e w' => e = .returned (.string (Hog.mk x)) ∧ w' = w := by
  have hsl : s.size = l.length := by rw [← hs, Hog.size_len]
  by_cases h : s.size ≤ 100
  · have hm : min (s.size : Int) 100 = (s.size : Int) := by omega
    have HE : Hid (s = Hog.mk x) := by
      rw [← hx, List.take_of_length_le (by omega), ← hs, Hog.data_mk]
      exact hide rfl
    clear hs hx hsl
    go_enter Tryz.func41, Tryz.ntmps41
    go_wp2
    go_ret
    exact ⟨ret_str HE.out, rfl⟩
  · have hm : min (s.size : Int) 100 = 100 := by omega
    have hi : (100 : Int) ≤ (s.size : Int) := by omega
    have HE : Hid (s.extract 0 100 = Hog.mk x) := by
      apply hide
      apply ByteArray.ext
      rw [← hx, ← hs]
      unfold Hog.mk
      rw [← Array.toList_inj]
      simp
    clear hs hx hsl
    go_enter Tryz.func41, Tryz.ntmps41
    go_wp2
    go_ret
    exact ⟨ret_str HE.out, rfl⟩
set_option maxHeartbeats 400000 in
theorem filling_ok (n f : Nat) (w : World) (hn : n < 1000000000) (hf : Hog.fillN n = f) :
    Calls Tryz.prog 42 #[.int .i64 n] w fun e w' => e = .returned (.int .i64 f) ∧ w' = w := by
  obtain ⟨d, hd⟩ : ∃ d, d = n % 512 := ⟨_, rfl⟩
  have hd1 : (n : Int).tmod 512 = (d : Int) := by rw [Int.tmod_eq_emod_of_nonneg (by omega)]; omega
  have hd5 : d < 512 := by omega
  have hf1 : (512 - (d : Int)).tmod 512 = (f : Int) := by
    rw [Int.tmod_eq_emod_of_nonneg (by omega), ← hf]
    unfold Hog.fillN
    rw [← hd]
    omega
  have hf5 : f < 512 := by rw [← hf]; exact Hog.fillN_lt n
  clear hf hd
  go_enter Tryz.func42, Tryz.ntmps42
  go_wp2
  go_ret
  exact ⟨rfl, rfl⟩

theorem struct_entry : Tryz.prog.underlying 78 = some (.struct (Tryz.prog.fieldsOf 78)) := by kernel_rfl
theorem size_of_entry : (Tryz.prog.info? 78).map (·.size) = some 4 := by kernel_rfl
/-- An entry's cells. -/
def ecells (s : ByteArray) (k : Int) (t d : ByteArray) : Array Value := #[.string s, .int .i64 k, .string t, .string d]

set_option maxHeartbeats 800000 in
theorem entryOf_ok (n : Nd) (s t d : ByteArray) (w : World) (hs : (if n.1.data.toList = [] then ⟨#[46]⟩ else n.1) = s) (ht : (if n.2.1 = 4 then n.2.2 else ⟨#[]⟩) = t) (hd : (if n.2.1 = 4 then ⟨#[]⟩ else n.2.2) = d) :
    Calls Tryz.prog 38 #[.agg #[.string n.1, .int .i64 n.2.1, .string n.2.2]] w fun e w' => e = .returned (.agg #[.string s, .int .i64 n.2.1, .string t, .string d]) ∧ Below w.heap.size w w' := by
  obtain ⟨p, k, c⟩ := n
  simp only at hs ht hd ⊢
  by_cases h1 : p.data.toList = []
  · have n1 := nil_yes (s := p) rfl h1
    rw [if_pos h1] at hs
    clear h1
    by_cases h4 : k = 4
    · rw [if_pos h4] at ht hd
      have k4 : (k == 4) = true := by rw [beq_iff_eq]; exact h4
      subst hs ht hd
      clear h4
      go_enter Tryz.func38, Tryz.ntmps38
      go_wp2
      refine bodyPost_ret (results_cell_row rfl _ _ (w.heap.size + 1) 78 #[.string ⟨#[46]⟩, .int .i64 k, .string c, .string ⟨#[]⟩] (0, 0) _ rfl ?_ struct_entry rfl size_of_entry) rfl ?_
      · rw [heap_alloc_old _ _ (by simp)]
        have h := heap_alloc_new (w.alloc (.cells #[.string p, .int .i64 k, .string c] 38)) (.cells #[.string ⟨#[46]⟩, .int .i64 k, .string c, .string ⟨#[]⟩] 78)
        rw [World.size_alloc] at h
        exact h
      · exact ⟨rfl, ((below_box w _).trans ((below_box _ _).mono (by simp))).trans ((below_box _ _).mono (by rw [World.size_alloc, World.size_alloc]; omega))⟩
    · rw [if_neg h4] at ht hd
      have k4 : (k == 4) = false := by rw [beq_eq_false_iff_ne]; exact h4
      subst hs ht hd
      clear h4
      go_enter Tryz.func38, Tryz.ntmps38
      go_wp2
      refine bodyPost_ret (results_cell_row rfl _ _ (w.heap.size + 1) 78 #[.string ⟨#[46]⟩, .int .i64 k, .string ⟨#[]⟩, .string c] (0, 0) _ rfl ?_ struct_entry rfl size_of_entry) rfl ?_
      · rw [heap_alloc_old _ _ (by simp)]
        have h := heap_alloc_new (w.alloc (.cells #[.string p, .int .i64 k, .string c] 38)) (.cells #[.string ⟨#[46]⟩, .int .i64 k, .string ⟨#[]⟩, .string c] 78)
        rw [World.size_alloc] at h
        exact h
      · exact ⟨rfl, ((below_box w _).trans ((below_box _ _).mono (by simp))).trans ((below_box _ _).mono (by rw [World.size_alloc, World.size_alloc]; omega))⟩
  · have n1 := nil_no (s := p) rfl h1
    rw [if_neg h1] at hs
    clear h1
    by_cases h4 : k = 4
    · rw [if_pos h4] at ht hd
      have k4 : (k == 4) = true := by rw [beq_iff_eq]; exact h4
      subst hs ht hd
      clear h4
      go_enter Tryz.func38, Tryz.ntmps38
      go_wp2
      refine bodyPost_ret (results_cell_row rfl _ _ (w.heap.size + 1) 78 #[.string p, .int .i64 k, .string c, .string ⟨#[]⟩] (0, 0) _ rfl ?_ struct_entry rfl size_of_entry) rfl ?_
      · rw [heap_alloc_old _ _ (by simp)]
        have h := heap_alloc_new (w.alloc (.cells #[.string p, .int .i64 k, .string c] 38)) (.cells #[.string p, .int .i64 k, .string c, .string ⟨#[]⟩] 78)
        rw [World.size_alloc] at h
        exact h
      · exact ⟨rfl, ((below_box w _).trans ((below_box _ _).mono (by simp))).trans ((below_box _ _).mono (by rw [World.size_alloc, World.size_alloc]; omega))⟩
    · rw [if_neg h4] at ht hd
      have k4 : (k == 4) = false := by rw [beq_eq_false_iff_ne]; exact h4
      subst hs ht hd
      clear h4
      go_enter Tryz.func38, Tryz.ntmps38
      go_wp2
      refine bodyPost_ret (results_cell_row rfl _ _ (w.heap.size + 1) 78 #[.string p, .int .i64 k, .string ⟨#[]⟩, .string c] (0, 0) _ rfl ?_ struct_entry rfl size_of_entry) rfl ?_
      · rw [heap_alloc_old _ _ (by simp)]
        have h := heap_alloc_new (w.alloc (.cells #[.string p, .int .i64 k, .string c] 38)) (.cells #[.string p, .int .i64 k, .string ⟨#[]⟩, .string c] 78)
        rw [World.size_alloc] at h
        exact h
      · exact ⟨rfl, ((below_box w _).trans ((below_box _ _).mono (by simp))).trans ((below_box _ _).mono (by rw [World.size_alloc, World.size_alloc]; omega))⟩

theorem oneR_small {k l z : List UInt8} (hk : k.length ≤ 10) (hl : l.length ≤ 500) (hz : Hog.oneR k l = z) : (Hog.mk z).size ≤ 600 := by
  rw [Hog.mk_size, ← hz]
  have := Hog.oneR_len hk hl
  omega
theorem later_to {w w' : World} (h : ∃ p : Later w, w' = p.w1) : Below w.heap.size w w' := by
  obtain ⟨p, rfl⟩ := h
  exact p.below
set_option maxRecDepth 100000 in
set_option maxHeartbeats 1000000 in
theorem records_ok (s t d : ByteArray) (k : Int) (ls lt z : List UInt8) (w0 w : World) (hp : Pow w0) (hok : Ok w0 w) (hs : s.data.toList = ls) (ht : t.data.toList = lt) (hls : ls.length ≤ 500) (hlt : lt.length ≤ 500) (hz : Hog.oneR Hog.pathK ls ++ Hog.oneR Hog.linkK lt = z) :
    Calls Tryz.prog 39 #[.agg #[.string s, .int .i64 k, .string t, .string d]] w fun e w' => e = .returned (.string (Hog.mk z)) ∧ Ok w0 w' ∧ Below w.heap.size w w' := by
  obtain ⟨z1, hz1⟩ : ∃ z1, Hog.oneR Hog.pathK ls = z1 := ⟨_, rfl⟩
  obtain ⟨z2, hz2⟩ : ∃ z2, Hog.oneR Hog.linkK lt = z2 := ⟨_, rfl⟩
  have q1 : (Hog.mk z1).size ≤ 600 := oneR_small (by decide) hls hz1
  have q2 : (Hog.mk z2).size ≤ 600 := oneR_small (by decide) hlt hz2
  have HZ : Hid (Hog.mk z1 ++ Hog.mk z2 = Hog.mk z) := by rw [mk_join, ← hz, hz1, hz2]; exact hide rfl
  have hss : s.size ≤ 500 := by rw [Hog.size_len, hs]; exact hls
  have hts : t.size ≤ 500 := by rw [Hog.size_len, ht]; exact hlt
  obtain ⟨V, hV⟩ : ∃ V, V = w.alloc (.cells #[.string s, .int .i64 k, .string t, .string d] 78) := ⟨_, rfl⟩
  have hbV : Below w.heap.size w V := by rw [hV]; exact below_box _ _
  have okV : Ok w0 V := hok.next hbV
  have hlt2 : w.heap.size < V.heap.size := by rw [hV]; simp
  have c0 : V.cell? ⟨w.heap.size, 0, none⟩ = some (.string s) := by rw [hV]; simp
  have c2 : V.cell? ⟨w.heap.size, 2, none⟩ = some (.string t) := by rw [hV]; simp
  have f0 : ∀ p : Later V, p.w1.cell? ⟨w.heap.size, 0, none⟩ = some (.string s) := fun p => p.cell hlt2 c0
  have f2 : ∀ p : Later V, p.w1.cell? ⟨w.heap.size, 2, none⟩ = some (.string t) := fun p => p.cell hlt2 c2
  have HC1 : Hid (∀ p : Later V, Calls Tryz.prog 54 #[.string ⟨#[112, 97, 116, 104]⟩, .string s] p.w1 fun e w' => e = .returned (.string (Hog.mk z1)) ∧ Below p.w1.heap.size p.w1 w') := by
    intro p
    refine (recordO_ok ⟨#[112, 97, 116, 104]⟩ s Hog.pathK ls z1 w0 p.w1 hp (okV.next p.below) rfl hs (by rw [show (⟨#[112, 97, 116, 104]⟩ : ByteArray).size = 4 by rfl]; omega) hz1).mono ?_
    rintro e w' ⟨h1, _, h2⟩
    exact ⟨h1, h2⟩
  have HC2 : Hid (∀ p : Later V, Calls Tryz.prog 54 #[.string ⟨#[108, 105, 110, 107, 112, 97, 116, 104]⟩, .string t] p.w1 fun e w' => e = .returned (.string (Hog.mk z2)) ∧ Below p.w1.heap.size p.w1 w') := by
    intro p
    refine (recordO_ok ⟨#[108, 105, 110, 107, 112, 97, 116, 104]⟩ t Hog.linkK lt z2 w0 p.w1 hp (okV.next p.below) rfl ht (by rw [show (⟨#[108, 105, 110, 107, 112, 97, 116, 104]⟩ : ByteArray).size = 8 by rfl]; omega) hz2).mono ?_
    rintro e w' ⟨h1, _, h2⟩
    exact ⟨h1, h2⟩
  have hne := later_one V
  have HBV := hide hbV
  have HOV := hide okV
  have HV := hide hV.symm
  clear hz1 hz2 hz hs ht hls hlt c0 c2 hbV okV hV hss hts hp hok
  go_enter Tryz.func39, Tryz.ntmps39
  go_wp2_with fail
  rw [HV.out]
  refine wp_region_later (by kernel_rfl) (by kernel_rfl) ?_
  repeat (first
    | go_big_quiet_step ((first
      | (go_at_call 54; with_reducible exact Calls.later_of (HC1.out _))
      | (go_at_call 54; with_reducible exact Calls.later_of (HC2.out _))))
    | quiet_step ((first
      | (go_at_call 54; with_reducible exact Calls.later_of (HC1.out _))
      | (go_at_call 54; with_reducible exact Calls.later_of (HC2.out _)))))
  refine wpQuiet_nil ?_
  intro wa hw'
  have HBA := hide (later_to hw')
  clear hw' hne HC1 HC2 f0 f2
  go_wp2
  go_ret
  rw [HZ.out]
  exact ⟨rfl, HOV.out.next HBA.out, below_two HBV.out HBA.out⟩
end Go.Proofs.YtecjkkipglldlaaGreatDoor
