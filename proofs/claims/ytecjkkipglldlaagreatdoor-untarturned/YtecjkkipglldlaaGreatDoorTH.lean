/- The walks of package tar's Lay, Entries, and of chapter 13's awake. -/
import Derived.Test.YtecjkkipglldlaaGreatDoorJ24
namespace Go.Proofs.YtecjkkipglldlaaGreatDoor
open Go.RowKit

/-- Nodes whose paths are short enough to be asked of. -/
def ShortT (t : List Nd) : Prop := t.length < 1000000 ∧ ∀ n ∈ t, n.1.size < 900000 ∧ n.2.2.size < 900000
theorem ShortT.path {t : List Nd} (h : ShortT t) : ∀ n ∈ t, n.1.size < 999999 := fun n hn => by have := (h.2 n hn).1; omega
theorem tarL_le {t : List Nd} (hv : mayN t = true) : (Hog.tarL t).length ≤ 1300000 := by
  have h := Hog.treeT_le (Hog.tree_node hv) (Hog.tree_len hv) t.length
  rw [List.take_length] at h
  unfold Hog.tarL
  rw [List.length_append, Hog.zeros_len]
  omega
theorem tree_ne {t : List Nd} (h : mayN t = true) : t ≠ [] := fun e => by rw [e] at h; simp [mayN, badN] at h

set_option maxHeartbeats 800000 in
theorem tlay_bad (v : Value) (t : List Nd) (w0 w : World) (h : Ok w0 w) (hn : Nods w v t) (hs : ShortT t) (hv : mayN t = false) :
    Calls Tryz.prog 16 #[v] w fun e w' => e = .returned (.tuple #[.slice none 0 0, .int .i64 7]) ∧ Ok w0 w' ∧ Below w.heap.size w w' := by
  have HN := hide hn
  have HS := hide hs
  have HV := hide hv
  clear hn hs hv
  go_enter Tryz.func16, Tryz.ntmps16
  go_wp2_with fail
  refine (mayT_ok v t false w0 w h HS.out.path HN.out (by have := HS.out.1; omega) HV.out).mono ?_
  rintro e w1 ⟨rfl, ok1, hb1⟩
  go_wp2
  go_ret2
  exact ⟨rfl, ok1, hb1⟩
set_option maxRecDepth 100000 in
set_option maxHeartbeats 2000000 in
theorem tlay_good (v : Value) (t : List Nd) (z : List UInt8) (m : Nat) (w0 w : World) (hp : Pow w0) (h : Ok w0 w) (hn : Nods w v t) (hs : ShortT t) (hv : mayN t = true) (hz : Hog.tarL t = z) (hm : z.length = m) :
    Calls Tryz.prog 16 #[v] w fun e w' => ∃ b c, e = .returned (.tuple #[.slice b m c, .int .i64 0]) ∧ OwnB w.heap.size w' (.slice b m c) z ∧ Ok w0 w' ∧ Below w.heap.size w w' := by
  rcases id hn with ⟨e, _⟩ | ⟨bt, ot, ct, rfl, hct, hr⟩
  · exact absurd e (tree_ne hv)
  obtain ⟨n, hnt⟩ : ∃ n, t.length = n := ⟨_, rfl⟩
  obtain ⟨y, hy⟩ : ∃ y, Hog.treeT t = y := ⟨_, rfl⟩
  obtain ⟨q, hq⟩ : ∃ q, y.length = q := ⟨_, rfl⟩
  have HYZ : Hid (y ++ Hog.zeros 1024 = z) := by rw [← hz, ← hy]; exact hide rfl
  have hqm : q + 1024 = m := by rw [← hm, ← HYZ.out, List.length_append, Hog.zeros_len, hq]
  have hml : m ≤ 1300000 := by rw [← hm, ← hz]; exact tarL_le hv
  have hn4 : n ≤ 400 := by rw [← hnt]; exact Hog.tree_len hv
  have HNG := hide (Hog.tree_node hv)
  have HND := hide hn
  have HS := hide hs
  have HV := hide hv
  have HR := hide hr
  have HNT := hide hnt
  have HY := hide hy
  have HQ := hide hq
  have HQM := hide hqm
  have HP := hide hp
  have HOK := hide h
  have hbt := hr.1
  rw [hnt] at hct HND ⊢
  clear hn hs hv hr hnt hz hm hy hq hqm hp h
  go_enter Tryz.func16, Tryz.ntmps16
  go_wp2_with fail
  refine (mayT_ok _ t true w0 w HOK.out HS.out.path (by have h := HND.out; exact h) (by have := HS.out.1; omega) HV.out).mono ?_
  rintro e w1 ⟨rfl, ok1, hb1⟩
  have hs1 := hb1.size
  have h01 := ok1.size
  obtain ⟨W, hW⟩ : ∃ W, W = w1.alloc (.cells #[.slice none 0 0] 58) := ⟨_, rfl⟩
  have hbW : Below w1.heap.size w1 W := by rw [hW]; exact below_box _ _
  have HWA : Hid (WrAt W w1.heap.size w1.heap.size (.slice none 0 0) []) := by
    rw [hW]
    exact hide ⟨heap_alloc_new w1 _, OwnB.nil _ _, by simp [Value.ownBlock]⟩
  have HRW := hide ((HR.out.below hb1 hbt).below hbW (by omega))
  have HOKW := hide (ok1.next hbW)
  have HBW := hide (below_two hb1 hbW)
  have HW : Hid (w1.alloc (.cells #[.slice none 0 0] 58) = W) := hide hW.symm
  have hsW := hbW.size
  clear hW hb1 ok1 hbW
  go_wp2_with fail
  rw [HW.out]
  refine (eachW_ok bt ot ct n w1.heap.size w1.heap.size q t none 0 y w0 W HP.out HOKW.out HWA.out h01 (Nat.le_refl _) hsW HRW.out (by omega) HNT.out hn4 hct HNG.out HY.out HQ.out).mono ?_
  rintro e w2 ⟨rfl, b2, c2, hw2, hb2, ok2⟩
  have HW2 := hide hw2
  have HB2 := hide (HBW.out.trans (hb2.mono hs1))
  have hs2 : w1.heap.size ≤ w2.heap.size := Nat.le_trans hsW hb2.size
  have HOK2 := hide ok2
  clear hw2 hb2 ok2
  go_wp2_with fail
  refine (zerosW_ok w1.heap.size w1.heap.size 1024 q m _ _ y z w2 HW2.out hs2 rfl HQ.out HYZ.out HQM.out (by omega)).mono ?_
  rintro e w3 ⟨rfl, b3, c3, hw3, hr3⟩
  have g3 := hw3.cell
  have HW3 := hide hw3
  have HB3 := hide (HB2.out.trans ((hr3.below (Nat.le_refl _) HW2.out.own hs2).mono hs1))
  clear hw3 hr3
  go_wp2
  go_ret2
  exact ⟨b3, c3, rfl, HW3.out.own.base hs1, HOK.out.next HB3.out, HB3.out⟩

end Go.Proofs.YtecjkkipglldlaaGreatDoor
