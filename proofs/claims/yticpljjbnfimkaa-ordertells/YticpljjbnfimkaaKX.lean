/- The walk of the document's own Get, chapter 9. -/
import Derived.Test.YticpljjbnfimkaaKF
namespace Go.Proofs.Yticpljjbnfimkaa
open Go.RowKit

/-- What the document's Get answers: the item as it lies. -/
def GotR (w : World) (ps : List Pr) (i : It) (e : Ending) (w' : World) : Prop := ∃ p ∈ ps, p.2 = i ∧ IsI w p ∧ e = .returned (.tuple #[.agg #[.string p.2.1, .slice p.1.2.1.1 p.1.2.1.2.1 p.1.2.1.2.2, .slice p.1.2.2.1 p.1.2.2.2.1 p.1.2.2.2.2], .bool true]) ∧ Below w.heap.size w w'

set_option maxRecDepth 100000 in
set_option maxHeartbeats 2000000 in
theorem rget_some (b o c n : Nat) (ps : List Pr) (x : ByteArray) (w : World) (hn : n = ps.length) (h9 : n < 900000) (hr : RunS w b o ps) :
    Calls Try.prog 31 #[.slice (some ⟨b, o, none⟩) n c, .string x] w fun e w' => (∃ i, Hog.getK (itsOf ps) x = some i ∧ GotR w ps i e w') ∨ (Hog.getK (itsOf ps) x = none ∧ NotI w w' e) := by
  have HR := hide hr
  have HN := hide hn
  have HB := hide (BoxI.made w ByteArray.empty (.slice none 0 0) (.slice none 0 0))
  have HW0 := hide (below_box w (.cells #[.string ByteArray.empty, .slice none 0 0, .slice none 0 0] 33))
  obtain ⟨W, hW⟩ : ∃ W, W = w.alloc (.cells #[.string ByteArray.empty, .slice none 0 0, .slice none 0 0] 33) := ⟨_, rfl⟩
  rw [← hW] at HB HW0
  have HW := hide hW.symm
  obtain ⟨⟨k0, k1, k2⟩, ⟨f0, f1, f2⟩, hlt3⟩ := HB.out.facts
  have hbW : b < W.heap.size := Nat.lt_of_lt_of_le hr.1 HW0.out.size
  clear hr hn hW
  go_enter Try.func31, Try.ntmps31
  go_wp2
  rw [show (ByteArray.mk #[] : ByteArray) = ByteArray.empty from rfl] at *
  rw [HW.out]
  go_loop [6] (fun i => ∃ k : Nat, k ≤ n ∧ i = .int .i64 k ∧ Hid (∀ (j : Nat) y, j < k → (itsOf ps)[j]? = some y → y.1 ≠ x)) (fun i => n - (intOf i).toNat)
  case atStart => exact ⟨0, Nat.zero_le _, rfl, fun j y h => absurd h (by omega)⟩
  case round =>
    obtain ⟨k, hk, rfl, ha⟩ := hrel
    by_cases hlt : k < n
    · obtain ⟨p, hp⟩ : ∃ p, ps[k]? = some p := ⟨ps[k]'(by have := HN.out; omega), List.getElem?_eq_some_iff.2 ⟨_, rfl⟩⟩
      have hpi : (itsOf ps)[k]? = some p.2 := by unfold itsOf; rw [List.getElem?_map, hp]; rfl
      have hA := (HR.out.2 k p hp).below HW0.out
      have q0 := hA.c0
      have q1 := hA.c1
      have q2 := hA.c2
      unfold refsV at q1
      unfold treeV at q2
      have HIS := hide (HR.out.2 k p hp).is
      have HMP := hide (List.mem_of_getElem? hp)
      have HP := hide hpi
      have hki : (k : Int) < (n : Int) := by omega
      clear hp hpi hA
      by_cases hx : p.2.1 = x
      · have hq : (p.2.1.toList == x.toList) = true := by rw [hx]; exact beq_self_eq_true _
        have HG := hide (get_first HP.out hx ha.out)
        clear hx
        go_wp2
        refine bodyPost_ret (results_item rfl _ _ w.heap.size _ _ _ rfl (HB.out.stored _ _ _)) rfl ?_
        exact .inl ⟨p.2.1, p.2.2.1, p.2.2.2, HG.out, p, HMP.out, rfl, HIS.out, rfl, storedI_below HW0.out (Nat.le_refl _) _ _ _⟩
      · have hq : (p.2.1.toList == x.toList) = false := by
          rw [beq_eq_false_iff_ne]; exact fun e => hx (bytes_eq.2 e)
        have HX := hide hx
        clear hx
        go_wp2
        go_round
        case rel =>
          refine ⟨k + 1, by omega, by go_num, fun j y hj hy => ?_⟩
          by_cases e : j = k
          · subst e
            rw [HP.out] at hy; cases hy
            exact HX.out
          · exact ha.out j y (by omega) hy
        case measure => simp [intOf]; omega
    · have hki : (n : Int) ≤ (k : Int) := by omega
      have HE : Hid (Hog.getK (itsOf ps) x = none) := get_never fun j y hj hy => ha.out j y (by rw [its_len, ← HN.out] at hj; omega) hy
      go_wp2
      refine bodyPost_ret (results_item rfl _ _ w.heap.size _ _ _ rfl (HB.out.stored _ _ _)) rfl ?_
      exact .inr ⟨HE.out, rfl, storedI_below HW0.out (Nat.le_refl _) _ _ _⟩
set_option maxRecDepth 100000 in
set_option maxHeartbeats 1000000 in
theorem rget_none (a : Option Addr) (c : Nat) (x : ByteArray) (w : World) :
    Calls Try.prog 31 #[.slice a 0 c, .string x] w fun e w' => NotI w w' e := by
  have HB := hide (BoxI.made w ByteArray.empty (.slice none 0 0) (.slice none 0 0))
  have HW0 := hide (below_box w (.cells #[.string ByteArray.empty, .slice none 0 0, .slice none 0 0] 33))
  obtain ⟨W, hW⟩ : ∃ W, W = w.alloc (.cells #[.string ByteArray.empty, .slice none 0 0, .slice none 0 0] 33) := ⟨_, rfl⟩
  rw [← hW] at HB HW0
  have HW := hide hW.symm
  obtain ⟨⟨k0, k1, k2⟩, ⟨f0, f1, f2⟩, hlt3⟩ := HB.out.facts
  clear hW
  go_enter Try.func31, Try.ntmps31
  go_wp2
  rw [show (ByteArray.mk #[] : ByteArray) = ByteArray.empty from rfl] at *
  rw [HW.out]
  go_loop [6] (fun i => i = .int .i64 0) (fun _ => 0)
  case atStart => rfl
  case round =>
    subst hrel
    go_wp2
    refine bodyPost_ret (results_item rfl _ _ w.heap.size _ _ _ rfl (HB.out.stored _ _ _)) rfl ?_
    exact ⟨rfl, storedI_below HW0.out (Nat.le_refl _) _ _ _⟩
theorem rget_any (v : Value) (ps : List Pr) (x : ByteArray) (w : World) (h : Sls w v ps) (h9 : ps.length < 900000) :
    Calls Try.prog 31 #[v, .string x] w fun e w' => (∃ i, Hog.getK (itsOf ps) x = some i ∧ GotR w ps i e w') ∨ (Hog.getK (itsOf ps) x = none ∧ NotI w w' e) := by
  rcases h with ⟨rfl, a, c, rfl⟩ | ⟨b, o, c, rfl, _, hr⟩
  · exact (rget_none a c x w).mono fun e w' h => .inr ⟨rfl, h⟩
  · exact rget_some b o c ps.length ps x w rfl h9 hr
theorem rget_hit (v : Value) (ps : List Pr) (x : ByteArray) (i : It) (w : World) (h : Sls w v ps) (h9 : ps.length < 900000) (hg : Hog.getK (itsOf ps) x = some i) :
    Calls Try.prog 31 #[v, .string x] w fun e w' => GotR w ps i e w' := by
  refine (rget_any v ps x w h h9).mono ?_
  rintro e w' (⟨j, h1, h2⟩ | ⟨h1, _⟩)
  · rw [hg] at h1; cases h1; exact h2
  · rw [hg] at h1; cases h1
theorem rget_miss (v : Value) (ps : List Pr) (x : ByteArray) (w : World) (h : Sls w v ps) (h9 : ps.length < 900000) (hg : Hog.getK (itsOf ps) x = none) :
    Calls Try.prog 31 #[v, .string x] w fun e w' => NotI w w' e := by
  refine (rget_any v ps x w h h9).mono ?_
  rintro e w' (⟨j, h1, _⟩ | ⟨_, h2⟩)
  · rw [hg] at h1; cases h1
  · exact h2
end Go.Proofs.Yticpljjbnfimkaa
