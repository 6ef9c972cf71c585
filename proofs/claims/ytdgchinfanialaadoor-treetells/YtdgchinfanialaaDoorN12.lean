/- The walk of tree.Filter, whatever it asks. -/
import Derived.Test.YtdgchinfanialaaDoorN11
namespace Go.Proofs.YtdgchinfanialaaDoor
open Go.RowKit

theorem grown_refl (w : World) (row : Option Nat) : w.grownBy w row := ⟨rfl, rfl, rfl, Nat.le_refl _, fun _ _ _ => rfl⟩
theorem grown_trans {a b c : World} {row : Option Nat} (h : a.grownBy b row) (k : b.grownBy c row) : a.grownBy c row :=
  ⟨k.os.trans h.os, k.tape.trans h.tape, k.output.trans h.output, Nat.le_trans h.size k.size, fun i hi hr => (k.block i (Nat.lt_of_lt_of_le hi h.size) hr).trans (h.block i hi hr)⟩
theorem grown_below {a b c : World} {row : Option Nat} (h : a.grownBy b row) (k : Below a.heap.size b c) : a.grownBy c row :=
  ⟨k.os.trans h.os, k.tape.trans h.tape, k.output.trans h.output, Nat.le_trans h.size k.size, fun i hi hr => (k.block i hi).trans (h.block i hi hr)⟩
theorem below_grown {w w' : World} {row : Option Nat} {B : Nat} (h : w.grownBy w' row) (hB : B ≤ w.heap.size) (hr : ∀ k, row = some k → B ≤ k) : Below B w w' := (Below.refl _ _).grown h hB hr
theorem At.grown {w w' : World} {b o : Nat} {n : Nd} {row : Option Nat} (h : At w b o n) (hg : w.grownBy w' row) (hr : some b ≠ row) : At w' b o n :=
  ⟨hg.cell h.path hr, hg.cell h.kind hr, hg.cell h.data hr⟩
theorem Run.grown {w w' : World} {b o : Nat} {ns : List Nd} {row : Option Nat} (h : Run w b o ns) (hg : w.grownBy w' row) (hr : some b ≠ row) : Run w' b o ns :=
  ⟨Nat.lt_of_lt_of_le h.1 hg.size, fun j n hn => (h.2 j n hn).grown hg hr⟩
theorem OwnN.grown {base : Nat} {w w' : World} {v : Value} {ns : List Nd} {row : Option Nat} (h : OwnN base w v ns) (hg : w.grownBy w' row) (hr : ∀ g, row = some g → g < base) : OwnN base w' v ns := by
  refine World.ownsRow.kept h hg ?_
  cases hv : v.ownBlock with
  | none => exact .inl rfl
  | some k =>
    refine .inr fun e => ?_
    have h1 := (h.lt k hv).1
    have h2 := hr k e.symm
    omega
theorem filter_step {t : List Nd} {k : Nat} {n : Nd} {p : Nd → Bool} (hn : t[k]? = some n) : (t.take (k + 1)).filter p = (t.take k).filter p ++ if p n = true then [n] else [] := by
  obtain ⟨hk, rfl⟩ := List.getElem?_eq_some_iff.1 hn
  rw [List.take_succ_eq_append_getElem hk, List.filter_append, List.filter_cons, List.filter_nil]
theorem filter_len (t : List Nd) (k : Nat) (p : Nd → Bool) : ((t.take k).filter p).length ≤ k := Nat.le_trans (List.length_filter_le _ _) (List.length_take_le _ _)

set_option maxRecDepth 100000 in
set_option maxHeartbeats 1000000 in
theorem filter_some (F : Nat) (bound : Array Value) (row : Option Nat) (p : Nd → Bool) (Inv : Nat → World → Prop) (b o c : Nat) (t : List Nd) (w : World)
    (eg : ∀ args w, (callFunc F args).run Tryd.prog w = .ok (.enter F args) w)
    (hcall : ∀ (j : Nat) n wr, t[j]? = some n → Inv j wr → Calls Tryd.prog F (bound.push (.agg #[.string n.1, .int .i64 n.2.1, .string n.2.2])) wr fun e w' => e = .returned (.bool (p n)) ∧ Inv (j + 1) w' ∧ wr.grownBy w' row)
    (hinv : ∀ (j : Nat) wr w', Inv j wr → Below w.heap.size wr w' → Inv j w') (h0 : Inv 0 w) (hrow : ∀ g, row = some g → g < w.heap.size ∧ g ≠ b) (hr : Run w b o t) (hl : t.length < 900000) :
    Calls Tryd.prog 26 #[.slice (some ⟨b, o, none⟩) t.length c, .func (.func F) bound #[]] w fun e w' => ∃ v, e = .returned v ∧ OwnN w.heap.size w' v (t.filter p) ∧ Inv t.length w' ∧ w.grownBy w' row := by
  obtain ⟨m, hmt⟩ : ∃ m, m = t.length := ⟨_, rfl⟩
  have HMT := hide hmt
  have HR := hide hr
  have HC := hide hcall
  have HI := hide hinv
  have H0 := hide h0
  have HROW := hide hrow
  have hrb : some b ≠ row := fun e => (hrow b e.symm).2 rfl
  rw [← hmt] at hl ⊢
  clear hmt hr hcall hinv h0 hrow
  have hq := fun w => eql_func_some _ (.func F) bound #[] w Tryd.underlying29
  go_enter Tryd.func26, Tryd.ntmps26
  go_wp2
  go_loopw [5, 7, 14] (fun s _ i wr => ∃ k : Nat, k ≤ m ∧ i = .int .i64 k ∧ Hid (OwnN w.heap.size wr s ((t.take k).filter p)) ∧ Hid (Inv k wr) ∧ Hid (w.grownBy wr row)) (fun _ _ i _ => m - (intOf i).toNat)
  case atStart => exact ⟨0, Nat.zero_le _, rfl, OwnN.nil _ _, H0, grown_refl _ _⟩
  case round =>
    obtain ⟨k, hk, rfl, HO, HIK, HG⟩ := hrel
    by_cases hlt : k < m
    · obtain ⟨n, hn⟩ : ∃ n, t[k]? = some n := ⟨t[k]'(by have := HMT.out; omega), List.getElem?_eq_some_iff.2 ⟨_, rfl⟩⟩
      obtain ⟨g1, g2, g3⟩ := (HR.out.2 k n hn).grown HG.out hrb
      have HN := hide hn
      clear hn
      have hsz := HG.out.size
      have hbox : At (wr.alloc (.cells #[.string n.1, .int .i64 n.2.1, .string n.2.2] 24)) wr.heap.size 0 n := ⟨by simp, by simp, by simp⟩
      have HX := hide hbox
      clear hbox
      have HI1 := hide (HI.out k wr _ HIK.out ((below_box wr (.cells #[.string n.1, .int .i64 n.2.1, .string n.2.2] 24)).mono hsz))
      have HO1 := hide (HO.out.alloc (.cells #[.string n.1, .int .i64 n.2.1, .string n.2.2] 24))
      have HG1 := hide (grown_below HG.out ((below_box wr (.cells #[.string n.1, .int .i64 n.2.1, .string n.2.2] 24)).mono hsz))
      go_wp2_with fail
      refine (HC.out k n _ HN.out HI1.out).mono ?_
      rintro e w1 ⟨rfl, hi2, hg2⟩
      have hrw : some wr.heap.size ≠ row := fun e => by have := (HROW.out _ e.symm).1; omega
      obtain ⟨x1, x2, x3⟩ := HX.out.grown hg2 hrw
      have HI2 := hide hi2
      have HO2 := hide (HO1.out.grown hg2 (fun g e => (HROW.out g e).1))
      have HG2 := hide (grown_trans HG1.out hg2)
      have hsz1 : w.heap.size ≤ w1.heap.size := HG2.out.size
      clear hi2 hg2 HX HI1 HO1 HG1 g1 g2 g3
      cases hp : p n with
      | true =>
        have HP := hide hp
        clear hp
        have HO3 := hide (HO2.out.alloc (.cells #[.string n.1, .int .i64 n.2.1, .string n.2.2] 24))
        have HRN := hide ((Run.one w1 n).arg (c := 1) (by simp))
        have hfl := filter_len t k p
        go_wp2_with (at_builtin; refine wpList_append_nodes rfl _ _ rfl w.heap.size _ ((t.take k).filter p) rfl HO3.out _ _ _ [n] rfl HRN.out (by simp; omega) (by simp; omega) ?_)
        intro b4 c4 w4 ho4 hb4
        have hb4' : Below w.heap.size w1 w4 := ((below_box w1 _).mono hsz1).trans hb4
        have HO4 : Hid (OwnN w.heap.size w4 (.slice b4 (((t.take k).filter p).length + 1) c4) ((t.take (k + 1)).filter p)) := by
          show OwnN _ _ _ _
          rw [filter_step HN.out, if_pos HP.out]
          exact ho4
        have HI4 := hide (HI.out _ _ _ HI2.out hb4')
        have HG4 := hide (grown_below HG2.out hb4')
        clear ho4 hb4 hb4'
        go_wp2
        go_roundw
        case rel => exact ⟨k + 1, by omega, by go_num, HO4, HI4, HG4⟩
        case measure => simp [intOf]; omega
      | false =>
        have HP := hide hp
        clear hp
        go_wp2
        go_roundw
        case rel => exact ⟨k + 1, by omega, by go_num, by rw [filter_step HN.out, if_neg (by rw [HP.out]; decide), List.append_nil]; exact HO2, HI2, HG2⟩
        case measure => simp [intOf]; omega
    · go_wp2
      go_ret
      have e : k = t.length := by have := HMT.out; omega
      have h1 := HO.out
      have h2 := HIK.out
      rw [e, List.take_length] at h1
      rw [e, ← HMT.out] at h2
      exact ⟨_, rfl, h1, h2, HG.out⟩
end Go.Proofs.YtdgchinfanialaaDoor
