/- Items in memory; the walks of item's May and Same. -/
import Derived.Test.YtinjbijigjfdfaaDoorJ8
import Derived.Test.YtinjbijigjfdfaaDoorT1
namespace Go.Proofs.YtinjbijigjfdfaaDoor
open Go.RowKit

/-- An item: its name, its references, its tree. -/
abbrev It := ByteArray × List ByteArray × List Nd
def mayI (i : It) : Bool := Hog.nameL i.1.data.toList && refsB i.2.1 && ownB i.2.2
/-- Neither its name, nor its references, nor its paths are too long to be gone through. -/
structure Fair (i : It) : Prop where
  name : i.1.size < 900000
  refs : i.2.1.length < 900000
  ref : ∀ x ∈ i.2.1, x.size < 900000
  tree : i.2.2.length < 900000
  path : ∀ n ∈ i.2.2, n.1.size < 900000 ∧ n.2.2.size < 900000

/-- The cells of an item, as a struct has them. -/
def icells (nm : ByteArray) (ra : Option Addr) (rn rc : Nat) (ta : Option Addr) (tn tc : Nat) : Obj := .cells #[.string nm, .slice ra rn rc, .slice ta tn tc] 33

set_option maxRecDepth 100000 in
set_option maxHeartbeats 1000000 in
theorem mayI_ok (i : It) (ra : Option Addr) (rn rc : Nat) (ta : Option Addr) (tn tc : Nat) (r : Bool) (w0 w : World) (hok : Ok w0 w) (hf : Fair i) (hr : Txt w (.slice ra rn rc) i.2.1) (ht : Nods w (.slice ta tn tc) i.2.2) (hv : mayI i = r) :
    Calls Tryd.prog 12 #[.agg #[.string i.1, .slice ra rn rc, .slice ta tn tc]] w fun e w' => e = .returned (.bool r) ∧ Ok w0 w' ∧ Below w.heap.size w w' := by
  have HV := hide hv
  have hnm := hf.name
  have HF := hide hf
  have HB0 := hide (below_box w (icells i.1 ra rn rc ta tn tc))
  have OK0 := hide (hok.alloc (icells i.1 ra rn rc ta tn tc))
  have HT := hide hr
  have HN := hide ht
  have c0 : (w.alloc (icells i.1 ra rn rc ta tn tc)).cell? ⟨w.heap.size, 0, none⟩ = some (.string i.1) := by simp [icells]
  have c1 : (w.alloc (icells i.1 ra rn rc ta tn tc)).cell? ⟨w.heap.size, 1, none⟩ = some (.slice ra rn rc) := by simp [icells]
  have c2 : (w.alloc (icells i.1 ra rn rc ta tn tc)).cell? ⟨w.heap.size, 2, none⟩ = some (.slice ta tn tc) := by simp [icells]
  have hsz : w.heap.size < (w.alloc (icells i.1 ra rn rc ta tn tc)).heap.size := by simp
  clear hv hf hr ht
  cases h1 : Hog.nameL i.1.data.toList with
  | false =>
    have H1 := hide h1
    clear h1
    go_enter Tryd.func12, Tryd.ntmps12
    go_wp2_with fail
    refine (name_ok i.1 false _ (by omega) H1.out).mono ?_
    rintro e w1 ⟨rfl, hb1⟩
    go_wp2
    go_ret
    exact ⟨ret_bool (by rw [← HV.out]; unfold mayI; rw [H1.out]; rfl), OK0.out.next hb1, below_two HB0.out hb1⟩
  | true =>
    have H1 := hide h1
    clear h1
    cases h2 : refsB i.2.1 with
    | false =>
      have H2 := hide h2
      clear h2
      go_enter Tryd.func12, Tryd.ntmps12
      go_wp2_with fail
      refine (name_ok i.1 true _ (by omega) H1.out).mono ?_
      rintro e w1 ⟨rfl, hb1⟩
      have d1 := (hb1.cell (p := ⟨w.heap.size, 1, none⟩) hsz).trans c1
      have HB1 := hide (below_two HB0.out hb1)
      have OK1 := hide (OK0.out.next hb1)
      clear hb1 c0 c1 c2
      go_wp2_with fail
      refine (refer_ok _ i.2.1 false _ (HT.out.below HB1.out) (by have := HF.out.refs; unfold maxLen; omega) (fun x hx => by have := HF.out.ref x hx; omega) H2.out).mono ?_
      rintro e w2 ⟨rfl, hb2⟩
      go_wp2
      go_ret
      exact ⟨ret_bool (by rw [← HV.out]; unfold mayI; rw [H1.out, H2.out]; rfl), OK1.out.next hb2, below_two HB1.out hb2⟩
    | true =>
      have H2 := hide h2
      clear h2
      have H3 : Hid (ownB i.2.2 = r) := by
        rw [← HV.out]; unfold mayI; rw [H1.out, H2.out]; exact (Bool.true_and _).symm
      go_enter Tryd.func12, Tryd.ntmps12
      go_wp2_with fail
      refine (name_ok i.1 true _ (by omega) H1.out).mono ?_
      rintro e w1 ⟨rfl, hb1⟩
      have d1 := (hb1.cell (p := ⟨w.heap.size, 1, none⟩) hsz).trans c1
      have d2 := (hb1.cell (p := ⟨w.heap.size, 2, none⟩) hsz).trans c2
      have hsz1 : w.heap.size < w1.heap.size := Nat.lt_of_lt_of_le hsz hb1.size
      have HB1 := hide (below_two HB0.out hb1)
      have OK1 := hide (OK0.out.next hb1)
      clear hb1 c0 c1 c2 hsz
      go_wp2_with fail
      refine (refer_ok _ i.2.1 true _ (HT.out.below HB1.out) (by have := HF.out.refs; unfold maxLen; omega) (fun x hx => by have := HF.out.ref x hx; omega) H2.out).mono ?_
      rintro e w2 ⟨rfl, hb2⟩
      have f2 := (hb2.cell (p := ⟨w.heap.size, 2, none⟩) hsz1).trans d2
      have HB2 := hide (below_two HB1.out hb2)
      have OK2 := hide (OK1.out.next hb2)
      clear hb2 d1 d2
      go_wp2_with fail
      refine (stand_ok _ i.2.2 r w0 _ OK2.out (HN.out.below HB2.out) (by have := HF.out.tree; unfold maxLen; omega) (fun x hx => (HF.out.path x hx).1) H3.out).mono ?_
      rintro e w3 ⟨rfl, ok3, hb3⟩
      go_wp2
      go_ret
      exact ⟨rfl, ok3, below_two HB2.out hb3⟩
end Go.Proofs.YtinjbijigjfdfaaDoor
