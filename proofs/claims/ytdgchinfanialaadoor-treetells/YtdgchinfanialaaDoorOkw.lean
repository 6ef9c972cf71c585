/- The contracts of package path, said of a world behind a first one, each answer under a name of its own. -/
import Derived.Test.YtdgchinfanialaaDoorW7
namespace Go.Proofs.YtdgchinfanialaaDoor
open Go.RowKit

/-- A world behind w0, which has the program's shape, in which nothing that was there has turned. -/
def Ok (w0 w : World) : Prop := w0.ShapedOpen Tryd.prog ∧ Below w0.heap.size w0 w
theorem Ok.start {w : World} (h : w.ShapedOpen Tryd.prog) : Ok w w := ⟨h, Below.refl _ _⟩
theorem Ok.step {w0 w w' : World} (h : Ok w0 w) (hb : Below w0.heap.size w w') : Ok w0 w' := ⟨h.1, h.2.trans hb⟩
theorem Ok.next {w0 w w' : World} (h : Ok w0 w) (hb : Below w.heap.size w w') : Ok w0 w' := ⟨h.1, below_two h.2 hb⟩
theorem Ok.shape {w0 w : World} (h : Ok w0 w) : w.ShapedOpen Tryd.prog := shape_below h.1 h.2
theorem Ok.size {w0 w : World} (h : Ok w0 w) : w0.heap.size ≤ w.heap.size := h.2.size
theorem Ok.alloc {w0 w : World} (h : Ok w0 w) (o : Obj) : Ok w0 (w.alloc o) := h.next ((Below.refl _ _).alloc (Nat.le_refl _) _)
theorem below_alloc (w : World) (o : Obj) : Below w.heap.size w (w.alloc o) := (Below.refl _ _).alloc (Nat.le_refl _) _

theorem may_ok (p : ByteArray) (b : Bool) (w0 w : World) (h : Ok w0 w) (hp : p.size < 999999) (hv : Hog.mayL p.data.toList = b) :
    Calls Tryd.prog 33 #[.string p] w fun e w' => e = .returned (.bool b) ∧ Ok w0 w' ∧ Below w.heap.size w w' := by
  refine (may_any p w h.shape hp).mono ?_
  rintro e w' ⟨rfl, hb⟩
  exact ⟨ret_bool hv, h.next hb, hb⟩
theorem Own.form {base : Nat} {w : World} {v : Value} {xs : List ByteArray} (h : Own base w v xs) : ∃ a c, v = .slice a xs.length c := by
  obtain ⟨_, h2⟩ := h
  rcases h2 with ⟨rfl, h0⟩ | ⟨g, cap, cur, rfl, _⟩
  · exact ⟨none, 0, by rw [h0]⟩
  · exact ⟨_, _, rfl⟩
theorem parent_ok (p : ByteArray) (q : List UInt8) (b : Bool) (w0 w : World) (h : Ok w0 w) (hp : p.size < 999999) (hv : Hog.parentL p.data.toList = q) (hb : Hog.parentOk p.data.toList = b) :
    Calls Tryd.prog 58 #[.string p] w fun e w' => e = .returned (.tuple #[.string (Hog.mk q), .bool b]) ∧ Ok w0 w' ∧ Below w.heap.size w w' := by
  refine (parent_any p w h.shape hp).mono ?_
  rintro e w' ⟨rfl, hbl⟩
  exact ⟨ret_two (by rw [hv]) hb, h.next hbl, hbl⟩
theorem part_ok (x : List UInt8) (b : Bool) (w : World) (hp : x.length < 999999) (hv : Hog.partL x = b) :
    Calls Tryd.prog 56 #[.string (Hog.mk x)] w fun e w' => e = .returned (.bool b) ∧ w' = w := by
  refine (part_any (Hog.mk x) w (by rw [Hog.mk_size]; omega)).mono ?_
  rintro e w' ⟨rfl, rfl⟩
  exact ⟨ret_bool (by rw [Hog.mk_data]; exact hv), rfl⟩
theorem mk_inj {x y : List UInt8} (h : Hog.mk x = Hog.mk y) : x = y := by rw [← Hog.mk_data x, h, Hog.mk_data]
theorem map_mk_inj {l m : List (List UInt8)} (h : l.map Hog.mk = m.map Hog.mk) : l = m := by
  rw [← parts_mk l, h, parts_mk]
/-- An append of one text, or of several, onto texts of one's own. -/
theorem A9 : (Tryd.prog.info? 9).map (fun i => (i.zero, i.size, i.bytes)) = some (some (.string ByteArray.empty), 1, 16) := by kernel_rfl
theorem Own.joined {base : Nat} {w : World} {v : Value} {n : Nat} {xs ys : List ByteArray} (h : w.ownsRow base 9 1 v n (xs.map Value.string ++ ys.map Value.string)) : Own base w v (xs ++ ys) := by
  have hn : n = (xs ++ ys).length := by have := h.1; simp at this; simp; omega
  subst hn
  rw [← List.map_append] at h
  exact h
theorem Own.grownBelow {base : Nat} {w w' : World} {v : Value} {xs : List ByteArray} (h : Own base w v xs) (hg : w.grownBy w' v.ownBlock) (hB : base ≤ w.heap.size) : Below base w w' :=
  (Below.refl base w).grown hg hB (fun k hk => (h.lt k hk).1)

end Go.Proofs.YtdgchinfanialaaDoor
