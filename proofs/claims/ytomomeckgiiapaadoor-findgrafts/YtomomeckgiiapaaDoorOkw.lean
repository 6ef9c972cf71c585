/- The contracts of package path, said of a world behind a first one, each answer under a name of its own. -/
import Derived.Test.YtomomeckgiiapaaDoorW7
namespace Go.Proofs.YtomomeckgiiapaaDoor
open Go.RowKit

/-- A world behind w0, which has the program's shape, in which nothing that was there has turned. -/
def Ok (w0 w : World) : Prop := w0.ShapedOpen Tryd.prog ∧ Below w0.heap.size w0 w
theorem Ok.start {w : World} (h : w.ShapedOpen Tryd.prog) : Ok w w := ⟨h, Below.refl _ _⟩
theorem Ok.step {w0 w w' : World} (h : Ok w0 w) (hb : Below w0.heap.size w w') : Ok w0 w' := ⟨h.1, h.2.trans hb⟩
theorem Ok.next {w0 w w' : World} (h : Ok w0 w) (hb : Below w.heap.size w w') : Ok w0 w' := ⟨h.1, below_two h.2 hb⟩
theorem Ok.shape {w0 w : World} (h : Ok w0 w) : w.ShapedOpen Tryd.prog := shape_below h.1 h.2
theorem Ok.size {w0 w : World} (h : Ok w0 w) : w0.heap.size ≤ w.heap.size := h.2.size
theorem Ok.alloc {w0 w : World} (h : Ok w0 w) (o : Obj) : Ok w0 (w.alloc o) := h.next ((Below.refl _ _).alloc (Nat.le_refl _) _)
theorem below_alloc (w : World) (o : Obj) : Below w.heap.size w (w.alloc o) := (Below.refl _ _).alloc (Nat.le_refl _) _

theorem may_ok (p : ByteArray) (b : Bool) (w0 w : World) (h : Ok w0 w) (hp : p.size < 999999) (hv : Hog.mayL p.data.toList = b) :
    Calls Tryd.prog 38 #[.string p] w fun e w' => e = .returned (.bool b) ∧ Ok w0 w' ∧ Below w.heap.size w w' := by
  refine (may_any p w h.shape hp).mono ?_
  rintro e w' ⟨rfl, hb⟩
  exact ⟨ret_bool hv, h.next hb, hb⟩
theorem under_ok (p d : ByteArray) (b : Bool) (w0 w : World) (h : Ok w0 w) (hp : p.size < 999999) (hd : d.size < 999999) (hv : Hog.underL p.data.toList d.data.toList = b) :
    Calls Tryd.prog 25 #[.string p, .string d] w fun e w' => e = .returned (.bool b) ∧ Ok w0 w' ∧ Below w.heap.size w w' := by
  refine (under_any p d w h.shape hp hd).mono ?_
  rintro e w' ⟨rfl, hb⟩
  exact ⟨ret_bool hv, h.next hb, hb⟩
theorem Own.form {base : Nat} {w : World} {v : Value} {xs : List ByteArray} (h : Own base w v xs) : ∃ a c, v = .slice a xs.length c := by
  obtain ⟨_, h2⟩ := h
  rcases h2 with ⟨rfl, h0⟩ | ⟨g, cap, cur, rfl, _⟩
  · exact ⟨none, 0, by rw [h0]⟩
  · exact ⟨_, _, rfl⟩
theorem split_ok (p : ByteArray) (l : List (List UInt8)) (w0 w : World) (h : Ok w0 w) (hp : p.size < 999999) (hv : Hog.splitL p.data.toList = l) :
    Calls Tryd.prog 27 #[.string p] w fun e w' => ∃ a c, e = .returned (.slice a l.length c) ∧ Own w.heap.size w' (.slice a l.length c) (l.map Hog.mk) ∧ Ok w0 w' ∧ Below w.heap.size w w' := by
  refine (psplit_any p w h.shape hp).mono ?_
  rintro e w' ⟨v, rfl, ho, hb⟩
  rw [hv] at ho
  obtain ⟨a, c, e⟩ := ho.form
  rw [List.length_map] at e
  subst e
  exact ⟨a, c, rfl, ho, h.next hb, hb⟩
theorem parent_ok (p : ByteArray) (q : List UInt8) (b : Bool) (w0 w : World) (h : Ok w0 w) (hp : p.size < 999999) (hv : Hog.parentL p.data.toList = q) (hb : Hog.parentOk p.data.toList = b) :
    Calls Tryd.prog 26 #[.string p] w fun e w' => e = .returned (.tuple #[.string (Hog.mk q), .bool b]) ∧ Ok w0 w' ∧ Below w.heap.size w w' := by
  refine (parent_any p w h.shape hp).mono ?_
  rintro e w' ⟨rfl, hbl⟩
  exact ⟨ret_two (by rw [hv]) hb, h.next hbl, hbl⟩
theorem base_ok (p : ByteArray) (x : List UInt8) (w0 w : World) (h : Ok w0 w) (hp : p.size < 999999) (hv : Hog.baseL p.data.toList = x) :
    Calls Tryd.prog 33 #[.string p] w fun e w' => e = .returned (.string (Hog.mk x)) ∧ Ok w0 w' ∧ Below w.heap.size w w' := by
  refine (base_any p w h.shape hp).mono ?_
  rintro e w' ⟨rfl, hbl⟩
  exact ⟨ret_str (by rw [hv]), h.next hbl, hbl⟩
theorem part_ok (x : List UInt8) (b : Bool) (w : World) (hp : x.length < 999999) (hv : Hog.partL x = b) :
    Calls Tryd.prog 63 #[.string (Hog.mk x)] w fun e w' => e = .returned (.bool b) ∧ w' = w := by
  refine (part_any (Hog.mk x) w (by rw [Hog.mk_size]; omega)).mono ?_
  rintro e w' ⟨rfl, rfl⟩
  exact ⟨ret_bool (by rw [Hog.mk_data]; exact hv), rfl⟩
theorem join_ok (v : Value) (l : List (List UInt8)) (s : List UInt8) (b : Bool) (w0 w : World) (h : Ok w0 w) (ht : Txt w v (l.map Hog.mk)) (hl : l.length < 1000000) (hx : ∀ x ∈ l, x.length < 1000000) (hs : joinV l = s) (hb : Hog.joinOk l = b) :
    Calls Tryd.prog 28 #[v] w fun e w' => e = .returned (.tuple #[.string (Hog.mk s), .bool b]) ∧ Ok w0 w' ∧ Below w.heap.size w w' := by
  refine (join_any v (l.map Hog.mk) w ht (by simpa using hl) (fun x hm => by
    obtain ⟨y, hy, rfl⟩ := List.mem_map.1 hm
    rw [Hog.mk_size]; exact hx y hy)).mono ?_
  rintro e w' ⟨rfl, hbl⟩
  rw [parts_mk]
  exact ⟨ret_two (by rw [hs]) hb, h.next hbl, hbl⟩
theorem mk_inj {x y : List UInt8} (h : Hog.mk x = Hog.mk y) : x = y := by rw [← Hog.mk_data x, h, Hog.mk_data]
theorem map_mk_inj {l m : List (List UInt8)} (h : l.map Hog.mk = m.map Hog.mk) : l = m := by
  rw [← parts_mk l, h, parts_mk]
theorem same_ok (v u : Value) (l m : List (List UInt8)) (b : Bool) (w0 w : World) (h : Ok w0 w) (hv : Txt w v (l.map Hog.mk)) (hu : Txt w u (m.map Hog.mk)) (hl : l.length < 1000000) (hb : decide (l = m) = b) :
    Calls Tryd.prog 18 #[v, u] w fun e w' => e = .returned (.bool b) ∧ Ok w0 w' ∧ Below w.heap.size w w' := by
  refine (same_any v u _ _ w hv hu (by simpa using hl)).mono ?_
  rintro e w' ⟨rfl, hbl⟩
  refine ⟨ret_bool ?_, h.next hbl, hbl⟩
  rw [← hb]
  by_cases e : l = m
  · rw [e]; simp
  · rw [decide_eq_false e, decide_eq_false (fun h => e (map_mk_inj h))]
/-- An append of one text, or of several, onto texts of one's own. -/
theorem A9 : (Tryd.prog.info? 9).map (fun i => (i.zero, i.size, i.bytes)) = some (some (.string ByteArray.empty), 1, 16) := by kernel_rfl
theorem Own.joined {base : Nat} {w : World} {v : Value} {n : Nat} {xs ys : List ByteArray} (h : w.ownsRow base 9 1 v n (xs.map Value.string ++ ys.map Value.string)) : Own base w v (xs ++ ys) := by
  have hn : n = (xs ++ ys).length := by have := h.1; simp at this; simp; omega
  subst hn
  rw [← List.map_append] at h
  exact h
theorem Own.grownBelow {base : Nat} {w w' : World} {v : Value} {xs : List ByteArray} (h : Own base w v xs) (hg : w.grownBy w' v.ownBlock) (hB : base ≤ w.heap.size) : Below base w w' :=
  (Below.refl base w).grown hg hB (fun k hk => (h.lt k hk).1)

end Go.Proofs.YtomomeckgiiapaaDoor
