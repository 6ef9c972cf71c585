/- A region that draws its order, reads, and calls what makes memory; the walk of byPath. -/
import Derived.Test.YtomomeckgiiapaaDoorN3
import Derived.Test.YtomomeckgiiapaaDoorPlainT
import Derived.Test.YtomomeckgiiapaaDoorOkw
namespace Go.Proofs.YtomomeckgiiapaaDoor
open Go.RowKit

/-- A world behind w in which nothing that was there has turned. -/
structure Later (w : World) where
  w1 : World
  below : Below w.heap.size w w1

theorem wp_region_later {P : Program} {id : Nat} {Q : Exit → Act → World → Prop} {a : Act} {w : World} {l : List Oper} (hm : P.follows .mixedOrders = true) (hB : Region.lexB .any l.toArray = true)
    (h : wpQuiet P l.toArray (fun w' => ∃ p : Later w, w' = p.w1) (fun a' => ∀ w', (∃ p : Later w, w' = p.w1) → Q .normal a' w') l a) : (Code.region id l.toArray true).wp P Q a w :=
  wp_region_quiet (C := fun w' => ∃ p : Later w, w' = p.w1) hm hB ⟨⟨_, (Below.refl _ w).drew⟩, rfl⟩ (by simpa using h)
theorem later_one (w : World) : Nonempty (Later w) := ⟨⟨w, Below.refl _ _⟩⟩
theorem Later.cell {w : World} (p : Later w) {a : Addr} {v : Value} (hb : a.block < w.heap.size) (h : w.cell? a = some v) : p.w1.cell? a = some v := (p.below.cell hb).trans h
theorem Calls.later_of {P : Program} {f : FuncId} {args : Array Value} {w : World} {p : Later w} {v : Value}
    (h : Calls P f args p.w1 fun e w' => e = .returned v ∧ Below p.w1.heap.size p.w1 w') : Calls P f args p.w1 fun e w'' => e = .returned v ∧ ∃ q : Later w, w'' = q.w1 :=
  h.mono fun _ w' ⟨he, hb⟩ => ⟨he, ⟨w', below_two p.below hb⟩, rfl⟩

def cmpN (x y : Nd) : Int := Lib.compareBytes x.1.data.toList y.1.data.toList
set_option maxHeartbeats 400000 in
theorem bypath_any (x y : Nd) (w : World) :
    Calls Tryd.prog 96 #[.agg #[.string x.1, .int .i64 x.2.1, .string x.2.2], .agg #[.string y.1, .int .i64 y.2.1, .string y.2.2]] w fun e w' => e = .returned (.int .i64 (cmpN x y)) ∧ Below w.heap.size w w' := by
  go_enter Tryd.func96, Tryd.ntmps96
  go_wp2_with (go_at_call 50; refine (Tryd.strings_Compare _ _ _).mono ?_; rintro e w' ⟨rfl, rfl⟩)
  go_ret
  exact ⟨rfl, ((Below.refl _ _).alloc (Nat.le_refl _) _).alloc (by simp) _⟩
end Go.Proofs.YtomomeckgiiapaaDoor
