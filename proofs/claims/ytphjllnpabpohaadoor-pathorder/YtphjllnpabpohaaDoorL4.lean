/- The walk of the statement PathOrder: for every three texts it answers true. -/
import Derived.Test.YtphjllnpabpohaaDoorW7
namespace Go.Proofs.YtphjllnpabpohaaDoor
open Go.RowKit

/-- A world behind w0, of the program's shape, in which nothing that was there has turned. -/
def Ok (w0 w : World) : Prop := w.ShapedOpen Tryd.prog ∧ Below w0.heap.size w0 w
theorem Ok.start {w : World} (h : w.ShapedOpen Tryd.prog) : Ok w w := ⟨h, Below.refl _ _⟩
theorem Ok.next {w0 w w' : World} (h : Ok w0 w) (hb : Below w.heap.size w w') : Ok w0 w' := ⟨shape_below h.1 hb, below_two h.2 hb⟩

theorem under_ok (p d : ByteArray) (w0 w : World) (h : Ok w0 w) (hp : p.size < 999999) (hd : d.size < 999999) :
    Calls Tryd.prog 21 #[.string p, .string d] w fun e w' => e = .returned (.bool (Hog.underL p.data.toList d.data.toList)) ∧ Ok w0 w' := by
  refine (under_any p d w h.1 hp hd).mono ?_
  rintro e w' ⟨rfl, hb⟩
  exact ⟨rfl, h.next hb⟩
theorem awake_ok (w0 w : World) (h : Ok w0 w) :
    Calls Tryd.prog 8 #[] w fun e w' => e = .returned (.bool true) ∧ Ok w0 w' := by
  refine (awake_any w h.1).mono ?_
  rintro e w' ⟨rfl, hb⟩
  exact ⟨rfl, h.next hb⟩

theorem no1 (p q : ByteArray) (h : Hog.underL p.data.toList q.data.toList = true) (k : Op.bytesLess p.toList q.toList = true) : False := by
  rw [Lib.toList_data, Lib.toList_data, Hog.order1 h] at k
  cases k
theorem no2 (p q : ByteArray) (h : Hog.underL p.data.toList q.data.toList = true) (k : Hog.underL q.data.toList p.data.toList = true) (e : (!p.toList == q.toList) = true) : False := by
  rw [Lib.toList_data, Lib.toList_data, Hog.order2 h k] at e
  simp at e
theorem no3 (p q r : ByteArray) (h : Hog.underL p.data.toList q.data.toList = true) (k : Hog.underL p.data.toList r.data.toList = true) (e : ¬ Hog.underL q.data.toList r.data.toList = true) (f : (!Hog.underL r.data.toList q.data.toList) = true) : False := by
  rcases Hog.order3 h k with x | x
  · exact e x
  · rw [x] at f; cases f
theorem no4 (p q r : ByteArray) (h : Hog.underL p.data.toList q.data.toList = true) (k : Hog.underL q.data.toList r.data.toList = true) (e : ¬ Hog.underL p.data.toList r.data.toList = true) : False := e (Hog.order4 h k)

set_option maxHeartbeats 1000000 in
theorem order_walk (p q r : ByteArray) (w : World) (hsh : w.ShapedOpen Tryd.prog) :
    Calls Tryd.prog 6 #[.string p, .string q, .string r] w fun e w' => e = .returned (.bool true) ∧ Below w.heap.size w w' := by
  have h0 : Ok w w := Ok.start hsh
  go_enter Tryd.func6, Tryd.ntmps6
  go_wp2_with (first
    | (go_at_call 21; refine (under_ok _ _ w _ (by assumption) (by omega) (by omega)).mono ?_; rintro e w' ⟨rfl, hok⟩)
    | (go_at_call 8; refine (awake_ok w _ (by assumption)).mono ?_; rintro e w' ⟨rfl, hok⟩))
  all_goals first
    | exact (no1 p q (by assumption) (by assumption)).elim
    | exact (no2 p q (by assumption) (by assumption) (by assumption)).elim
    | exact (no3 p q r (by assumption) (by assumption) (by assumption) (by assumption)).elim
    | exact (no4 p q r (by assumption) (by assumption) (by assumption)).elim
    | (go_ret; exact ⟨rfl, (show Ok w _ by assumption).2⟩)

end Go.Proofs.YtphjllnpabpohaaDoor
