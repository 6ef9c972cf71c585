/- The walk of the statement PathOrder: for every three texts it answers true. -/
import Derived.Test.YtphjllnpabpohaaDoorOkw
namespace Go.Proofs.YtphjllnpabpohaaDoor
open Go.RowKit

theorem no1 (p q : ByteArray) (h : Hog.underL p.data.toList q.data.toList = true) (k : Op.bytesLess p.toList q.toList = true) : False := by
  rw [Lib.toList_data, Lib.toList_data, Hog.order1 h] at k
  cases k
theorem no2 (p q : ByteArray) (h : Hog.underL p.data.toList q.data.toList = true) (k : Hog.underL q.data.toList p.data.toList = true) (e : (!p.toList == q.toList) = true) : False := by
  rw [Lib.toList_data, Lib.toList_data, Hog.order2 h k] at e
  simp at e
theorem no3 (p q r : ByteArray) (h : Hog.underL p.data.toList q.data.toList = true) (k : Hog.underL p.data.toList r.data.toList = true) (e : ¬ Hog.underL q.data.toList r.data.toList = true) (f : (!Hog.underL r.data.toList q.data.toList) = true) : False := by
  rcases Hog.order3 h k with x | x
  · exact e x
  · rw [x] at f; cases f
theorem no4 (p q r : ByteArray) (h : Hog.underL p.data.toList q.data.toList = true) (k : Hog.underL q.data.toList r.data.toList = true) (e : ¬ Hog.underL p.data.toList r.data.toList = true) : False := e (Hog.order4 h k)

set_option maxHeartbeats 1000000 in
theorem order_walk (p q r : ByteArray) (w : World) (hsh : w.ShapedOpen Tryd.prog) :
    Calls Tryd.prog 6 #[.string p, .string q, .string r] w fun e w' => e = .returned (.bool true) ∧ Below w.heap.size w w' := by
  have h0 : Ok w w := Ok.start hsh
  go_enter Tryd.func6, Tryd.ntmps6
  go_wp2_with (first
    | (go_at_call 21; refine (under_ok _ _ _ w _ (by assumption) (by omega) (by omega) rfl).mono ?_; rintro e w' ⟨rfl, hok, _⟩)
    | (go_at_call 8; refine (awake_ok w _ (by assumption)).mono ?_; rintro e w' ⟨rfl, hok, _⟩))
  all_goals first
    | exact (no1 p q (by assumption) (by assumption)).elim
    | exact (no2 p q (by assumption) (by assumption) (by assumption)).elim
    | exact (no3 p q r (by assumption) (by assumption) (by assumption) (by assumption)).elim
    | exact (no4 p q r (by assumption) (by assumption) (by assumption)).elim
    | (go_ret; exact ⟨rfl, (show Ok w _ by assumption).2⟩)

end Go.Proofs.YtphjllnpabpohaaDoor
