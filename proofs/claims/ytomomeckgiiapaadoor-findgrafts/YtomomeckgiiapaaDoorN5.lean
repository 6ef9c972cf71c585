/- The walks of package tree: what is a good node. -/
import Derived.Test.YtomomeckgiiapaaDoorN4
namespace Go.Proofs.YtomomeckgiiapaaDoor
open Go.RowKit

def dataEmpty (s : ByteArray) : Bool := s.toList.isEmpty
theorem dataEmpty_iff (s : ByteArray) : dataEmpty s = true ↔ s.data.toList = [] := by
  unfold dataEmpty; rw [Lib.toList_data]; simp
def dataShort (s : ByteArray) : Bool := decide (s.size ≤ 400)
def dataFree (s : ByteArray) : Bool := decide (0 ∉ s.data.toList)
def dataLink (s : ByteArray) : Bool := !dataEmpty s && dataShort s && dataFree s

set_option maxHeartbeats 400000 in
theorem none_any (s : ByteArray) (w : World) : Calls Tryd.prog 104 #[.string s] w fun e w' => e = .returned (.bool (dataEmpty s)) ∧ w' = w := by
  go_enter Tryd.func104, Tryd.ntmps104
  go_wp2
  go_ret
  exact ⟨rfl, rfl⟩
set_option maxHeartbeats 400000 in
theorem short_any (s : ByteArray) (w : World) : Calls Tryd.prog 105 #[.string s] w fun e w' => e = .returned (.bool (dataShort s)) ∧ w' = w := by
  go_enter Tryd.func105, Tryd.ntmps105
  go_wp2
  go_ret
  exact ⟨ret_bool (by unfold dataShort; rw [Bool.eq_iff_iff]; simp; omega), rfl⟩
set_option maxHeartbeats 400000 in
theorem target_any (s : ByteArray) (w : World) : Calls Tryd.prog 106 #[.string s] w fun e w' => e = .returned (.bool (dataLink s)) ∧ w' = w := by
  have hf : decide (Lib.indexByte s.data.toList 0 < 0) = dataFree s := by
    unfold dataFree; rw [Bool.eq_iff_iff, decide_eq_true_eq, decide_eq_true_eq, Hog.indexByte_neg]
  have HF := hide hf
  clear hf
  cases h1 : dataEmpty s with
  | true =>
    have H1 := hide h1
    clear h1
    go_enter Tryd.func106, Tryd.ntmps106
    go_wp2_with fail
    refine (none_any s w).mono ?_
    rintro e w1 ⟨rfl, rfl⟩
    rw [H1.out]
    go_wp2_with fail
    go_ret
    exact ⟨ret_bool (by unfold dataLink; rw [H1.out]; rfl), rfl⟩
  | false =>
    have H1 := hide h1
    clear h1
    cases h2 : dataShort s with
    | false =>
      have H2 := hide h2
      clear h2
      go_enter Tryd.func106, Tryd.ntmps106
      go_wp2_with fail
      refine (none_any s w).mono ?_
      rintro e w1 ⟨rfl, rfl⟩
      rw [H1.out]
      go_wp2_with fail
      refine (short_any s _).mono ?_
      rintro e w1 ⟨rfl, rfl⟩
      rw [H2.out]
      go_wp2_with fail
      go_ret
      exact ⟨ret_bool (by unfold dataLink; rw [H1.out, H2.out]; rfl), rfl⟩
    | true =>
      have H2 := hide h2
      clear h2
      go_enter Tryd.func106, Tryd.ntmps106
      go_wp2_with fail
      refine (none_any s w).mono ?_
      rintro e w1 ⟨rfl, rfl⟩
      rw [H1.out]
      go_wp2_with fail
      refine (short_any s _).mono ?_
      rintro e w1 ⟨rfl, rfl⟩
      rw [H2.out]
      go_wp2_with fail
      refine (Tryd.strings_IndexByte _ _ _).mono ?_
      rintro e w1 ⟨rfl, rfl⟩
      go_wp2_with fail
      go_ret
      refine ⟨ret_bool ?_, rfl⟩
      unfold dataLink
      rw [H1.out, H2.out, ← HF.out]
      simp

def ruleB (k : Int) (d : ByteArray) : Bool := if k = 1 then dataEmpty d else if k = 2 ∨ k = 3 then dataShort d else if k = 4 then dataLink d else false
def goodB (n : Nd) : Bool := Hog.mayL n.1.data.toList && ruleB n.2.1 n.2.2

/-- The function that looks at the data of a kind. -/
def ruleV (k : Int) : Value := if k = 1 then .func (.func 104) #[] #[] else if k = 2 ∨ k = 3 then .func (.func 105) #[] #[] else if k = 4 then .func (.func 106) #[] #[] else .nilFunc
theorem ret_val {a b : Value} (h : a = b) : Ending.returned a = .returned b := by rw [h]
set_option maxHeartbeats 400000 in
theorem rule_any (k : Int) (w : World) : Calls Tryd.prog 94 #[.int .i64 k] w fun e w' => e = .returned (ruleV k) ∧ w' = w := by
  by_cases h1 : k = 1
  · subst h1
    go_enter Tryd.func94, Tryd.ntmps94
    go_wp2
    go_ret
    exact ⟨rfl, rfl⟩
  · by_cases h2 : k = 2
    · subst h2
      go_enter Tryd.func94, Tryd.ntmps94
      go_wp2
      go_ret
      exact ⟨rfl, rfl⟩
    · by_cases h3 : k = 3
      · subst h3
        go_enter Tryd.func94, Tryd.ntmps94
        go_wp2
        go_ret
        exact ⟨rfl, rfl⟩
      · by_cases h4 : k = 4
        · subst h4
          go_enter Tryd.func94, Tryd.ntmps94
          go_wp2
          go_ret
          exact ⟨rfl, rfl⟩
        · have e : ruleV k = .nilFunc := by unfold ruleV; rw [if_neg h1, if_neg (by omega), if_neg h4]
          have b1 : (k == 1) = false := by rw [beq_eq_false_iff_ne]; exact h1
          have b2 : (k == 2) = false := by rw [beq_eq_false_iff_ne]; exact h2
          have b3 : (k == 3) = false := by rw [beq_eq_false_iff_ne]; exact h3
          have b4 : (k == 4) = false := by rw [beq_eq_false_iff_ne]; exact h4
          rw [e]
          clear e
          go_enter Tryd.func94, Tryd.ntmps94
          go_wp2
          go_ret
          exact ⟨rfl, rfl⟩

theorem equalIn_func_some (d : Nat) (t : TypeId) (fn : Fn) (a b : Array Value) (w : World) {ps rs : Array TypeId} {v : Bool} (ht : Tryd.prog.underlying t = some (.func ps rs v)) : (Op.equalIn (d + 1) t (.func fn a b) .nilFunc).run Tryd.prog w = .ok false w := by
  simp [Op.equalIn, run_underlying ht]
theorem equalIn_func_nil (d : Nat) (t : TypeId) (w : World) {ps rs : Array TypeId} {v : Bool} (ht : Tryd.prog.underlying t = some (.func ps rs v)) : (Op.equalIn (d + 1) t .nilFunc .nilFunc).run Tryd.prog w = .ok true w := by
  simp [Op.equalIn, run_underlying ht]
theorem neq_func_some (t : TypeId) (fn : Fn) (a b : Array Value) (w : World) {ps rs : Array TypeId} {v : Bool} (ht : Tryd.prog.underlying t = some (.func ps rs v)) : (binOp .neq t (.func fn a b) .nilFunc).run Tryd.prog w = .ok (.bool true) w := by
  simp only [binOp]
  simp [Op.equal, Op.maxDepth, equalIn_func_some 9999 t fn a b w ht]
theorem neq_func_nil (t : TypeId) (w : World) {ps rs : Array TypeId} {v : Bool} (ht : Tryd.prog.underlying t = some (.func ps rs v)) : (binOp .neq t .nilFunc .nilFunc).run Tryd.prog w = .ok (.bool false) w := by
  simp only [binOp]
  simp [Op.equal, Op.maxDepth, equalIn_func_nil 9999 t w ht]
theorem eql_func_some (t : TypeId) (fn : Fn) (a b : Array Value) (w : World) {ps rs : Array TypeId} {v : Bool} (ht : Tryd.prog.underlying t = some (.func ps rs v)) : (binOp .eql t (.func fn a b) .nilFunc).run Tryd.prog w = .ok (.bool false) w := by
  simp only [binOp]
  simp [Op.equal, Op.maxDepth, equalIn_func_some 9999 t fn a b w ht]
theorem eql_func_nil (t : TypeId) (w : World) {ps rs : Array TypeId} {v : Bool} (ht : Tryd.prog.underlying t = some (.func ps rs v)) : (binOp .eql t .nilFunc .nilFunc).run Tryd.prog w = .ok (.bool true) w := by
  simp only [binOp]
  simp [Op.equal, Op.maxDepth, equalIn_func_nil 9999 t w ht]
theorem below_box (w : World) (o : Obj) : Below w.heap.size w (w.alloc o) := (Below.refl _ _).alloc (Nat.le_refl _) _

set_option maxHeartbeats 800000 in
theorem good_none (n : Nd) (w0 w : World) (h : Ok w0 w) (hr : ruleV n.2.1 = .nilFunc) :
    Calls Tryd.prog 82 #[.agg #[.string n.1, .int .i64 n.2.1, .string n.2.2]] w fun e w' => e = .returned (.bool false) ∧ Ok w0 w' ∧ Below w.heap.size w w' := by
  have HR := hide hr
  clear hr
  have hq := fun w => neq_func_nil _ w Tryd.underlying108
  go_enter Tryd.func82, Tryd.ntmps82
  go_wp2_with fail
  refine (rule_any n.2.1 _).mono ?_
  rintro e w1 ⟨rfl, rfl⟩
  rw [HR.out]
  go_wp2_with fail
  go_ret
  exact ⟨rfl, h.alloc _, below_box _ _⟩
set_option maxHeartbeats 800000 in
theorem good_path (n : Nd) (f : Nat) (w0 w : World) (h : Ok w0 w) (hp : n.1.size < 999999) (hr : ruleV n.2.1 = .func (.func f) #[] #[]) (hm : Hog.mayL n.1.data.toList = false) :
    Calls Tryd.prog 82 #[.agg #[.string n.1, .int .i64 n.2.1, .string n.2.2]] w fun e w' => e = .returned (.bool false) ∧ Ok w0 w' ∧ Below w.heap.size w w' := by
  have HR := hide hr
  have HM := hide hm
  clear hr hm
  have hq := fun w => neq_func_some _ (.func f) #[] #[] w Tryd.underlying108
  go_enter Tryd.func82, Tryd.ntmps82
  go_wp2_with fail
  refine (rule_any n.2.1 _).mono ?_
  rintro e w1 ⟨rfl, rfl⟩
  rw [HR.out]
  go_wp2_with fail
  refine (may_ok n.1 false w0 _ (h.alloc _) hp HM.out).mono ?_
  rintro e w2 ⟨rfl, ok2, hb2⟩
  go_wp2_with fail
  go_ret
  exact ⟨rfl, ok2, below_two (below_box _ _) hb2⟩
set_option maxHeartbeats 800000 in
theorem good_rule (n : Nd) (f : Nat) (b : Bool) (w0 w : World) (h : Ok w0 w) (hp : n.1.size < 999999) (hr : ruleV n.2.1 = .func (.func f) #[] #[]) (hm : Hog.mayL n.1.data.toList = true)
    (eg : ∀ args w, (callFunc f args).run Tryd.prog w = .ok (.enter f args) w) (hc : ∀ w, Calls Tryd.prog f #[.string n.2.2] w fun e w' => e = .returned (.bool b) ∧ w' = w) :
    Calls Tryd.prog 82 #[.agg #[.string n.1, .int .i64 n.2.1, .string n.2.2]] w fun e w' => e = .returned (.bool b) ∧ Ok w0 w' ∧ Below w.heap.size w w' := by
  have HR := hide hr
  have HM := hide hm
  have HC := hide hc
  clear hr hm hc
  have hq := fun w => neq_func_some _ (.func f) #[] #[] w Tryd.underlying108
  go_enter Tryd.func82, Tryd.ntmps82
  go_wp2_with fail
  refine (rule_any n.2.1 _).mono ?_
  rintro e w1 ⟨rfl, rfl⟩
  rw [HR.out]
  go_wp2_with fail
  refine (may_ok n.1 true w0 _ (h.alloc _) hp HM.out).mono ?_
  rintro e w2 ⟨rfl, ok2, hb2⟩
  have hc2 := hb2.cell (p := ⟨w.heap.size, 2, none⟩) (by simp)
  go_wp2_with fail
  refine (HC.out _).mono ?_
  rintro e w3 ⟨rfl, rfl⟩
  go_wp2_with fail
  go_ret
  exact ⟨rfl, ok2, below_two (below_box _ _) hb2⟩

theorem enters_none : ∀ args w, (callFunc 104 args).run Tryd.prog w = .ok (.enter 104 args) w := enters_of Tryd.func104 (by kernel_rfl) rfl
theorem enters_short : ∀ args w, (callFunc 105 args).run Tryd.prog w = .ok (.enter 105 args) w := enters_of Tryd.func105 (by kernel_rfl) rfl
theorem enters_target : ∀ args w, (callFunc 106 args).run Tryd.prog w = .ok (.enter 106 args) w := enters_of Tryd.func106 (by kernel_rfl) rfl

theorem good_ok (n : Nd) (b : Bool) (w0 w : World) (h : Ok w0 w) (hp : n.1.size < 999999) (hv : goodB n = b) :
    Calls Tryd.prog 82 #[.agg #[.string n.1, .int .i64 n.2.1, .string n.2.2]] w fun e w' => e = .returned (.bool b) ∧ Ok w0 w' ∧ Below w.heap.size w w' := by
  subst hv
  have key : ∀ (f : Nat) (hr : ruleV n.2.1 = .func (.func f) #[] #[]) (eg : ∀ args w, (callFunc f args).run Tryd.prog w = .ok (.enter f args) w) (hc : ∀ w, Calls Tryd.prog f #[.string n.2.2] w fun e w' => e = .returned (.bool (ruleB n.2.1 n.2.2)) ∧ w' = w),
      Calls Tryd.prog 82 #[.agg #[.string n.1, .int .i64 n.2.1, .string n.2.2]] w fun e w' => e = .returned (.bool (goodB n)) ∧ Ok w0 w' ∧ Below w.heap.size w w' := by
    intro f hr eg hc
    cases hm : Hog.mayL n.1.data.toList with
    | false =>
      have e : goodB n = false := by unfold goodB; rw [hm]; rfl
      rw [e]
      exact good_path n f w0 w h hp hr hm
    | true =>
      have e : goodB n = ruleB n.2.1 n.2.2 := by unfold goodB; rw [hm]; rfl
      rw [e]
      exact good_rule n f _ w0 w h hp hr hm eg hc
  by_cases h1 : n.2.1 = 1
  · refine key _ (by unfold ruleV; rw [if_pos h1]) enters_none fun w => ?_
    have e : ruleB n.2.1 n.2.2 = dataEmpty n.2.2 := by unfold ruleB; rw [if_pos h1]
    rw [e]; exact none_any _ w
  · by_cases h2 : n.2.1 = 2 ∨ n.2.1 = 3
    · refine key _ (by unfold ruleV; rw [if_neg h1, if_pos h2]) enters_short fun w => ?_
      have e : ruleB n.2.1 n.2.2 = dataShort n.2.2 := by unfold ruleB; rw [if_neg h1, if_pos h2]
      rw [e]; exact short_any _ w
    · by_cases h4 : n.2.1 = 4
      · refine key _ (by unfold ruleV; rw [if_neg h1, if_neg h2, if_pos h4]) enters_target fun w => ?_
        have e : ruleB n.2.1 n.2.2 = dataLink n.2.2 := by unfold ruleB; rw [if_neg h1, if_neg h2, if_pos h4]
        rw [e]; exact target_any _ w
      · have e : goodB n = false := by unfold goodB ruleB; rw [if_neg h1, if_neg h2, if_neg h4, Bool.and_false]
        rw [e]
        exact good_none n w0 w h (by unfold ruleV; rw [if_neg h1, if_neg h2, if_neg h4])
end Go.Proofs.YtomomeckgiiapaaDoor
