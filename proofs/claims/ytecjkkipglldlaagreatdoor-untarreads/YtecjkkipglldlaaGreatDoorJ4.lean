/- Texts that stand together, joined: N4, N5, N6, N7, N8, N9. -/
import Derived.Test.YtecjkkipglldlaaGreatDoorJ3
import Derived.Test.YtecjkkipglldlaaGreatDoorJ1
import Derived.Test.YtecjkkipglldlaaGreatDoorJ2
/- A region that draws its order, reads, and calls what makes memory; the walk of byPath. -/
namespace Go.Proofs.YtecjkkipglldlaaGreatDoor
open Go.RowKit

/-- A world behind w in which nothing that was there has turned. -/
structure Later (w : World) where
  w1 : World
  below : Below w.heap.size w w1

theorem wp_region_later {P : Program} {id : Nat} {Q : Exit → Act → World → Prop} {a : Act} {w : World} {l : List Oper} (hm : P.follows .mixedOrders = true) (hB : Region.lexB .any l.toArray = true)
    (h : wpQuiet P l.toArray (fun w' => ∃ p : Later w, w' = p.w1) (fun a' => ∀ w', (∃ p : Later w, w' = p.w1) → Q .normal a' w') l a) : (Code.region id l.toArray true).wp P Q a w :=
  wp_region_quiet (C := fun w' => ∃ p : Later w, w' = p.w1) hm hB ⟨⟨_, (Below.refl _ w).drew⟩, rfl⟩ (by simpa using h)
theorem later_one (w : World) : Nonempty (Later w) := ⟨⟨w, Below.refl _ _⟩⟩
theorem Later.cell {w : World} (p : Later w) {a : Addr} {v : Value} (hb : a.block < w.heap.size) (h : w.cell? a = some v) : p.w1.cell? a = some v := (p.below.cell hb).trans h
theorem Calls.later_of {P : Program} {f : FuncId} {args : Array Value} {w : World} {p : Later w} {v : Value}
    (h : Calls P f args p.w1 fun e w' => e = .returned v ∧ Below p.w1.heap.size p.w1 w') : Calls P f args p.w1 fun e w'' => e = .returned v ∧ ∃ q : Later w, w'' = q.w1 :=
  h.mono fun _ w' ⟨he, hb⟩ => ⟨he, ⟨w', below_two p.below hb⟩, rfl⟩

def cmpN (x y : Nd) : Int := Lib.compareBytes x.1.data.toList y.1.data.toList
set_option maxHeartbeats 400000 in
theorem bypath_any (x y : Nd) (w : World) :
    Calls Tryz.prog 75 #[.agg #[.string x.1, .int .i64 x.2.1, .string x.2.2], .agg #[.string y.1, .int .i64 y.2.1, .string y.2.2]] w fun e w' => e = .returned (.int .i64 (cmpN x y)) ∧ Below w.heap.size w w' := by
  go_enter Tryz.func75, Tryz.ntmps75
  go_wp2_with (go_at_call 94; refine (Tryz.strings_Compare _ _ _).mono ?_; rintro e w' ⟨rfl, rfl⟩)
  go_ret
  exact ⟨rfl, ((Below.refl _ _).alloc (Nat.le_refl _) _).alloc (by simp) _⟩
end Go.Proofs.YtecjkkipglldlaaGreatDoor
/- The walks of package tree: what is a good node. -/
namespace Go.Proofs.YtecjkkipglldlaaGreatDoor
open Go.RowKit

def dataEmpty (s : ByteArray) : Bool := s.toList.isEmpty
theorem dataEmpty_iff (s : ByteArray) : dataEmpty s = true ↔ s.data.toList = [] := by
  unfold dataEmpty; rw [Lib.toList_data]; simp
def dataShort (s : ByteArray) : Bool := decide (s.size ≤ 400)
def dataFree (s : ByteArray) : Bool := decide (0 ∉ s.data.toList)
def dataLink (s : ByteArray) : Bool := !dataEmpty s && dataShort s && dataFree s

set_option maxHeartbeats 400000 in
theorem none_any (s : ByteArray) (w : World) : Calls Tryz.prog 88 #[.string s] w fun e w' => e = .returned (.bool (dataEmpty s)) ∧ w' = w := by
  go_enter Tryz.func88, Tryz.ntmps88
  go_wp2
  go_ret
  exact ⟨rfl, rfl⟩
set_option maxHeartbeats 400000 in
theorem short_any (s : ByteArray) (w : World) : Calls Tryz.prog 89 #[.string s] w fun e w' => e = .returned (.bool (dataShort s)) ∧ w' = w := by
  go_enter Tryz.func89, Tryz.ntmps89
  go_wp2
  go_ret
  exact ⟨ret_bool (by unfold dataShort; rw [Bool.eq_iff_iff]; simp; omega), rfl⟩
set_option maxHeartbeats 400000 in
theorem target_any (s : ByteArray) (w : World) : Calls Tryz.prog 90 #[.string s] w fun e w' => e = .returned (.bool (dataLink s)) ∧ w' = w := by
  have hf : decide (Lib.indexByte s.data.toList 0 < 0) = dataFree s := by
    unfold dataFree; rw [Bool.eq_iff_iff, decide_eq_true_eq, decide_eq_true_eq, Hog.indexByte_neg]
  have HF := hide hf
  clear hf
  cases h1 : dataEmpty s with
  | true =>
    have H1 := hide h1
    clear h1
    go_enter Tryz.func90, Tryz.ntmps90
    go_wp2_with fail
    refine (none_any s w).mono ?_
    rintro e w1 ⟨rfl, rfl⟩
    rw [H1.out]
    go_wp2_with fail
    go_ret
    exact ⟨ret_bool (by unfold dataLink; rw [H1.out]; rfl), rfl⟩
  | false =>
    have H1 := hide h1
    clear h1
    cases h2 : dataShort s with
    | false =>
      have H2 := hide h2
      clear h2
      go_enter Tryz.func90, Tryz.ntmps90
      go_wp2_with fail
      refine (none_any s w).mono ?_
      rintro e w1 ⟨rfl, rfl⟩
      rw [H1.out]
      go_wp2_with fail
      refine (short_any s _).mono ?_
      rintro e w1 ⟨rfl, rfl⟩
      rw [H2.out]
      go_wp2_with fail
      go_ret
      exact ⟨ret_bool (by unfold dataLink; rw [H1.out, H2.out]; rfl), rfl⟩
    | true =>
      have H2 := hide h2
      clear h2
      go_enter Tryz.func90, Tryz.ntmps90
      go_wp2_with fail
      refine (none_any s w).mono ?_
      rintro e w1 ⟨rfl, rfl⟩
      rw [H1.out]
      go_wp2_with fail
      refine (short_any s _).mono ?_
      rintro e w1 ⟨rfl, rfl⟩
      rw [H2.out]
      go_wp2_with fail
      refine (Tryz.strings_IndexByte _ _ _).mono ?_
      rintro e w1 ⟨rfl, rfl⟩
      go_wp2_with fail
      go_ret
      refine ⟨ret_bool ?_, rfl⟩
      unfold dataLink
      rw [H1.out, H2.out, ← HF.out]
      simp

def ruleB (k : Int) (d : ByteArray) : Bool := if k = 1 then dataEmpty d else if k = 2 ∨ k = 3 then dataShort d else if k = 4 then dataLink d else false
def goodB (n : Nd) : Bool := Hog.mayL n.1.data.toList && ruleB n.2.1 n.2.2

/-- The function that looks at the data of a kind. -/
def ruleV (k : Int) : Value := if k = 1 then .func (.func 88) #[] #[] else if k = 2 ∨ k = 3 then .func (.func 89) #[] #[] else if k = 4 then .func (.func 90) #[] #[] else .nilFunc
theorem ret_val {a b : Value} (h : a = b) : Ending.returned a = .returned b := by rw [h]
set_option maxHeartbeats 400000 in
theorem rule_any (k : Int) (w : World) : Calls Tryz.prog 71 #[.int .i64 k] w fun e w' => e = .returned (ruleV k) ∧ w' = w := by
  by_cases h1 : k = 1
  · subst h1
    go_enter Tryz.func71, Tryz.ntmps71
    go_wp2
    go_ret
    exact ⟨rfl, rfl⟩
  · by_cases h2 : k = 2
    · subst h2
      go_enter Tryz.func71, Tryz.ntmps71
      go_wp2
      go_ret
      exact ⟨rfl, rfl⟩
    · by_cases h3 : k = 3
      · subst h3
        go_enter Tryz.func71, Tryz.ntmps71
        go_wp2
        go_ret
        exact ⟨rfl, rfl⟩
      · by_cases h4 : k = 4
        · subst h4
          go_enter Tryz.func71, Tryz.ntmps71
          go_wp2
          go_ret
          exact ⟨rfl, rfl⟩
        · have e : ruleV k = .nilFunc := by unfold ruleV; rw [if_neg h1, if_neg (by omega), if_neg h4]
          have b1 : (k == 1) = false := by rw [beq_eq_false_iff_ne]; exact h1
          have b2 : (k == 2) = false := by rw [beq_eq_false_iff_ne]; exact h2
          have b3 : (k == 3) = false := by rw [beq_eq_false_iff_ne]; exact h3
          have b4 : (k == 4) = false := by rw [beq_eq_false_iff_ne]; exact h4
          rw [e]
          clear e
          go_enter Tryz.func71, Tryz.ntmps71
          go_wp2
          go_ret
          exact ⟨rfl, rfl⟩

theorem equalIn_func_some (d : Nat) (t : TypeId) (fn : Fn) (a b : Array Value) (w : World) {ps rs : Array TypeId} {v : Bool} (ht : Tryz.prog.underlying t = some (.func ps rs v)) : (Op.equalIn (d + 1) t (.func fn a b) .nilFunc).run Tryz.prog w = .ok false w := by
  simp [Op.equalIn, run_underlying ht]
theorem equalIn_func_nil (d : Nat) (t : TypeId) (w : World) {ps rs : Array TypeId} {v : Bool} (ht : Tryz.prog.underlying t = some (.func ps rs v)) : (Op.equalIn (d + 1) t .nilFunc .nilFunc).run Tryz.prog w = .ok true w := by
  simp [Op.equalIn, run_underlying ht]
theorem neq_func_some (t : TypeId) (fn : Fn) (a b : Array Value) (w : World) {ps rs : Array TypeId} {v : Bool} (ht : Tryz.prog.underlying t = some (.func ps rs v)) : (binOp .neq t (.func fn a b) .nilFunc).run Tryz.prog w = .ok (.bool true) w := by
  simp only [binOp]
  simp [Op.equal, Op.maxDepth, equalIn_func_some 9999 t fn a b w ht]
theorem neq_func_nil (t : TypeId) (w : World) {ps rs : Array TypeId} {v : Bool} (ht : Tryz.prog.underlying t = some (.func ps rs v)) : (binOp .neq t .nilFunc .nilFunc).run Tryz.prog w = .ok (.bool false) w := by
  simp only [binOp]
  simp [Op.equal, Op.maxDepth, equalIn_func_nil 9999 t w ht]
theorem eql_func_some (t : TypeId) (fn : Fn) (a b : Array Value) (w : World) {ps rs : Array TypeId} {v : Bool} (ht : Tryz.prog.underlying t = some (.func ps rs v)) : (binOp .eql t (.func fn a b) .nilFunc).run Tryz.prog w = .ok (.bool false) w := by
  simp only [binOp]
  simp [Op.equal, Op.maxDepth, equalIn_func_some 9999 t fn a b w ht]
theorem eql_func_nil (t : TypeId) (w : World) {ps rs : Array TypeId} {v : Bool} (ht : Tryz.prog.underlying t = some (.func ps rs v)) : (binOp .eql t .nilFunc .nilFunc).run Tryz.prog w = .ok (.bool true) w := by
  simp only [binOp]
  simp [Op.equal, Op.maxDepth, equalIn_func_nil 9999 t w ht]
theorem below_box (w : World) (o : Obj) : Below w.heap.size w (w.alloc o) := (Below.refl _ _).alloc (Nat.le_refl _) _

set_option maxHeartbeats 800000 in
theorem good_none (n : Nd) (w0 w : World) (h : Ok w0 w) (hr : ruleV n.2.1 = .nilFunc) :
    Calls Tryz.prog 60 #[.agg #[.string n.1, .int .i64 n.2.1, .string n.2.2]] w fun e w' => e = .returned (.bool false) ∧ Ok w0 w' ∧ Below w.heap.size w w' := by
  have HR := hide hr
  clear hr
  have hq := fun w => neq_func_nil _ w Tryz.underlying111
  go_enter Tryz.func60, Tryz.ntmps60
  go_wp2_with fail
  refine (rule_any n.2.1 _).mono ?_
  rintro e w1 ⟨rfl, rfl⟩
  rw [HR.out]
  go_wp2_with fail
  go_ret
  exact ⟨rfl, h.alloc _, below_box _ _⟩
set_option maxHeartbeats 800000 in
theorem good_path (n : Nd) (f : Nat) (w0 w : World) (h : Ok w0 w) (hp : n.1.size < 999999) (hr : ruleV n.2.1 = .func (.func f) #[] #[]) (hm : Hog.mayL n.1.data.toList = false) :
    Calls Tryz.prog 60 #[.agg #[.string n.1, .int .i64 n.2.1, .string n.2.2]] w fun e w' => e = .returned (.bool false) ∧ Ok w0 w' ∧ Below w.heap.size w w' := by
  have HR := hide hr
  have HM := hide hm
  clear hr hm
  have hq := fun w => neq_func_some _ (.func f) #[] #[] w Tryz.underlying111
  go_enter Tryz.func60, Tryz.ntmps60
  go_wp2_with fail
  refine (rule_any n.2.1 _).mono ?_
  rintro e w1 ⟨rfl, rfl⟩
  rw [HR.out]
  go_wp2_with fail
  refine (may_ok n.1 false w0 _ (h.alloc _) hp HM.out).mono ?_
  rintro e w2 ⟨rfl, ok2, hb2⟩
  go_wp2_with fail
  go_ret
  exact ⟨rfl, ok2, below_two (below_box _ _) hb2⟩
set_option maxHeartbeats 800000 in
theorem good_rule (n : Nd) (f : Nat) (b : Bool) (w0 w : World) (h : Ok w0 w) (hp : n.1.size < 999999) (hr : ruleV n.2.1 = .func (.func f) #[] #[]) (hm : Hog.mayL n.1.data.toList = true)
    (eg : ∀ args w, (callFunc f args).run Tryz.prog w = .ok (.enter f args) w) (hc : ∀ w, Calls Tryz.prog f #[.string n.2.2] w fun e w' => e = .returned (.bool b) ∧ w' = w) :
    Calls Tryz.prog 60 #[.agg #[.string n.1, .int .i64 n.2.1, .string n.2.2]] w fun e w' => e = .returned (.bool b) ∧ Ok w0 w' ∧ Below w.heap.size w w' := by
  have HR := hide hr
  have HM := hide hm
  have HC := hide hc
  clear hr hm hc
  have hq := fun w => neq_func_some _ (.func f) #[] #[] w Tryz.underlying111
  go_enter Tryz.func60, Tryz.ntmps60
  go_wp2_with fail
  refine (rule_any n.2.1 _).mono ?_
  rintro e w1 ⟨rfl, rfl⟩
  rw [HR.out]
  go_wp2_with fail
  refine (may_ok n.1 true w0 _ (h.alloc _) hp HM.out).mono ?_
  rintro e w2 ⟨rfl, ok2, hb2⟩
  have hc2 := hb2.cell (p := ⟨w.heap.size, 2, none⟩) (by simp)
  go_wp2_with fail
  refine (HC.out _).mono ?_
  rintro e w3 ⟨rfl, rfl⟩
  go_wp2_with fail
  go_ret
  exact ⟨rfl, ok2, below_two (below_box _ _) hb2⟩

theorem enters_none : ∀ args w, (callFunc 88 args).run Tryz.prog w = .ok (.enter 88 args) w := enters_of Tryz.func88 (by kernel_rfl) rfl
theorem enters_short : ∀ args w, (callFunc 89 args).run Tryz.prog w = .ok (.enter 89 args) w := enters_of Tryz.func89 (by kernel_rfl) rfl
theorem enters_target : ∀ args w, (callFunc 90 args).run Tryz.prog w = .ok (.enter 90 args) w := enters_of Tryz.func90 (by kernel_rfl) rfl

theorem good_ok (n : Nd) (b : Bool) (w0 w : World) (h : Ok w0 w) (hp : n.1.size < 999999) (hv : goodB n = b) :
    Calls Tryz.prog 60 #[.agg #[.string n.1, .int .i64 n.2.1, .string n.2.2]] w fun e w' => e = .returned (.bool b) ∧ Ok w0 w' ∧ Below w.heap.size w w' := by
  subst hv
  have key : ∀ (f : Nat) (hr : ruleV n.2.1 = .func (.func f) #[] #[]) (eg : ∀ args w, (callFunc f args).run Tryz.prog w = .ok (.enter f args) w) (hc : ∀ w, Calls Tryz.prog f #[.string n.2.2] w fun e w' => e = .returned (.bool (ruleB n.2.1 n.2.2)) ∧ w' = w),
      Calls Tryz.prog 60 #[.agg #[.string n.1, .int .i64 n.2.1, .string n.2.2]] w fun e w' => e = .returned (.bool (goodB n)) ∧ Ok w0 w' ∧ Below w.heap.size w w' := by
    intro f hr eg hc
    cases hm : Hog.mayL n.1.data.toList with
    | false =>
      have e : goodB n = false := by unfold goodB; rw [hm]; rfl
      rw [e]
      exact good_path n f w0 w h hp hr hm
    | true =>
      have e : goodB n = ruleB n.2.1 n.2.2 := by unfold goodB; rw [hm]; rfl
      rw [e]
      exact good_rule n f _ w0 w h hp hr hm eg hc
  by_cases h1 : n.2.1 = 1
  · refine key _ (by unfold ruleV; rw [if_pos h1]) enters_none fun w => ?_
    have e : ruleB n.2.1 n.2.2 = dataEmpty n.2.2 := by unfold ruleB; rw [if_pos h1]
    rw [e]; exact none_any _ w
  · by_cases h2 : n.2.1 = 2 ∨ n.2.1 = 3
    · refine key _ (by unfold ruleV; rw [if_neg h1, if_pos h2]) enters_short fun w => ?_
      have e : ruleB n.2.1 n.2.2 = dataShort n.2.2 := by unfold ruleB; rw [if_neg h1, if_pos h2]
      rw [e]; exact short_any _ w
    · by_cases h4 : n.2.1 = 4
      · refine key _ (by unfold ruleV; rw [if_neg h1, if_neg h2, if_pos h4]) enters_target fun w => ?_
        have e : ruleB n.2.1 n.2.2 = dataLink n.2.2 := by unfold ruleB; rw [if_neg h1, if_neg h2, if_pos h4]
        rw [e]; exact target_any _ w
      · have e : goodB n = false := by unfold goodB ruleB; rw [if_neg h1, if_neg h2, if_neg h4, Bool.and_false]
        rw [e]
        exact good_none n w0 w h (by unfold ruleV; rw [if_neg h1, if_neg h2, if_neg h4])
end Go.Proofs.YtecjkkipglldlaaGreatDoor
/- The walk of slices.BinarySearchFunc by paths. -/
namespace Go.Proofs.YtecjkkipglldlaaGreatDoor
open Go.RowKit

/-- Does the one's path come ahead of the other's? -/
def ltN (x y : Nd) : Bool := Op.bytesLess x.1.data.toList y.1.data.toList
def Rising (ns : List Nd) : Prop := ∀ (i j : Nat) x y, i < j → ns[i]? = some x → ns[j]? = some y → ltN x y = true
theorem cmpN_neg (x y : Nd) : cmpN x y < 0 ↔ ltN x y = true := Hog.cmp_neg _ _
theorem cmpN_zero (x y : Nd) : cmpN x y = 0 ↔ x.1 = y.1 := by
  unfold cmpN
  rw [Hog.cmp_zero, bytes_eq, Lib.toList_data, Lib.toList_data]
theorem ltN_trans {x y z : Nd} (h : ltN x y = true) (k : ltN y z = true) : ltN x z = true := Hog.less_trans h k
theorem ltN_asymm {x y : Nd} (h : ltN x y = true) : ltN y x = false := Hog.less_asymm h

def Low (ns : List Nd) (t : Nd) (i : Nat) : Prop := ∀ (m : Nat) x, m < i → ns[m]? = some x → ltN x t = true
def High (ns : List Nd) (t : Nd) (j : Nat) : Prop := ∀ (m : Nat) x, j ≤ m → ns[m]? = some x → ltN x t = false
theorem low_step {ns : List Nd} {t x : Nd} {h : Nat} (hs : Rising ns) (hx : ns[h]? = some x) (hl : ltN x t = true) : Low ns t (h + 1) := by
  intro m y hm hy
  by_cases e : m = h
  · subst e
    rw [hx] at hy
    cases hy
    exact hl
  · exact ltN_trans (hs m h y x (by omega) hy hx) hl
theorem high_step {ns : List Nd} {t x : Nd} {h : Nat} (hs : Rising ns) (hx : ns[h]? = some x) (hl : ltN x t = false) : High ns t h := by
  intro m y hm hy
  by_cases e : m = h
  · subst e
    rw [hx] at hy
    cases hy
    exact hl
  · cases k : ltN y t with
    | false => rfl
    | true => rw [ltN_trans (hs h m x y (by omega) hx hy) k] at hl; cases hl
/-- What the search tells: where, and whether it is there. -/
def Found (ns : List Nd) (t : Nd) (i : Nat) (b : Bool) : Prop := i ≤ ns.length ∧ (b = true → ∃ x, ns[i]? = some x ∧ x.1 = t.1) ∧ (b = false → ∀ x ∈ ns, x.1 ≠ t.1)
theorem found_end {ns : List Nd} {t : Nd} {i : Nat} (hl : Low ns t i) (hn : i ≤ ns.length) (hi : ns[i]? = none) : Found ns t i false := by
  refine ⟨hn, by simp, fun _ x hx e => ?_⟩
  obtain ⟨m, hm⟩ := List.mem_iff_getElem?.1 hx
  have h1 := (List.getElem?_eq_some_iff.1 hm).1
  have h2 := List.getElem?_eq_none_iff.1 hi
  have h3 := hl m x (by omega) hm
  unfold ltN at h3
  rw [e, Hog.less_irr] at h3
  cases h3
theorem found_at {ns : List Nd} {t x : Nd} {i : Nat} (hs : Rising ns) (hl : Low ns t i) (hh : High ns t i) (hi : ns[i]? = some x) : Found ns t i (decide (cmpN x t = 0)) := by
  refine ⟨Nat.le_of_lt (List.getElem?_eq_some_iff.1 hi).1, fun h => ⟨x, hi, (cmpN_zero x t).1 (of_decide_eq_true h)⟩, fun h y hy e => ?_⟩
  have hx : x.1 ≠ t.1 := fun k => of_decide_eq_false h ((cmpN_zero x t).2 k)
  obtain ⟨m, hm⟩ := List.mem_iff_getElem?.1 hy
  by_cases h1 : m < i
  · have h3 := hl m y h1 hm
    unfold ltN at h3
    rw [e, Hog.less_irr] at h3
    cases h3
  · by_cases h2 : m = i
    · subst h2
      rw [hi] at hm
      cases hm
      exact hx e
    · have h3 := hs i m x y (by omega) hi hm
      have h4 : ltN x t = true := by unfold ltN at h3 ⊢; rw [← e]; exact h3
      rw [hh i x (Nat.le_refl _) hi] at h4
      cases h4

theorem ret_ib {a b : Int} {x y : Bool} (h : a = b) (k : x = y) : Ending.returned (.tuple #[.int .i64 a, .bool x]) = .returned (.tuple #[.int .i64 b, .bool y]) := by rw [h, k]
theorem enters_bypath : ∀ args w, (callFunc 75 args).run Tryz.prog w = .ok (.enter 75 args) w := enters_of Tryz.func75 (by kernel_rfl) rfl

set_option maxRecDepth 100000 in
set_option maxHeartbeats 1000000 in
theorem search_some (b o c : Nat) (ns : List Nd) (t : Nd) (w : World) (hr : Run w b o ns) (hs : Rising ns) (hl : ns.length < 1000000) :
    Calls Tryz.prog 74 #[.slice (some ⟨b, o, none⟩) ns.length c, .agg #[.string t.1, .int .i64 t.2.1, .string t.2.2], .func (.func 75) #[] #[]] w
      fun e w' => ∃ (i : Nat) (f : Bool), e = .returned (.tuple #[.int .i64 i, .bool f]) ∧ Found ns t i f ∧ Below w.heap.size w w' := by
  obtain ⟨n, hn⟩ : ∃ n, n = ns.length := ⟨_, rfl⟩
  have HN := hide hn
  have HR := hide hr
  have HS := hide hs
  rw [← hn] at hl ⊢
  clear hn hr hs
  obtain ⟨W, hW⟩ : ∃ W, W = w.alloc (.cells #[.string t.1, .int .i64 t.2.1, .string t.2.2] 38) := ⟨_, rfl⟩
  have hb0 : Below w.heap.size w W := by rw [hW]; exact below_box _ _
  have hbox : At W w.heap.size 0 t := by rw [hW]; exact ⟨by simp, by simp, by simp⟩
  have hsz : W.heap.size = w.heap.size + 1 := by rw [hW]; simp
  have HB0 := hide hb0
  have HX := hide hbox
  have HSZ := hide hsz
  have HW := hide hW
  clear hb0 hbox hsz hW
  go_enter Tryz.func74, Tryz.ntmps74
  go_wp2
  rw [← HW.out]
  go_loopw [9, 10, 11] (fun i j h wr => ∃ x y : Nat, x ≤ y ∧ y ≤ n ∧ i = .int .i64 x ∧ j = .int .i64 y ∧ Hid (Low ns t x ∧ High ns t y) ∧ Hid (Below W.heap.size W wr)) (fun i j _ _ => (intOf j).toNat - (intOf i).toNat)
  case atStart => exact ⟨0, n, Nat.zero_le _, Nat.le_refl _, rfl, rfl, ⟨fun m x hm => by omega, fun m x hm hx => by have := (List.getElem?_eq_some_iff.1 hx).1; have := HN.out; omega⟩, Below.refl _ _⟩
  case round =>
    obtain ⟨x, y, hxy, hyn, rfl, rfl, HL, HB⟩ := hrel
    by_cases hlt : x < y
    · have hlt' : (x : Int) < (y : Int) := by omega
      obtain ⟨h, hh⟩ : ∃ h : Nat, ((x : Int) + (y : Int)) / 2 = (h : Int) := ⟨(x + y) / 2, by omega⟩
      have hxh : x ≤ h := by omega
      have hhy : h < y := by omega
      obtain ⟨m, hm⟩ : ∃ m, ns[h]? = some m := ⟨ns[h]'(by have := HN.out; omega), List.getElem?_eq_some_iff.2 ⟨_, rfl⟩⟩
      have hat := ((HR.out.below HB0.out HR.out.1).2 h m hm).below HB.out (Nat.lt_of_lt_of_le HR.out.1 HB0.out.size)
      have hbx := HX.out.below HB.out (by rw [HSZ.out]; omega)
      have hlb : b < wr.heap.size := Nat.lt_of_lt_of_le HR.out.1 (Nat.le_trans HB0.out.size HB.out.size)
      have hlx : w.heap.size < wr.heap.size := by have := HB.out.size; rw [HSZ.out] at this; omega
      have f1 : ∀ p : Later wr, p.w1.cell? ⟨b, o + h * 3, none⟩ = some (.string m.1) := fun p => p.cell hlb hat.path
      have f2 : ∀ p : Later wr, p.w1.cell? ⟨b, o + h * 3 + 1, none⟩ = some (.int .i64 m.2.1) := fun p => p.cell hlb hat.kind
      have f3 : ∀ p : Later wr, p.w1.cell? ⟨b, o + h * 3 + 2, none⟩ = some (.string m.2.2) := fun p => p.cell hlb hat.data
      have g1 : ∀ p : Later wr, p.w1.cell? ⟨w.heap.size, 0, none⟩ = some (.string t.1) := fun p => p.cell hlx hbx.path
      have g2 : ∀ p : Later wr, p.w1.cell? ⟨w.heap.size, 1, none⟩ = some (.int .i64 t.2.1) := fun p => p.cell hlx hbx.kind
      have g3 : ∀ p : Later wr, p.w1.cell? ⟨w.heap.size, 2, none⟩ = some (.string t.2.2) := fun p => p.cell hlx hbx.data
      have HM := hide hm
      have hni : (h : Int) < (n : Int) := by omega
      have HH := hide hh
      clear hat hbx hm hh
      go_wp2
      rw [HH.out]
      have hne := later_one wr
      refine wp_region_later (by kernel_rfl) (by kernel_rfl) ?_
      repeat (quiet_step ((go_at_call 75; exact Calls.later_of (bypath_any m t _))))
      refine wpQuiet_nil ?_
      intro _ hw'
      obtain ⟨⟨wq, hbq⟩, hw''⟩ := hw'
      subst hw''
      have HBQ := hide (HB.out.trans (hbq.mono HB.out.size))
      clear f1 f2 f3 g1 g2 g3 hbq
      by_cases hc : cmpN m t < 0
      · have HC := hide ((cmpN_neg m t).1 hc)
        go_wp2
        go_roundw
        case rel => exact ⟨h + 1, y, by omega, hyn, by go_num, rfl, ⟨low_step HS.out HM.out HC.out, HL.out.2⟩, HBQ.out⟩
        case measure => simp [intOf]; omega
      · have HC : Hid (ltN m t = false) := by
          show ltN m t = false
          cases k : ltN m t with
          | false => rfl
          | true => exact absurd ((cmpN_neg m t).2 k) hc
        have hc' : 0 ≤ cmpN m t := by omega
        clear hc
        go_wp2
        go_roundw
        case rel => exact ⟨x, h, hxh, by omega, rfl, rfl, ⟨HL.out.1, high_step HS.out HM.out HC.out⟩, HBQ.out⟩
        case measure => simp [intOf]; omega
    · have hyx : y = x := by omega
      subst hyx
      by_cases hend : y < n
      · obtain ⟨m, hm⟩ : ∃ m, ns[y]? = some m := ⟨ns[y]'(by have := HN.out; omega), List.getElem?_eq_some_iff.2 ⟨_, rfl⟩⟩
        have hat := ((HR.out.below HB0.out HR.out.1).2 y m hm).below HB.out (Nat.lt_of_lt_of_le HR.out.1 HB0.out.size)
        have hbx := HX.out.below HB.out (by rw [HSZ.out]; omega)
        have hlb : b < wr.heap.size := Nat.lt_of_lt_of_le HR.out.1 (Nat.le_trans HB0.out.size HB.out.size)
        have hlx : w.heap.size < wr.heap.size := by have := HB.out.size; rw [HSZ.out] at this; omega
        have f1 : ∀ p : Later wr, p.w1.cell? ⟨b, o + y * 3, none⟩ = some (.string m.1) := fun p => p.cell hlb hat.path
        have f2 : ∀ p : Later wr, p.w1.cell? ⟨b, o + y * 3 + 1, none⟩ = some (.int .i64 m.2.1) := fun p => p.cell hlb hat.kind
        have f3 : ∀ p : Later wr, p.w1.cell? ⟨b, o + y * 3 + 2, none⟩ = some (.string m.2.2) := fun p => p.cell hlb hat.data
        have g1 : ∀ p : Later wr, p.w1.cell? ⟨w.heap.size, 0, none⟩ = some (.string t.1) := fun p => p.cell hlx hbx.path
        have g2 : ∀ p : Later wr, p.w1.cell? ⟨w.heap.size, 1, none⟩ = some (.int .i64 t.2.1) := fun p => p.cell hlx hbx.kind
        have g3 : ∀ p : Later wr, p.w1.cell? ⟨w.heap.size, 2, none⟩ = some (.string t.2.2) := fun p => p.cell hlx hbx.data
        have HM := hide hm
        have hni : (y : Int) < (n : Int) := by omega
        clear hat hbx hm
        go_wp2
        have hne := later_one wr
        refine wp_region_later (by kernel_rfl) (by kernel_rfl) ?_
        repeat (quiet_step ((go_at_call 75; exact Calls.later_of (bypath_any m t _))))
        refine wpQuiet_nil ?_
        intro _ hw'
        obtain ⟨⟨wq, hbq⟩, hw''⟩ := hw'
        subst hw''
        have HBQ := hide (HB.out.trans (hbq.mono HB.out.size))
        clear f1 f2 f3 g1 g2 g3 hbq
        go_wp2
        go_ret2
        refine ⟨y, decide (cmpN m t = 0), ret_ib rfl (by rw [Bool.eq_iff_iff]; simp), found_at HS.out HL.out.1 HL.out.2 HM.out, (HB0.out.trans (HBQ.out.mono HB0.out.size))⟩
      · have hni : (n : Int) ≤ (y : Int) := by omega
        have hno : decide ((y : Int) < (n : Int)) = false := by simp; omega
        go_wp2
        have hne := later_one wr
        refine wp_region_later (by kernel_rfl) (by kernel_rfl) ?_
        repeat (first | go_big_quiet_step (fail) | quiet_step (fail))
        refine wpQuiet_nil ?_
        intro _ hw'
        obtain ⟨⟨wq, hbq⟩, hw''⟩ := hw'
        subst hw''
        have HBQ := hide (HB.out.trans (hbq.mono HB.out.size))
        clear hbq
        go_wp2
        go_ret2
        exact ⟨y, false, rfl, found_end HL.out.1 (by have := HN.out; omega) (List.getElem?_eq_none_iff.2 (by have := HN.out; omega)), (HB0.out.trans (HBQ.out.mono HB0.out.size))⟩
end Go.Proofs.YtecjkkipglldlaaGreatDoor
/- The walks of package tree: stands. -/
namespace Go.Proofs.YtecjkkipglldlaaGreatDoor
open Go.RowKit

/-- Is there a directory at the path p among nodes? -/
def dirAt (ns : List Nd) (p : ByteArray) : Bool := ns.any fun m => decide (m.1 = p) && decide (m.2.1 = 1)
def parentP (p : ByteArray) : ByteArray := Hog.mk (Hog.parentL p.data.toList)
def standsB (n : Nd) (ns : List Nd) : Bool := Hog.parentOk n.1.data.toList && dirAt ns (parentP n.1)
theorem dirAt_found {ns : List Nd} {x : Nd} {i : Nat} {p : ByteArray} (hs : Rising ns) (hi : ns[i]? = some x) (he : x.1 = p) : dirAt ns p = decide (x.2.1 = 1) := by
  unfold dirAt
  rw [Bool.eq_iff_iff, List.any_eq_true]
  simp only [Bool.and_eq_true, decide_eq_true_eq]
  constructor
  · rintro ⟨m, hm, h1, h2⟩
    obtain ⟨j, hj⟩ := List.mem_iff_getElem?.1 hm
    have irr : ∀ a b : Nd, a.1 = b.1 → ltN a b = true → False := fun a b e h => by
      unfold ltN at h
      rw [e, Hog.less_irr] at h
      cases h
    rcases Nat.lt_trichotomy i j with h | h | h
    · exact (irr x m (he.trans h1.symm) (hs i j x m h hi hj)).elim
    · subst h
      rw [hi] at hj
      cases hj
      exact h2
    · exact (irr m x (h1.trans he.symm) (hs j i m x h hj hi)).elim
  · intro h
    exact ⟨x, List.mem_of_getElem? hi, he, h⟩
theorem dirAt_none {ns : List Nd} {p : ByteArray} (h : ∀ x ∈ ns, x.1 ≠ p) : dirAt ns p = false := by
  unfold dirAt
  rw [List.any_eq_false]
  intro x hx
  simp [h x hx]

set_option maxRecDepth 100000 in
set_option maxHeartbeats 1000000 in
theorem stands_ok (n : Nd) (b o c : Nat) (ns : List Nd) (v : Bool) (w0 w : World) (h : Ok w0 w) (hp : n.1.size < 999999) (hr : Run w b o ns) (hs : Rising ns) (hl : ns.length < 1000000) (hv : standsB n ns = v) :
    Calls Tryz.prog 61 #[.agg #[.string n.1, .int .i64 n.2.1, .string n.2.2], .slice (some ⟨b, o, none⟩) ns.length c] w fun e w' => e = .returned (.bool v) ∧ Ok w0 w' ∧ Below w.heap.size w w' := by
  have HR := hide hr
  have HS := hide hs
  have HV := hide hv
  clear hr hs hv
  obtain ⟨l, hn⟩ : ∃ l, l = ns.length := ⟨_, rfl⟩
  have HN := hide hn
  rw [← hn] at hl ⊢
  clear hn
  go_enter Tryz.func61, Tryz.ntmps61
  go_wp2_with fail
  cases hpo : Hog.parentOk n.1.data.toList with
  | false =>
    have HPO := hide hpo
    clear hpo
    refine (parent_ok n.1 _ false w0 _ (h.alloc _) hp rfl HPO.out).mono ?_
    rintro e w1 ⟨rfl, ok1, hb1⟩
    have HB1 := hide (below_two (below_box w (.cells #[.string n.1, .int .i64 n.2.1, .string n.2.2] 38)) hb1)
    clear hb1
    go_wp2_with fail
    rw [HN.out]
    refine (search_some b o c ns (Hog.mk (Hog.parentL n.1.data.toList), 0, ByteArray.empty) w1 (HR.out.below HB1.out HR.out.1) HS.out (by rw [← HN.out]; exact hl)).mono ?_
    rintro e w2 ⟨i, f, rfl, hfound, hb2⟩
    go_wp2_with fail
    go_ret
    refine ⟨ret_bool ?_, ok1.next hb2, below_two HB1.out hb2⟩
    rw [← HV.out]
    unfold standsB
    rw [HPO.out]
    rfl
  | true =>
    have HPO := hide hpo
    clear hpo
    refine (parent_ok n.1 _ true w0 _ (h.alloc _) hp rfl HPO.out).mono ?_
    rintro e w1 ⟨rfl, ok1, hb1⟩
    have HB1 := hide (below_two (below_box w (.cells #[.string n.1, .int .i64 n.2.1, .string n.2.2] 38)) hb1)
    clear hb1
    go_wp2_with fail
    rw [HN.out]
    refine (search_some b o c ns (Hog.mk (Hog.parentL n.1.data.toList), 0, ByteArray.empty) w1 (HR.out.below HB1.out HR.out.1) HS.out (by rw [← HN.out]; exact hl)).mono ?_
    rintro e w2 ⟨i, f, rfl, hfound, hb2⟩
    obtain ⟨hi, hft, hff⟩ := hfound
    have HB2 := hide (below_two HB1.out hb2)
    have ok2 := ok1.next hb2
    clear hb2
    cases f with
    | false =>
      have HD := hide (dirAt_none (hff rfl))
      clear hft hff
      go_wp2_with fail
      go_ret
      refine ⟨ret_bool ?_, ok2, HB2.out⟩
      rw [← HV.out]
      unfold standsB parentP
      rw [HD.out, Bool.and_false]
    | true =>
      obtain ⟨x, hx, hxe⟩ := hft rfl
      obtain ⟨g1, g2, g3⟩ := (HR.out.2 i x hx).below HB2.out HR.out.1
      have HD := hide (dirAt_found HS.out hx hxe)
      have hil : i < l := by have := (List.getElem?_eq_some_iff.1 hx).1; rw [HN.out]; exact this
      have hil' : (i : Int) < (ns.length : Int) := by rw [← HN.out]; omega
      clear hft hff hx hxe hi
      go_wp2_with fail
      go_ret
      refine ⟨ret_bool ?_, ok2, HB2.out⟩
      rw [← HV.out]
      unfold standsB parentP
      rw [HD.out, HPO.out]
      rw [Bool.eq_iff_iff]
      simp
end Go.Proofs.YtecjkkipglldlaaGreatDoor
/- The walks of package tree: what a walk over nodes refuses. -/
namespace Go.Proofs.YtecjkkipglldlaaGreatDoor
open Go.RowKit

def refusesB (ahead : List Nd) (n : Nd) : Bool :=
  decide (ahead.length = 400) || !goodB n || match ahead.getLast? with
    | none => !dataEmpty n.1
    | some z => !ltN z n || !standsB n ahead

/-- A walk over nodes in block g: the nodes, and how many of them lie behind it. -/
def WalkAt (w : World) (g : Nat) (v : Value) (k : Nat) : Prop := w.heap[g]? = some (.cells #[v, .int .i64 k] 84 (0, 0))
theorem WalkAt.cells {w : World} {g : Nat} {v : Value} {k : Nat} (h : WalkAt w g v k) : w.cell? ⟨g, 0, none⟩ = some v ∧ w.cell? ⟨g, 1, none⟩ = some (.int .i64 k) ∧ w.frozen? ⟨g, 1, none⟩ = false ∧ g < w.heap.size :=
  ⟨by rw [cell_of_row w g 0 _ _ (0, 0) h]; rfl, by rw [cell_of_row w g 1 _ _ (0, 0) h]; rfl, frozen_of_row w g 1 _ _ h, (Array.getElem?_eq_some_iff.1 h).1⟩
theorem WalkAt.below {w w' : World} {g : Nat} {v : Value} {k : Nat} (h : WalkAt w g v k) (hb : Below w.heap.size w w') : WalkAt w' g v k := by
  unfold WalkAt
  rw [hb.block g h.cells.2.2.2]
  exact h
theorem WalkAt.set {w : World} {g : Nat} {v : Value} {k : Nat} (h : WalkAt w g v k) : WalkAt (w.setCell ⟨g, 1, none⟩ (.int .i64 (k + 1 : Nat))) g v (k + 1) := by
  unfold WalkAt
  rw [heap_setCell_same w g _ _ _ _ h]
  rfl

theorem setCell_below {w : World} {g j : Nat} (x : Value) : Below g w (w.setCell ⟨g, j, none⟩ x) := (Below.refl g w).setCell (p := ⟨g, j, none⟩) (Nat.le_refl g) x

theorem refuses_world {w W : World} {n : Nd} {g k : Nat} {v : Value} (hW : W = w.alloc (.cells #[.string n.1, .int .i64 n.2.1, .string n.2.2] 38)) (hw : WalkAt w g v k) (nq : Nat) :
    ∃ W2, W2 = (W.drewN nq).setCell ⟨g, 1, none⟩ (.int .i64 ((k : Int) + 1)) ∧ WalkAt W2 g v (k + 1) ∧ Below g w W2 ∧ At W2 w.heap.size 0 n ∧ w.heap.size < W2.heap.size := by
  have hgw := hw.cells.2.2.2
  have hb0 : Below w.heap.size w (W.drewN nq) := by rw [hW]; exact below_drewN (below_box _ _) nq
  have hs : w.heap.size < (W.drewN nq).heap.size := by rw [hW]; show w.heap.size < (w.alloc _).heap.size; simp
  have hbox : At (W.drewN nq) w.heap.size 0 n := by rw [hW]; exact ⟨by simp, by simp, by simp⟩
  have e : ((k : Int) + 1) = ((k + 1 : Nat) : Int) := by omega
  have hk : ∀ i, ((W.drewN nq).setCell ⟨g, 1, none⟩ (.int .i64 ((k : Int) + 1))).heap[i]? = if i = g then ((W.drewN nq).setCell ⟨g, 1, none⟩ (.int .i64 ((k : Int) + 1))).heap[g]? else (W.drewN nq).heap[i]? := fun i => by
    by_cases h : i = g
    · rw [if_pos h, h]
    · rw [if_neg h]; exact Below.heap_setCell _ ⟨g, 1, none⟩ _ i h
  have hcell : ∀ j, ((W.drewN nq).setCell ⟨g, 1, none⟩ (.int .i64 ((k : Int) + 1))).cell? ⟨w.heap.size, j, none⟩ = (W.drewN nq).cell? ⟨w.heap.size, j, none⟩ := fun j =>
    World.cell?_of_block (a := ⟨w.heap.size, j, none⟩) (by rw [hk, if_neg (show w.heap.size ≠ g by omega)])
  refine ⟨_, rfl, ?_, (hb0.mono (Nat.le_of_lt hgw)).trans (setCell_below _), ⟨(hcell 0).trans hbox.path, (hcell 1).trans hbox.kind, (hcell 2).trans hbox.data⟩, ?_⟩
  · rw [e]; exact (hw.below hb0).set
  · have := (setCell_below (w := W.drewN nq) (g := g) (j := 1) (.int .i64 ((k : Int) + 1))).size; omega

theorem refusesB_full {ahead : List Nd} {n : Nd} (h : ahead.length = 400) : refusesB ahead n = true := by unfold refusesB; rw [decide_eq_true h]; rfl
theorem refusesB_bad {ahead : List Nd} {n : Nd} (h : goodB n = false) : refusesB ahead n = true := by unfold refusesB; rw [h]; simp
theorem refusesB_first {n : Nd} (h : goodB n = true) : refusesB [] n = !dataEmpty n.1 := by unfold refusesB; rw [h]; rfl
theorem refusesB_next {ahead : List Nd} {n z : Nd} (h : goodB n = true) (hl : ahead.length ≠ 400) (hz : ahead.getLast? = some z) : refusesB ahead n = (!ltN z n || !standsB n ahead) := by
  unfold refusesB; rw [h, decide_eq_false hl, hz]; rfl
theorem take_last {t : List Nd} {q : Nat} {z : Nd} (h : t[q]? = some z) : (t.take (q + 1)).getLast? = some z := by
  obtain ⟨hq, rfl⟩ := List.getElem?_eq_some_iff.1 h
  rw [List.take_succ_eq_append_getElem hq, List.getLast?_concat]
theorem ltN_not {z n : Nd} (h : ltN z n = false) : n.1.toList = z.1.toList ∨ Op.bytesLess n.1.toList z.1.toList = true := by
  rw [Lib.toList_data, Lib.toList_data]
  rcases Hog.not_less_iff.1 h with e | e
  · exact .inl e.symm
  · exact .inr e
theorem ltN_yes {z n : Nd} (h : ltN z n = true) : n.1.toList ≠ z.1.toList ∧ Op.bytesLess n.1.toList z.1.toList = false := by
  rw [Lib.toList_data, Lib.toList_data]
  exact ⟨fun e => Hog.less_ne h e.symm, Hog.less_asymm h⟩

set_option maxRecDepth 100000 in
set_option maxHeartbeats 2000000 in
theorem refuses_ok (n : Nd) (g b o c k : Nat) (t : List Nd) (v : Bool) (w0 w : World) (h : Ok w0 w) (hg : w0.heap.size ≤ g) (hp : n.1.size < 999999) (hw : WalkAt w g (.slice (some ⟨b, o, none⟩) t.length c) k) (hr : Run w b o t) (hbg : b < g)
    (hs : Rising (t.take k)) (hm : t.length < 1000000) (hkm : k < t.length) (hmc : t.length ≤ c) (hv : refusesB (t.take k) n = v) :
    Calls Tryz.prog 44 #[.pointer (some ⟨g, 0, none⟩), .agg #[.string n.1, .int .i64 n.2.1, .string n.2.2]] w fun e w' => e = .returned (.bool v) ∧ WalkAt w' g (.slice (some ⟨b, o, none⟩) t.length c) (k + 1) ∧ Ok w0 w' ∧ Below g w w' := by
  obtain ⟨m, hmt⟩ : ∃ m, m = t.length := ⟨_, rfl⟩
  have HMT := hide hmt
  have HR := hide hr
  have HS := hide hs
  have HV := hide hv
  rw [← hmt] at hw hm hkm hmc ⊢
  have htk : (t.take k).length = k := by rw [List.length_take]; omega
  have HTK := hide htk
  clear hmt hr hs hv htk
  obtain ⟨W, hW⟩ : ∃ W, W = w.alloc (.cells #[.string n.1, .int .i64 n.2.1, .string n.2.2] 38) := ⟨_, rfl⟩
  have hb0 : Below w.heap.size w W := by rw [hW]; exact below_box _ _
  have HW := hide hW
  have HWA := hide hw
  have hgw := hw.cells.2.2.2
  obtain ⟨c0, c1, c2, c3⟩ := (hw.below hb0).cells
  clear hW hb0 hw
  go_enter Tryz.func44, Tryz.ntmps44
  go_wp2
  rw [← HW.out]
  go_quiet (fail)
  obtain ⟨W2, hW2, hwa2, hb2, hat2, hsz2⟩ := refuses_world HW.out HWA.out nq
  have HW2 := hide hW2
  have HWA2 := hide hwa2
  have HB2 := hide hb2
  have HAT2 := hide hat2
  have ok2 : Ok w0 W2 := h.step (hb2.mono hg)
  obtain ⟨x0, x1, x2⟩ := hat2
  rw [hW2] at x0 x1 x2
  clear hW2 hwa2 hb2
  by_cases hk : k = 400
  · have hk' : ((k : Int) == 400) = true := by rw [hk]; rfl
    have HK := hide hk
    clear hk
    go_wp2
    rw [← HW2.out]
    go_ret
    exact ⟨ret_bool (by rw [← HV.out, refusesB_full (by rw [HTK.out]; exact HK.out)]), HWA2.out, ok2, HB2.out⟩
  · have hk' : ((k : Int) == 400) = false := by rw [beq_eq_false_iff_ne]; omega
    have HK := hide hk
    clear hk
    go_wp2_with fail
    rw [← HW2.out]
    clear x0 x1 x2
    cases hgd : goodB n with
    | false =>
      have HG := hide hgd
      clear hgd
      refine (good_ok n false w0 W2 ok2 hp HG.out).mono ?_
      rintro e w3 ⟨rfl, ok3, hb3⟩
      go_wp2
      go_ret
      exact ⟨ret_bool (by rw [← HV.out, refusesB_bad HG.out]), HWA2.out.below hb3, ok3, HB2.out.trans (hb3.mono (Nat.le_of_lt HWA2.out.cells.2.2.2))⟩
    | true =>
      have HG := hide hgd
      clear hgd
      refine (good_ok n true w0 W2 ok2 hp HG.out).mono ?_
      rintro e w3 ⟨rfl, ok3, hb3⟩
      have HB3 := hide (HB2.out.trans (hb3.mono (Nat.le_of_lt HWA2.out.cells.2.2.2)))
      have HWA3 := hide (HWA2.out.below hb3)
      obtain ⟨x0, x1, x2⟩ := HAT2.out.below hb3 hsz2
      have hsz3 : w.heap.size < w3.heap.size := Nat.lt_of_lt_of_le hsz2 hb3.size
      clear hb3
      cases k with
      | zero =>
        go_wp2
        go_ret
        refine ⟨ret_bool ?_, HWA3.out, ok3, HB3.out⟩
        rw [← HV.out, List.take_zero, refusesB_first HG.out]
        rfl
      | succ q =>
        obtain ⟨z, hz⟩ : ∃ z, t[q]? = some z := ⟨t[q]'(by have := HMT.out; omega), List.getElem?_eq_some_iff.2 ⟨_, rfl⟩⟩
        have HZ := hide hz
        have hat := (HR.out.2 q z hz).below HB3.out hbg
        have hlb : b < w3.heap.size := Nat.lt_of_lt_of_le HR.out.1 HB3.out.size
        have f1 : ∀ p : Later w3, p.w1.cell? ⟨b, o + q * 3, none⟩ = some (.string z.1) := fun p => p.cell hlb hat.path
        have g1 : ∀ p : Later w3, p.w1.cell? ⟨w.heap.size, 0, none⟩ = some (.string n.1) := fun p => p.cell hsz3 x0
        have g2 : ∀ p : Later w3, p.w1.cell? ⟨w.heap.size, 1, none⟩ = some (.int .i64 n.2.1) := fun p => p.cell hsz3 x1
        have g3 : ∀ p : Later w3, p.w1.cell? ⟨w.heap.size, 2, none⟩ = some (.string n.2.2) := fun p => p.cell hsz3 x2
        have h0 : ((q : Int) + 1 == 0) = false := by rw [beq_eq_false_iff_ne]; omega
        have hne := later_one w3
        clear hat hz
        cases hlt : ltN z n with
        | false =>
          have HLT := hide hlt
          have hle := ltN_not hlt
          clear hlt
          rcases hle with hle | hle
          all_goals
            go_wp2
            refine wp_region_later (by kernel_rfl) (by kernel_rfl) ?_
            repeat (first | go_big_quiet_step (fail) | quiet_step (fail))
            refine wpQuiet_nil ?_
            intro _ hw'
            obtain ⟨⟨wq, hbq⟩, hw''⟩ := hw'
            subst hw''
            have HBQ := hide hbq
            clear f1 g1 g2 g3 hbq
            go_wp2
            go_ret
            refine ⟨ret_bool ?_, HWA3.out.below HBQ.out, ok3.next HBQ.out, HB3.out.trans (HBQ.out.mono (Nat.le_of_lt HWA3.out.cells.2.2.2))⟩
            rw [← HV.out, refusesB_next HG.out (by rw [HTK.out]; exact HK.out) (take_last HZ.out), HLT.out]
            rfl
        | true =>
          have HLT := hide hlt
          obtain ⟨hle1, hle2⟩ := ltN_yes hlt
          have hle3 : (n.1.toList == z.1.toList) = false := by rw [beq_eq_false_iff_ne]; exact hle1
          clear hlt
          have hst := fun p : Later w3 => stands_ok n b o c (t.take (q + 1)) (standsB n (t.take (q + 1))) w0 p.w1 (ok3.next p.below) hp ⟨Nat.lt_of_lt_of_le hlb p.below.size, fun j x hx => by
              rw [List.getElem?_take] at hx
              split at hx
              · exact ((HR.out.2 j x hx).below HB3.out hbg).below p.below hlb
              · cases hx⟩ HS.out (by rw [HTK.out]; omega) rfl
          have HST : Hid (∀ p : Later w3, Calls Tryz.prog 61 #[.agg #[.string n.1, .int .i64 n.2.1, .string n.2.2], .slice (some ⟨b, o, none⟩) (q + 1) c] p.w1 fun e w' => e = .returned (.bool (standsB n (t.take (q + 1)))) ∧ Below p.w1.heap.size p.w1 w') := fun p => by
            have h5 := hst p
            rw [HTK.out] at h5
            exact h5.mono fun e w' ⟨h6, _, h7⟩ => ⟨h6, h7⟩
          clear hst
          go_wp2
          refine wp_region_later (by kernel_rfl) (by kernel_rfl) ?_
          repeat (first | go_big_quiet_step ((go_at_call 61; exact Calls.later_of (HST.out _))) | quiet_step ((go_at_call 61; exact Calls.later_of (HST.out _))))
          refine wpQuiet_nil ?_
          intro _ hw'
          obtain ⟨⟨wq, hbq⟩, hw''⟩ := hw'
          subst hw''
          have HBQ := hide hbq
          clear f1 g1 g2 g3 hbq
          go_wp2
          go_ret
          refine ⟨ret_bool ?_, HWA3.out.below HBQ.out, ok3.next HBQ.out, HB3.out.trans (HBQ.out.mono (Nat.le_of_lt HWA3.out.cells.2.2.2))⟩
          rw [← HV.out, refusesB_next HG.out (by rw [HTK.out]; exact HK.out) (take_last HZ.out), HLT.out]
          rfl
end Go.Proofs.YtecjkkipglldlaaGreatDoor
/- The walks of package tree: Bad, May. -/
namespace Go.Proofs.YtecjkkipglldlaaGreatDoor
open Go.RowKit

/-- The place of the first node that is refused, the ones ahead of it given; or -1. -/
def badFrom (ahead : List Nd) : List Nd → Int
  | [] => -1
  | n :: r => if refusesB ahead n = true then (ahead.length : Int) else badFrom (ahead ++ [n]) r
def badN (t : List Nd) : Int := if t.isEmpty then 0 else badFrom [] t
def mayN (t : List Nd) : Bool := decide (badN t < 0)

theorem badFrom_at {t : List Nd} {k : Nat} {n : Nd} (hn : t[k]? = some n) (hr : refusesB (t.take k) n = true) : badFrom (t.take k) (t.drop k) = k := by
  obtain ⟨hk, rfl⟩ := List.getElem?_eq_some_iff.1 hn
  rw [List.drop_eq_getElem_cons hk, badFrom, if_pos hr, List.length_take]
  omega
theorem badFrom_on {t : List Nd} {k : Nat} {n : Nd} (hn : t[k]? = some n) (hr : refusesB (t.take k) n = false) : badFrom (t.take k) (t.drop k) = badFrom (t.take (k + 1)) (t.drop (k + 1)) := by
  obtain ⟨hk, rfl⟩ := List.getElem?_eq_some_iff.1 hn
  rw [List.drop_eq_getElem_cons hk, badFrom, if_neg (by rw [hr]; decide), List.take_succ_eq_append_getElem hk]
theorem badFrom_end (t : List Nd) : badFrom (t.take t.length) (t.drop t.length) = -1 := by
  rw [List.drop_length, badFrom]
theorem rising_nil : Rising [] := fun i j x y _ h => by simp at h
theorem rising_step {t : List Nd} {k : Nat} {n : Nd} (hn : t[k]? = some n) (hr : refusesB (t.take k) n = false) (hs : Rising (t.take k)) : Rising (t.take (k + 1)) := by
  obtain ⟨hk, rfl⟩ := List.getElem?_eq_some_iff.1 hn
  rw [List.take_succ_eq_append_getElem hk]
  intro i j x y hij hx hy
  have hlen : (t.take k).length = k := by rw [List.length_take]; omega
  have hjl := (List.getElem?_eq_some_iff.1 hy).1
  rw [List.length_append, hlen, List.length_singleton] at hjl
  rw [List.getElem?_append_left (by omega)] at hx
  by_cases hjk : j < k
  · rw [List.getElem?_append_left (by omega)] at hy
    exact hs i j x y hij hx hy
  · have hjk' : j = k := by omega
    subst hjk'
    rw [List.getElem?_append_right (by omega), hlen, Nat.sub_self] at hy
    simp at hy
    subst hy
    obtain ⟨q, rfl⟩ : ∃ q, j = q + 1 := ⟨j - 1, by omega⟩
    have hq : t[q]? = some t[q] := List.getElem?_eq_getElem (by omega)
    have hg : goodB t[q + 1] = true := by
      cases h : goodB t[q + 1] with
      | true => rfl
      | false => rw [refusesB_bad h] at hr; cases hr
    have hl : (t.take (q + 1)).length ≠ 400 := fun h => by rw [refusesB_full h] at hr; cases hr
    rw [refusesB_next hg hl (take_last hq), Bool.or_eq_false_iff] at hr
    have hlt : ltN t[q] t[q + 1] = true := by simpa using hr.1
    by_cases hiq : i = q
    · subst hiq
      rw [List.getElem?_take_of_lt (by omega), hq] at hx
      cases hx
      exact hlt
    · exact ltN_trans (hs i q x t[q] (by omega) hx (by rw [List.getElem?_take_of_lt (by omega)]; exact hq)) hlt

theorem enters_refuses : ∀ args w, (callFunc 44 args).run Tryz.prog w = .ok (.enter 44 args) w := enters_of Tryz.func44 (by kernel_rfl) rfl

set_option maxRecDepth 100000 in
set_option maxHeartbeats 1000000 in
theorem indexf_ok (g b o c : Nat) (t : List Nd) (w0 w : World) (h : Ok w0 w) (hg : w0.heap.size ≤ g) (hp : ∀ n ∈ t, n.1.size < 999999) (hw : WalkAt w g (.slice (some ⟨b, o, none⟩) t.length c) 0) (hr : Run w b o t) (hbg : b < g)
    (hm : t.length < 1000000) (hmc : t.length ≤ c) :
    Calls Tryz.prog 43 #[.slice (some ⟨b, o, none⟩) t.length c, .func (.func 44) #[.pointer (some ⟨g, 0, none⟩)] #[]] w
      fun e w' => e = .returned (.int .i64 (badFrom [] t)) ∧ Ok w0 w' ∧ Below g w w' := by
  obtain ⟨m, hmt⟩ : ∃ m, m = t.length := ⟨_, rfl⟩
  have HMT := hide hmt
  have HR := hide hr
  have HP := hide hp
  have HWA := hide hw
  have hm' : m < 1000000 := by omega
  rw [← hmt]
  clear hmt hr hp hw
  go_enter Tryz.func43, Tryz.ntmps43
  go_wp2
  go_loopw [5, 8] (fun _ i wr => ∃ k : Nat, k ≤ m ∧ i = .int .i64 k ∧ Hid (badFrom (t.take k) (t.drop k) = badFrom [] t) ∧ Hid (Rising (t.take k)) ∧ Hid (WalkAt wr g (.slice (some ⟨b, o, none⟩) t.length c) k) ∧ Hid (Below g w wr)) (fun _ i _ => m - (intOf i).toNat)
  case atStart => exact ⟨0, Nat.zero_le _, rfl, by simp [Hid], rising_nil, HWA, Below.refl _ _⟩
  case round =>
    obtain ⟨k, hk, rfl, HBF, HRI, HWK, HB⟩ := hrel
    by_cases hlt : k < m
    · obtain ⟨n, hn⟩ : ∃ n, t[k]? = some n := ⟨t[k]'(by have := HMT.out; omega), List.getElem?_eq_some_iff.2 ⟨_, rfl⟩⟩
      obtain ⟨g1, g2, g3⟩ := (HR.out.2 k n hn).below HB.out hbg
      have HN := hide hn
      have hkt : k < t.length := by rw [← HMT.out]; exact hlt
      clear hn
      have okr : Ok w0 wr := h.step (HB.out.mono hg)
      cases hrf : refusesB (t.take k) n with
      | true =>
        have HRF := hide hrf
        clear hrf
        go_wp2_with fail
        refine (refuses_ok n g b o c k t true w0 wr okr hg (HP.out n (List.mem_of_getElem? HN.out)) HWK.out (HR.out.below HB.out hbg) hbg HRI.out hm hkt hmc HRF.out).mono ?_
        rintro e w1 ⟨rfl, hwa1, ok1, hb1⟩
        have HB1 := hide (HB.out.trans hb1)
        clear hwa1 hb1
        go_wp2
        go_ret
        exact ⟨ret_int (by rw [← HBF.out, badFrom_at HN.out HRF.out]), ok1, HB1.out⟩
      | false =>
        have HRF := hide hrf
        clear hrf
        go_wp2_with fail
        refine (refuses_ok n g b o c k t false w0 wr okr hg (HP.out n (List.mem_of_getElem? HN.out)) HWK.out (HR.out.below HB.out hbg) hbg HRI.out hm hkt hmc HRF.out).mono ?_
        rintro e w1 ⟨rfl, hwa1, ok1, hb1⟩
        have HB1 := hide (HB.out.trans hb1)
        have HWA1 := hide hwa1
        clear hwa1 hb1
        go_wp2
        go_roundw
        case rel => exact ⟨k + 1, by omega, by go_num, hide ((badFrom_on HN.out HRF.out).symm.trans HBF.out), hide (rising_step HN.out HRF.out HRI.out), HWA1, HB1⟩
        case measure => simp [intOf]; omega
    · go_wp2
      go_ret
      refine ⟨ret_int ?_, h.step (HB.out.mono hg), HB.out⟩
      have e : k = t.length := by have := HMT.out; omega
      rw [← HBF.out, e, badFrom_end]

set_option maxHeartbeats 800000 in
theorem bad_none (a : Option Addr) (c : Nat) (w : World) :
    Calls Tryz.prog 29 #[.slice a 0 c] w fun e w' => e = .returned (.int .i64 0) ∧ w' = w := by
  go_enter Tryz.func29, Tryz.ntmps29
  go_wp2
  go_ret
  exact ⟨rfl, rfl⟩
set_option maxHeartbeats 800000 in
theorem bad_some (b o c : Nat) (t : List Nd) (w0 w : World) (h : Ok w0 w) (hp : ∀ n ∈ t, n.1.size < 999999) (hr : Run w b o t) (hne : t ≠ []) (hm : t.length < 1000000) (hmc : t.length ≤ c) :
    Calls Tryz.prog 29 #[.slice (some ⟨b, o, none⟩) t.length c] w fun e w' => e = .returned (.int .i64 (badFrom [] t)) ∧ Ok w0 w' ∧ Below w.heap.size w w' := by
  have hz : ((t.length : Int) == 0) = false := by
    have := List.length_pos_iff.2 hne
    rw [beq_eq_false_iff_ne]; omega
  have HR := hide hr
  have HP := hide hp
  clear hr hp hne
  go_enter Tryz.func29, Tryz.ntmps29
  go_wp2_with fail
  refine (indexf_ok w.heap.size b o c t w0 _ (h.alloc _) h.size HP.out (by unfold WalkAt; exact heap_alloc_new w _) (HR.out.below (below_box _ _) HR.out.1) HR.out.1 hm hmc).mono ?_
  rintro e w1 ⟨rfl, ok1, hb1⟩
  go_wp2
  go_ret
  exact ⟨rfl, ok1, (below_box _ _).trans hb1⟩

theorem bad_ok (v : Value) (t : List Nd) (r : Int) (w0 w : World) (h : Ok w0 w) (hp : ∀ n ∈ t, n.1.size < 999999) (hn : Nods w v t) (hm : t.length < 1000000) (hv : badN t = r) :
    Calls Tryz.prog 29 #[v] w fun e w' => e = .returned (.int .i64 r) ∧ Ok w0 w' ∧ Below w.heap.size w w' := by
  subst hv
  cases t with
  | nil =>
    obtain ⟨a, c, rfl⟩ := hn.form
    refine (bad_none a c w).mono ?_
    rintro e w' ⟨rfl, rfl⟩
    exact ⟨rfl, h, Below.refl _ _⟩
  | cons x r =>
    rcases hn with ⟨e, _⟩ | ⟨b, o, c, rfl, hc, hr⟩
    · cases e
    · exact bad_some b o c (x :: r) w0 w h hp hr (by simp) hm hc

set_option maxHeartbeats 800000 in
theorem mayT_ok (v : Value) (t : List Nd) (b : Bool) (w0 w : World) (h : Ok w0 w) (hp : ∀ n ∈ t, n.1.size < 999999) (hn : Nods w v t) (hm : t.length < 1000000) (hv : mayN t = b) :
    Calls Tryz.prog 18 #[v] w fun e w' => e = .returned (.bool b) ∧ Ok w0 w' ∧ Below w.heap.size w w' := by
  have HP := hide hp
  have HN := hide hn
  have HV := hide hv
  obtain ⟨r, hr⟩ : ∃ r, r = badN t := ⟨_, rfl⟩
  have HR := hide hr
  clear hp hn hv hr
  go_enter Tryz.func18, Tryz.ntmps18
  go_wp2_with fail
  refine (bad_ok v t r w0 w h HP.out HN.out hm HR.out.symm).mono ?_
  rintro e w1 ⟨rfl, ok1, hb1⟩
  go_wp2
  go_ret
  exact ⟨ret_bool (by rw [← HV.out, HR.out]; rfl), ok1, hb1⟩
end Go.Proofs.YtecjkkipglldlaaGreatDoor
