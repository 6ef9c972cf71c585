/- Texts that stand together, joined: Nod, N1, N2, N3. -/
import Derived.Test.YtecjkkipglldlaaGreatDoorTxt
import Derived.Laws.StructEq
import Derived.Laws.OwnMore
import Derived.Deep.QuietTactic
import Derived.BigQuiet
/- A slice of nodes in memory: what it holds, that it is one's own, and that it stays. -/
namespace Go.Proofs.YtecjkkipglldlaaGreatDoor
open Go.RowKit

/-- A node: its path, its kind, its data. -/
abbrev Nd := ByteArray × Int × ByteArray
def ncells (n : Nd) : List Value := [.string n.1, .int .i64 n.2.1, .string n.2.2]
def nagg (n : Nd) : Value := .agg #[.string n.1, .int .i64 n.2.1, .string n.2.2]
def flat (ns : List Nd) : List Value := ns.flatMap ncells
theorem flat_nil : flat [] = [] := rfl
theorem flat_cons (n : Nd) (ns : List Nd) : flat (n :: ns) = ncells n ++ flat ns := by simp [flat]
theorem flat_app (a b : List Nd) : flat (a ++ b) = flat a ++ flat b := by simp [flat]
theorem flat_len : ∀ ns : List Nd, (flat ns).length = ns.length * 3
  | [] => rfl
  | n :: r => by rw [flat_cons, List.length_append, flat_len r]; simp [ncells]; omega
theorem flat_one : ∀ (ns : List Nd), ∀ v ∈ flat ns, v.oneCell' = true := by
  intro ns v hv
  obtain ⟨n, _, hn⟩ := List.mem_flatMap.1 hv
  simp [ncells] at hn
  rcases hn with rfl | rfl | rfl <;> rfl
theorem flat_take (ns : List Nd) (k : Nat) : (flat ns).take (k * 3) = flat (ns.take k) := by
  induction ns generalizing k with
  | nil => simp [flat]
  | cons n r ih =>
    cases k with
    | zero => simp [flat]
    | succ k =>
      rw [flat_cons, List.take_succ_cons, flat_cons, ← ih k]
      have e : (k + 1) * 3 = (ncells n).length + k * 3 := by simp [ncells]; omega
      rw [e, List.take_length_add_append]
theorem flat_drop (ns : List Nd) (k : Nat) : (flat ns).drop (k * 3) = flat (ns.drop k) := by
  induction ns generalizing k with
  | nil => simp [flat]
  | cons n r ih =>
    cases k with
    | zero => simp
    | succ k =>
      rw [flat_cons, List.drop_succ_cons, ← ih k]
      have e : (k + 1) * 3 = (ncells n).length + k * 3 := by simp [ncells]; omega
      rw [e, List.drop_length_add_append]
theorem flat_get {ns : List Nd} {j : Nat} {n : Nd} (h : ns[j]? = some n) :
    (flat ns)[j * 3]? = some (.string n.1) ∧ (flat ns)[j * 3 + 1]? = some (.int .i64 n.2.1) ∧ (flat ns)[j * 3 + 2]? = some (.string n.2.2) := by
  obtain ⟨hj, rfl⟩ := List.getElem?_eq_some_iff.1 h
  have e : (flat ns).drop (j * 3) = ncells ns[j] ++ flat (ns.drop (j + 1)) := by rw [flat_drop, List.drop_eq_getElem_cons hj, flat_cons]
  have g : ∀ i, (flat ns)[j * 3 + i]? = (ncells ns[j] ++ flat (ns.drop (j + 1)))[i]? := fun i => by rw [← e, List.getElem?_drop]
  exact ⟨by have := g 0; simpa [ncells] using this, by have := g 1; simpa [ncells] using this, by have := g 2; simpa [ncells] using this⟩
theorem flat_inj : ∀ {a b : List Nd}, flat a = flat b → a = b
  | [], [], _ => rfl
  | [], m :: s, h => by simp [flat, ncells] at h
  | n :: r, [], h => by simp [flat, ncells] at h
  | n :: r, m :: s, h => by
    rw [flat_cons, flat_cons] at h
    simp only [ncells, List.cons_append, List.nil_append, List.cons.injEq, Value.string.injEq, Value.int.injEq, true_and] at h
    obtain ⟨h1, h2, h3, h4⟩ := h
    rw [flat_inj h4]
    obtain ⟨a, b, c⟩ := n
    obtain ⟨a', b', c'⟩ := m
    simp at h1 h2 h3
    rw [h1, h2, h3]

/-- The node n stands in block b from place o on. -/
structure At (w : World) (b o : Nat) (n : Nd) : Prop where
  path : w.cell? ⟨b, o, none⟩ = some (.string n.1)
  kind : w.cell? ⟨b, o + 1, none⟩ = some (.int .i64 n.2.1)
  data : w.cell? ⟨b, o + 2, none⟩ = some (.string n.2.2)
theorem At.below {w w' : World} {b o : Nat} {n : Nd} (h : At w b o n) {B : Nat} (hb : Below B w w') (hB : b < B) : At w' b o n :=
  ⟨(hb.cell (p := ⟨b, o, none⟩) hB).trans h.path, (hb.cell (p := ⟨b, o + 1, none⟩) hB).trans h.kind, (hb.cell (p := ⟨b, o + 2, none⟩) hB).trans h.data⟩

/-- From place o of block b on stand the nodes ns. -/
def Run (w : World) (b o : Nat) (ns : List Nd) : Prop := b < w.heap.size ∧ ∀ (j : Nat) n, ns[j]? = some n → At w b (o + j * 3) n
theorem Run.below {w w' : World} {b o : Nat} {ns : List Nd} (h : Run w b o ns) {B : Nat} (hb : Below B w w') (hB : b < B) : Run w' b o ns :=
  ⟨Nat.lt_of_lt_of_le h.1 hb.size, fun j n hn => (h.2 j n hn).below hb hB⟩

/-- The slice v holds the nodes ns. -/
def Nods (w : World) (v : Value) (ns : List Nd) : Prop :=
  (ns = [] ∧ ∃ a c, v = .slice a 0 c) ∨ (∃ b o c, v = .slice (some ⟨b, o, none⟩) ns.length c ∧ ns.length ≤ c ∧ Run w b o ns)
theorem Nods.below {w w' : World} {v : Value} {ns : List Nd} (h : Nods w v ns) (hb : Below w.heap.size w w') : Nods w' v ns := by
  rcases h with h | ⟨b, o, c, rfl, hc, hr⟩
  · exact .inl h
  · exact .inr ⟨b, o, c, rfl, hc, hr.below hb hr.1⟩
theorem Nods.form {w : World} {v : Value} {ns : List Nd} (h : Nods w v ns) : ∃ a c, v = .slice a ns.length c := by
  rcases h with ⟨rfl, a, c, rfl⟩ | ⟨b, o, c, rfl, _⟩
  · exact ⟨a, c, rfl⟩
  · exact ⟨_, c, rfl⟩
theorem Nods.nil (w : World) (a : Option Addr) (c : Nat) : Nods w (.slice a 0 c) [] := .inl ⟨rfl, a, c, rfl⟩

/-- The slice v holds the nodes ns in a row of its own, from block number base on. -/
def OwnN (base : Nat) (w : World) (v : Value) (ns : List Nd) : Prop := w.ownsRow base 38 3 v ns.length (flat ns)
theorem OwnN.nil (base : Nat) (w : World) : OwnN base w (.slice none 0 0) [] := World.ownsRow_nil w base 38 3
theorem OwnN.below {base : Nat} {w w' : World} {v : Value} {ns : List Nd} (h : OwnN base w v ns) (hb : Below w.heap.size w w') : OwnN base w' v ns := by
  refine ⟨h.1, ?_⟩
  rcases h.2 with h2 | ⟨g, cap, cur, rfl, hbs, hg, r⟩
  · exact .inl h2
  · exact .inr ⟨g, cap, cur, rfl, hbs, by rw [hb.block g (Array.getElem?_eq_some_iff.1 hg).1]; exact hg, r⟩
theorem OwnN.base {base base' : Nat} {w : World} {v : Value} {ns : List Nd} (h : OwnN base w v ns) (hb : base' ≤ base) : OwnN base' w v ns := by
  refine ⟨h.1, ?_⟩
  rcases h.2 with h2 | ⟨g, cap, cur, e, hbs, r⟩
  · exact .inl h2
  · exact .inr ⟨g, cap, cur, e, Nat.le_trans hb hbs, r⟩
theorem OwnN.alloc {base : Nat} {w : World} {v : Value} {ns : List Nd} (h : OwnN base w v ns) (o : Obj) : OwnN base (w.alloc o) v ns :=
  h.below ((Below.refl _ _).alloc (Nat.le_refl _) _)
theorem OwnN.form {base : Nat} {w : World} {v : Value} {ns : List Nd} (h : OwnN base w v ns) : ∃ a c, v = .slice a ns.length c := by
  obtain ⟨_, h2⟩ := h
  rcases h2 with ⟨rfl, h0⟩ | ⟨g, cap, cur, rfl, _⟩
  · exact ⟨none, 0, by rw [h0]⟩
  · exact ⟨_, _, rfl⟩
theorem OwnN.nods {base : Nat} {w : World} {v : Value} {ns : List Nd} (h : OwnN base w v ns) : Nods w v ns := by
  have h' := h
  obtain ⟨_, h2⟩ := h
  rcases h2 with ⟨rfl, h0⟩ | ⟨g, cap, cur, rfl, hb, hg, hn, hm, hs, ht⟩
  · exact .inl ⟨List.eq_nil_of_length_eq_zero h0, _, _, rfl⟩
  · refine .inr ⟨g, 0, cap, rfl, hn, (Array.getElem?_eq_some_iff.1 hg).1, fun j n hj => ?_⟩
    have hjl := (List.getElem?_eq_some_iff.1 hj).1
    obtain ⟨e1, e2, e3⟩ := flat_get hj
    have c := fun i (hi : j * 3 + i < ns.length * 3) => World.ownsRow.cellAt h' (j * 3 + i) hi
    have c0 := c 0 (by omega); have c1 := c 1 (by omega); have c2 := c 2 (by omega)
    rw [Nat.zero_add]
    exact ⟨c0.trans e1, c1.trans e2, c2.trans e3⟩
/-- A new row that holds just these nodes. -/
theorem OwnN.made (w : World) (ns : List Nd) (hm : ns.length ≤ maxLen) :
    OwnN w.heap.size (w.alloc (.cells (flat ns).toArray 38)) (.slice (some ⟨w.heap.size, 0, none⟩) ns.length ns.length) ns :=
  ⟨flat_len ns, .inr ⟨w.heap.size, ns.length, _, rfl, Nat.le_refl _, heap_alloc_new w _, Nat.le_refl _, hm, by simp [flat_len], by rw [← flat_len]; simp [List.take_of_length_le]⟩⟩
theorem OwnN.joined {base : Nat} {w : World} {v : Value} {n : Nat} {a b : List Nd} (h : w.ownsRow base 38 3 v n (flat a ++ flat b)) : OwnN base w v (a ++ b) := by
  have hn : n = (a ++ b).length := by have := h.1; simp [flat_len] at this; simp; omega
  subst hn
  rw [← flat_app] at h
  exact h
theorem OwnN.grownBelow {base : Nat} {w w' : World} {v : Value} {ns : List Nd} (h : OwnN base w v ns) (hg : w.grownBy w' v.ownBlock) (hB : base ≤ w.heap.size) : Below base w w' :=
  (Below.refl base w).grown hg hB (fun k hk => (h.lt k hk).1)

theorem A24 : (Tryz.prog.info? 38).map (fun i => (i.zero, i.size, i.bytes)) = some (some (.agg #[.string ByteArray.empty, .int .i64 0, .string ByteArray.empty]), 3, 40) := by kernel_rfl

/-- Are two nodes unlike? -/
def nneq (a b : Nd) : Bool := decide (a ≠ b)
theorem nd_eq {a b : Nd} : a = b ↔ a.1 = b.1 ∧ a.2.1 = b.2.1 ∧ a.2.2 = b.2.2 := by
  obtain ⟨x, y, z⟩ := a
  obtain ⟨x', y', z'⟩ := b
  simp
theorem bytes_eq {a b : ByteArray} : a = b ↔ a.toList = b.toList := by
  rw [Lib.toList_data, Lib.toList_data]
  constructor
  · intro h; rw [h]
  · intro h; rw [← Hog.data_mk a, h, Hog.data_mk]

end Go.Proofs.YtecjkkipglldlaaGreatDoor
/- The walks of small functions over nodes: Size, GreatNodes. -/
namespace Go.Proofs.YtecjkkipglldlaaGreatDoor
open Go.RowKit

def sizeN (ns : List Nd) : Nat := (ns.map fun n => n.2.2.size).sum
theorem sizeN_app (a b : List Nd) : sizeN (a ++ b) = sizeN a + sizeN b := by simp [sizeN]
theorem sizeN_step {ns : List Nd} {k : Nat} {n : Nd} (h : ns[k]? = some n) : sizeN (ns.take (k + 1)) = sizeN (ns.take k) + n.2.2.size := by
  obtain ⟨hk, rfl⟩ := List.getElem?_eq_some_iff.1 h
  rw [List.take_succ_eq_append_getElem hk, sizeN_app]; simp [sizeN]
theorem sizeN_le (ns : List Nd) (m : Nat) (h : ∀ n ∈ ns, n.2.2.size ≤ m) : sizeN ns ≤ ns.length * m := by
  induction ns with
  | nil => simp [sizeN]
  | cons n r ih =>
    have h1 := ih (fun x hx => h x (by simp [hx]))
    have h2 := h n (by simp)
    simp [sizeN] at h1 ⊢
    rw [Nat.add_mul]; omega

theorem ret_int {a b : Int} (h : a = b) : Ending.returned (.int .i64 a) = .returned (.int .i64 b) := by rw [h]

end Go.Proofs.YtecjkkipglldlaaGreatDoor
/- The walks of the statements' own GreatNodes and SameNodes. -/
namespace Go.Proofs.YtecjkkipglldlaaGreatDoor
open Go.RowKit

def bigN (n : Nd) : Bool := decide (300 < n.1.size) || decide (500 < n.2.2.size)
/-- Are nodes too many, or too long? -/
def greatN (m : Int) (ns : List Nd) : Bool := decide (m < (ns.length : Int)) || ns.any bigN
theorem greatN_fall {m : Int} {ns : List Nd} {k : Nat} {n : Nd} (hn : ns[k]? = some n) (h : bigN n = true) : greatN m ns = true := by
  unfold greatN
  rw [Bool.or_eq_true]
  exact .inr (List.any_eq_true.2 ⟨n, List.mem_of_getElem? hn, h⟩)
theorem anyN_step {p : Nd → Bool} {ns : List Nd} {k : Nat} {n : Nd} (hn : ns[k]? = some n) (h : p n = false) (ha : (ns.take k).any p = false) : (ns.take (k + 1)).any p = false := by
  obtain ⟨hk, rfl⟩ := List.getElem?_eq_some_iff.1 hn
  rw [List.take_succ_eq_append_getElem hk, List.any_append, ha]
  simpa using h
theorem greatN_not {m : Int} {ns : List Nd} (h : greatN m ns = false) : (ns.length : Int) ≤ m ∧ ∀ n ∈ ns, n.1.size ≤ 300 ∧ n.2.2.size ≤ 500 := by
  unfold greatN at h
  rw [Bool.or_eq_false_iff] at h
  refine ⟨by have := h.1; simp at this; omega, fun n hn => ?_⟩
  have h2 := List.any_eq_false.1 h.2 n hn
  unfold bigN at h2
  simp at h2
  omega

set_option maxHeartbeats 400000 in
theorem greatN_many (ao : Option Addr) (n c : Nat) (m : Int) (w : World) (h : m < (n : Int)) (h0 : 0 ≤ m) (h1 : m ≤ 1000) (hm : n ≤ maxLen) :
    Calls Tryz.prog 15 #[.slice ao n c, .int .i64 m] w fun e w' => e = .returned (.bool true) ∧ w' = w := by
  unfold maxLen at hm
  go_enter Tryz.func15, Tryz.ntmps15
  go_wp2
  go_loop [5] (fun i => i = .int .i64 0) (fun _ => 0)
  case atStart => rfl
  case round =>
    subst hrel
    have h2 : (0 : Int) < (n : Int) := by omega
    go_wp2
    go_ret
    exact ⟨rfl, rfl⟩
set_option maxHeartbeats 400000 in
theorem greatN_none (ao : Option Addr) (c : Nat) (m : Int) (w : World) (h0 : 0 ≤ m) (h1 : m ≤ 1000) :
    Calls Tryz.prog 15 #[.slice ao 0 c, .int .i64 m] w fun e w' => e = .returned (.bool false) ∧ w' = w := by
  go_enter Tryz.func15, Tryz.ntmps15
  go_wp2
  go_loop [5] (fun i => i = .int .i64 0) (fun _ => 0)
  case atStart => rfl
  case round =>
    subst hrel
    go_wp2
    go_ret
    exact ⟨ret_bool (decide_eq_false (by omega)), rfl⟩
set_option maxHeartbeats 400000 in
theorem greatN_few (b o c : Nat) (m : Int) (ns : List Nd) (w : World) (hl : (ns.length : Int) ≤ m) (h1 : m ≤ 1000) (hr : Run w b o ns) :
    Calls Tryz.prog 15 #[.slice (some ⟨b, o, none⟩) ns.length c, .int .i64 m] w fun e w' => e = .returned (.bool (greatN m ns)) ∧ w' = w := by
  obtain ⟨l, hm⟩ : ∃ l, l = ns.length := ⟨_, rfl⟩
  have HM := hide hm
  have HR := hide hr
  rw [← hm] at hl ⊢
  clear hm hr
  go_enter Tryz.func15, Tryz.ntmps15
  go_wp2
  go_loop [5] (fun i => ∃ k : Nat, k ≤ l ∧ i = .int .i64 k ∧ Hid ((ns.take k).any bigN = false)) (fun i => l - (intOf i).toNat)
  case atStart => exact ⟨0, Nat.zero_le _, rfl, rfl⟩
  case round =>
    obtain ⟨k, hk, rfl, ha⟩ := hrel
    by_cases hlt : k < l
    · obtain ⟨n, hn⟩ : ∃ n, ns[k]? = some n := ⟨ns[k]'(by have := HM.out; omega), List.getElem?_eq_some_iff.2 ⟨_, rfl⟩⟩
      obtain ⟨g1, g2, g3⟩ := HR.out.2 k n hn
      have HN := hide hn
      clear hn
      by_cases hp : 300 < n.1.size
      · have hp' : (300 : Int) < (n.1.size : Int) := by omega
        go_wp2
        go_ret
        exact ⟨ret_bool (greatN_fall HN.out (by unfold bigN; rw [decide_eq_true hp, Bool.true_or])).symm, rfl⟩
      · have hp' : (n.1.size : Int) ≤ 300 := by omega
        by_cases hd : 500 < n.2.2.size
        · have hd' : (500 : Int) < (n.2.2.size : Int) := by omega
          go_wp2
          go_ret
          exact ⟨ret_bool (greatN_fall HN.out (by unfold bigN; rw [decide_eq_true hd, Bool.or_true])).symm, rfl⟩
        · have hd' : (n.2.2.size : Int) ≤ 500 := by omega
          go_wp2
          go_round
          case rel => exact ⟨k + 1, by omega, by go_num, anyN_step HN.out (by unfold bigN; rw [decide_eq_false hp, decide_eq_false hd]; rfl) ha.out⟩
          case measure => simp [intOf]; omega
    · go_wp2
      go_ret
      refine ⟨ret_bool ?_, rfl⟩
      have e : k = ns.length := by have := HM.out; omega
      have h2 := ha.out
      rw [e, List.take_length] at h2
      unfold greatN
      rw [h2, Bool.or_false, ← HM.out]

theorem greatN_ok (v : Value) (m : Int) (ns : List Nd) (b : Bool) (w : World) (h : Nods w v ns) (hm : ns.length ≤ maxLen) (h0 : 0 ≤ m) (h1 : m ≤ 1000) (hb : greatN m ns = b) :
    Calls Tryz.prog 15 #[v, .int .i64 m] w fun e w' => e = .returned (.bool b) ∧ w' = w := by
  subst hb
  by_cases hn : m < (ns.length : Int)
  · have e : greatN m ns = true := by unfold greatN; rw [decide_eq_true hn, Bool.true_or]
    rw [e]
    obtain ⟨a, c, rfl⟩ := h.form
    exact greatN_many a ns.length c m w hn h0 h1 hm
  · rcases h with ⟨rfl, a, c, rfl⟩ | ⟨b, o, c, rfl, _, hr⟩
    · have e : greatN m [] = false := by unfold greatN; rw [decide_eq_false (by simpa using h0)]; rfl
      rw [e]
      exact greatN_none a c m w h0 h1
    · exact greatN_few b o c m ns w (by omega) h1 hr

end Go.Proofs.YtecjkkipglldlaaGreatDoor
/- The walk of the statements' own SameNodes. -/
namespace Go.Proofs.YtecjkkipglldlaaGreatDoor
open Go.RowKit

theorem take_sameN {a b : List Nd} {k : Nat} {x y : Nd} (h : a.take k = b.take k) (hx : a[k]? = some x) (hy : b[k]? = some y) (e : x = y) : a.take (k + 1) = b.take (k + 1) := by
  subst e
  obtain ⟨h1, rfl⟩ := List.getElem?_eq_some_iff.1 hx
  obtain ⟨h2, e2⟩ := List.getElem?_eq_some_iff.1 hy
  rw [List.take_succ_eq_append_getElem h1, List.take_succ_eq_append_getElem h2, h, e2]

theorem struct_node : Tryz.prog.underlying 38 = some (.struct (Tryz.prog.fieldsOf 38)) := by kernel_rfl
theorem held_node : Tryz.prog.stoodInHeld 38 = false := by kernel_rfl
theorem guardtype_node : Tryz.prog.eqGuardType Tryz.prog.depth 38 = false := by kernel_rfl
theorem guard_node (op : BinOp) (x y : Operand) (xs ys : Array Value) (w : World) : (eqGuard op 38 x y (.agg xs) (.agg ys)).run Tryz.prog w = .ok () w := run_eqGuard_agg w op _ x y xs ys guardtype_node
theorem equal_node (x y : Nd) (w : World) : (Op.equalIn 10000 38 (.agg #[.string x.1, .int .i64 x.2.1, .string x.2.2]) (.agg #[.string y.1, .int .i64 y.2.1, .string y.2.2])).run Tryz.prog w = .ok (decide (x = y)) w := by
  have u3 := Tryz.underlying3
  have a3 := Tryz.isAgg3
  have z3 := Tryz.sizeOf3
  have u9 := Tryz.underlying9
  have a9 := Tryz.isAgg9
  have z9 := Tryz.sizeOf9
  rw [show (10000 : Nat) = 9999 + 1 from rfl, run_equalIn_agg w 9999 38 _ _ struct_node held_node]
  simp only [Program.fieldsOf, Tryz.underlying38]
  go_simp
  by_cases h1 : x.1.toList = y.1.toList <;> by_cases h2 : x.2.1 = y.2.1 <;> by_cases h3 : x.2.2.toList = y.2.2.toList <;> simp [h1, h2, h3, nd_eq, bytes_eq]
theorem neq_node (x y : Nd) (w : World) : (binOp .neq 38 (.agg #[.string x.1, .int .i64 x.2.1, .string x.2.2]) (.agg #[.string y.1, .int .i64 y.2.1, .string y.2.2])).run Tryz.prog w = .ok (.bool (nneq x y)) w := by
  rw [run_neq_struct, equal_node]
  simp [nneq]

set_option maxHeartbeats 800000 in
theorem sameN_some (b o c b' o' c' n : Nat) (xs ys : List Nd) (w : World) (hn : n < 1000000) (hnx : n = xs.length) (hny : n = ys.length) (hx : Run w b o xs) (hy : Run w b' o' ys) :
    Calls Tryz.prog 11 #[.slice (some ⟨b, o, none⟩) n c, .slice (some ⟨b', o', none⟩) n c'] w fun e w' => e = .returned (.bool (decide (xs = ys))) ∧ Below w.heap.size w w' := by
  have HX := hide hx
  have HY := hide hy
  have HNX := hide hnx
  have HNY := hide hny
  clear hx hy hnx hny
  have hne : ((n : Int) != (n : Int)) = false := by simp
  go_enter Tryz.func11, Tryz.ntmps11
  go_wp2
  go_loopw [5] (fun i wr => ∃ k : Nat, k ≤ n ∧ i = .int .i64 k ∧ Hid (xs.take k = ys.take k) ∧ Below w.heap.size w wr) (fun i _ => n - (intOf i).toNat)
  case atStart => exact ⟨0, Nat.zero_le _, rfl, rfl, Below.refl _ _⟩
  case round =>
    obtain ⟨k, hk, rfl, hsame, hbl⟩ := hrel
    by_cases hlt : k < n
    · obtain ⟨x, hx⟩ : ∃ x, xs[k]? = some x := ⟨xs[k]'(by have := HNX.out; omega), List.getElem?_eq_some_iff.2 ⟨_, rfl⟩⟩
      obtain ⟨y, hy⟩ : ∃ y, ys[k]? = some y := ⟨ys[k]'(by have := HNY.out; omega), List.getElem?_eq_some_iff.2 ⟨_, rfl⟩⟩
      obtain ⟨g1, g2, g3⟩ := (HX.out.2 k x hx).below hbl HX.out.1
      obtain ⟨f1, f2, f3⟩ := (HY.out.2 k y hy).below hbl HY.out.1
      have hki : (k : Int) < (n : Int) := by omega
      have HXK := hide hx
      have HYK := hide hy
      clear hx hy
      have hnq := neq_node
      have hgd := guard_node
      go_wp2
      go_quiet (fail)
      clear hnq hgd
      cases hq : nneq x y with
      | true =>
        go_wp2
        go_ret
        refine ⟨ret_bool ?_, below_drewN hbl nq⟩
        symm
        rw [decide_eq_false_iff_not]
        intro e
        have h3 : x = y := Option.some.inj (HXK.out.symm.trans ((congrArg (fun l => l[k]?) e).trans HYK.out))
        unfold nneq at hq
        simp [h3] at hq
      | false =>
        have he : x = y := by unfold nneq at hq; simpa using hq
        go_wp2
        go_roundw
        case rel => exact ⟨k + 1, by omega, by go_num, take_sameN hsame.out HXK.out HYK.out he, below_drewN hbl nq⟩
        case measure => simp [intOf]; omega
    · go_wp2
      go_ret
      refine ⟨ret_bool ?_, hbl⟩
      have e : k = n := by omega
      have h1 := hsame.out
      rw [e] at h1
      have h2 : xs = ys := by
        rw [HNX.out] at h1
        have h3 := HNX.out.symm.trans HNY.out
        rw [List.take_length] at h1
        rw [h1, h3, List.take_length]
      rw [h2]; simp
theorem sameN_less (a b : Option Addr) (n m c d : Nat) (w : World) (h : n ≠ m) :
    Calls Tryz.prog 11 #[.slice a n c, .slice b m d] w fun e w' => e = .returned (.bool false) ∧ w' = w := by
  have h1 : ((n : Int) != (m : Int)) = true := by rw [bne_iff_ne]; omega
  go_enter Tryz.func11, Tryz.ntmps11
  go_wp2
  go_ret
  exact ⟨rfl, rfl⟩
theorem sameN_none (a b : Option Addr) (c d : Nat) (w : World) :
    Calls Tryz.prog 11 #[.slice a 0 c, .slice b 0 d] w fun e w' => e = .returned (.bool true) ∧ w' = w := by
  go_enter Tryz.func11, Tryz.ntmps11
  go_wp2
  go_loop [5] (fun i => i = .int .i64 0) (fun _ => 0)
  case atStart => rfl
  case round =>
    subst hrel
    go_wp2
    go_ret
    exact ⟨rfl, rfl⟩

theorem sameN_any (v u : Value) (xs ys : List Nd) (w : World) (hv : Nods w v xs) (hu : Nods w u ys) (hx : xs.length < 1000000) :
    Calls Tryz.prog 11 #[v, u] w fun e w' => e = .returned (.bool (decide (xs = ys))) ∧ Below w.heap.size w w' := by
  by_cases hl : xs.length = ys.length
  · rcases hv with ⟨rfl, a, c, rfl⟩ | ⟨b, o, c, rfl, hc, hr⟩
    · have hy : ys = [] := List.eq_nil_of_length_eq_zero hl.symm
      subst hy
      obtain ⟨a', c', rfl⟩ := hu.form
      refine (sameN_none a a' c c' w).mono ?_
      rintro e w' ⟨rfl, rfl⟩
      exact ⟨rfl, Below.refl _ _⟩
    · rcases hu with ⟨rfl, a', c', rfl⟩ | ⟨b', o', c', rfl, _, hr'⟩
      · have hx0 : xs = [] := List.eq_nil_of_length_eq_zero hl
        subst hx0
        refine (sameN_none (some ⟨b, o, none⟩) a' c c' w).mono ?_
        rintro e w' ⟨rfl, rfl⟩
        exact ⟨rfl, Below.refl _ _⟩
      · rw [← hl]
        exact sameN_some b o c b' o' c' xs.length xs ys w hx rfl hl hr hr'
  · have he : decide (xs = ys) = false := by rw [decide_eq_false_iff_not]; intro e; exact hl (congrArg List.length e)
    rw [he]
    obtain ⟨a, c, rfl⟩ := hv.form
    obtain ⟨a', c', rfl⟩ := hu.form
    refine (sameN_less a a' xs.length ys.length c c' w hl).mono ?_
    rintro e w' ⟨rfl, rfl⟩
    exact ⟨rfl, Below.refl _ _⟩

end Go.Proofs.YtecjkkipglldlaaGreatDoor
