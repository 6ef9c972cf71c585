/- Texts that stand together, joined: RdN, RdI, KC, RdS, RdJ. -/
import Derived.Test.YtmlkknbndglgaaaGreatDoorJ6
import Derived.Deep.Strs
import Derived.WideShapes
import Derived.ChangeArms
import Derived.Carry
import Derived.Test.YtmlkknbndglgaaaGreatDoorJ13
import Derived.SliceStrings
import Derived.Test.YtmlkknbndglgaaaGreatDoorR8
import Derived.ChangeMaps
/- Nodes that are handed in, read: what a slice of nodes, and a node, are made of. -/
namespace Go.Proofs.YtmlkknbndglgaaaGreatDoor
open Go.RowKit Go.WideShapes

theorem cells_string : Tryz.prog.cellsOf 9 = 1 := by kernel_rfl
theorem cells_int : Tryz.prog.cellsOf 3 = 1 := by kernel_rfl
theorem cells_node : Tryz.prog.cellsOf 86 = 3 := by kernel_rfl
theorem laid_out : laidOutB Tryz.prog = true := by kernel_rfl

theorem node_cells {H : Type} {enc : TypeId × Value → H} {w : World} {base : Nat} {spare : Nat → Bool} {held : Bool} {fuel : Nat} {cs : List Value} {x : DataW H × List MemPlace}
    (h : DataW.trod enc Tryz.prog w base spare held fuel 86 cs = some x) : ∃ n : Nd, cs = ncells n ∧ n.1.size ≤ maxLen ∧ n.2.2.size ≤ maxLen := by
  obtain ⟨y0, y1, y2, k, _, hl, h0, h1, h2⟩ := Go.Deep.trod_struct3 Tryz.underlying86 h
  rw [cells_node] at hl
  rw [cells_string] at h0 h2
  rw [cells_int] at h1
  match cs, hl with
  | [a, b, c], _ =>
    simp only [List.drop_zero, List.drop_succ_cons, List.take_succ_cons, List.take_zero] at h0 h1 h2
    obtain ⟨s0, e0, _, z0⟩ := DataW.trod_string Tryz.underlying9 h0
    obtain ⟨i1, e1, _, _⟩ := DataW.trod_int Tryz.underlying3 h1
    obtain ⟨s2, e2, _, z2⟩ := DataW.trod_string Tryz.underlying9 h2
    simp only [List.cons.injEq, and_true] at e0 e1 e2
    exact ⟨(s0, i1, s2), by rw [e0, e1, e2]; rfl, z0, z2⟩

theorem open_nodes {H : Type} {enc : TypeId × Value → H} {W : World} {ao : Option Addr} {len cap : Nat} {d : DataW H} {ps : List MemPlace}
    (h : DataW.Trod enc Tryz.prog W 0 (fun _ => true) true 45 (.slice ao len cap) d ps) : ∃ ns : List Nd, ArgN W ao len cap ns ∧ len ≤ maxLen := by
  obtain ⟨fuel, hf⟩ := h
  rcases Go.Deep.open_slice Tryz.underlying45 hf with ⟨hcs, _⟩ | ⟨a, len', cap', m, k, D, Pl, hcs, _, hl, hm, hmm, _, hx⟩
  · have e : ao = none ∧ len = 0 ∧ cap = 0 := by simpa [Value.cells] using hcs
    obtain ⟨rfl, rfl, rfl⟩ := e
    exact ⟨[], ⟨rfl, fun _ => ⟨rfl, rfl⟩, Nat.le_refl _, fun ad h => by cases h⟩, Nat.zero_le _⟩
  · have e : ao = some a ∧ len = len' ∧ cap = cap' := by simpa [Value.cells] using hcs
    obtain ⟨rfl, rfl, rfl⟩ := e
    simp only [if_true] at hmm
    subst hmm
    have each : ∀ i, i < len → ∃ n : Nd, ∀ (j : Nat) u, (ncells n)[j]? = some u → W.cell? (a.add (i * 3 + j)) = some u := by
      intro i hi
      obtain ⟨cs', h1, h2⟩ := hx i (by omega)
      obtain ⟨n, rfl, _, _⟩ := node_cells h2
      rw [cells_node] at h1
      obtain ⟨_, _, hcell⟩ := World.cells?_some h1
      refine ⟨n, fun j u hu => ?_⟩
      have hj : j < 3 := by have := (List.getElem?_eq_some_iff.1 hu).1; simpa [ncells] using this
      have h3 := hcell j hj
      rw [Go.Deep.add_add] at h3
      rw [h3]
      exact hu
    obtain ⟨f, hf⟩ := Go.Deep.choose_lt (α := Nd) each
    refine ⟨(List.range len).map f, ⟨by simp, fun h => (by cases h), hl, fun ad had j u hu => ?_⟩, by omega⟩
    cases had
    have hj := (List.getElem?_eq_some_iff.1 hu).1
    rw [flat_len, List.length_map, List.length_range] at hj
    have hq : j / 3 < len := by omega
    have hn : ((List.range len).map f)[j / 3]? = some (f (j / 3)) := by simp [hq]
    obtain ⟨e1, e2, e3⟩ := flat_get hn
    have h4 := hf (j / 3) hq
    have hr : j = j / 3 * 3 + 0 ∨ j = j / 3 * 3 + 1 ∨ j = j / 3 * 3 + 2 := by omega
    rcases hr with hr | hr | hr
    · rw [hr] at hu ⊢
      rw [Nat.add_zero] at hu
      exact h4 0 u (by rw [e1] at hu; simpa [ncells] using hu)
    · rw [hr] at hu ⊢
      exact h4 1 u (by rw [e2] at hu; simpa [ncells] using hu)
    · rw [hr] at hu ⊢
      exact h4 2 u (by rw [e3] at hu; simpa [ncells] using hu)

end Go.Proofs.YtmlkknbndglgaaaGreatDoor
/- Items that are handed in, read: what a slice of texts, and an item, are made of. -/
namespace Go.Proofs.YtmlkknbndglgaaaGreatDoor
open Go.RowKit Go.WideShapes Go.ChangeShapes

theorem cells_texts : Tryz.prog.cellsOf 23 = 1 := by kernel_rfl
theorem cells_nodes1 : Tryz.prog.cellsOf 45 = 1 := by kernel_rfl
theorem cells_item : Tryz.prog.cellsOf 47 = 3 := by kernel_rfl

/-- An item that was handed in. -/
structure ItArg (w : World) (i : It) (ra : Option Addr) (rn rc : Nat) (ta : Option Addr) (tn tc : Nat) : Prop where
  name : i.1.size ≤ maxLen
  refs : Arg w ra rn rc i.2.1
  rlen : rn ≤ maxLen
  tree : ArgN w ta tn tc i.2.2
  tlen : tn ≤ maxLen
theorem ItArg.below {w w' : World} {i : It} {ra : Option Addr} {rn rc : Nat} {ta : Option Addr} {tn tc : Nat} (h : ItArg w i ra rn rc ta tn tc) (hb : Below w.heap.size w w') : ItArg w' i ra rn rc ta tn tc :=
  ⟨h.name, h.refs.below hb, h.rlen, h.tree.below hb, h.tlen⟩

theorem texts_cells {H : Type} {enc : TypeId × Value → H} {W : World} {fuel : Nat} {u : Value} {x : DataW H × List MemPlace}
    (h : DataW.trod enc Tryz.prog W 0 (fun _ => true) true fuel 23 [u] = some x) : ∃ ao n c xs, u = .slice ao n c ∧ Arg W ao n c xs ∧ n ≤ maxLen := by
  rcases open_strings Tryz.underlying23 Tryz.underlying9 cells_string h with ⟨hcs, _⟩ | ⟨a, len', cap', ss, hcs, _, hl, hm, hz, _, hcell, _⟩
  · have e : u = .slice none 0 0 := by simpa using hcs
    exact ⟨none, 0, 0, [], e, ⟨rfl, fun _ => ⟨rfl, rfl⟩, Nat.le_refl _, fun ad h => by cases h⟩, Nat.zero_le _⟩
  · have e : u = .slice (some a) len' cap' := by simpa using hcs
    simp only [if_true] at hz
    refine ⟨some a, len', cap', ss.take len', e, ⟨by simp; omega, fun h => (by cases h), hl, fun ad had j v hv => ?_⟩, by omega⟩
    cases had
    have hj := (List.getElem?_eq_some_iff.1 hv).1
    rw [List.length_map, List.length_take] at hj
    have hjz : j < ss.length := by omega
    rw [hcell j hjz]
    rw [List.getElem?_map, List.getElem?_take_of_lt (by omega), List.getElem?_eq_getElem hjz] at hv
    have e3 : ss.getD j ByteArray.empty = ss[j] := by simp [List.getD, hjz]
    rw [e3]
    exact hv
theorem nodes_cells1 {H : Type} {enc : TypeId × Value → H} {W : World} {fuel : Nat} {u : Value} {x : DataW H × List MemPlace}
    (h : DataW.trod enc Tryz.prog W 0 (fun _ => true) true fuel 45 [u] = some x) : ∃ ao n c ns, u = .slice ao n c ∧ ArgN W ao n c ns ∧ n ≤ maxLen := by
  have hs : ∃ ao len cap, u = .slice ao len cap := by
    rcases Go.Deep.open_slice Tryz.underlying45 h with ⟨hcs, _⟩ | ⟨a, len', cap', m, k, D, Pl, hcs, _⟩
    · exact ⟨none, 0, 0, by simpa using hcs⟩
    · exact ⟨some a, len', cap', by simpa using hcs⟩
  obtain ⟨ao, len, cap, rfl⟩ := hs
  obtain ⟨ns, h1, h2⟩ := open_nodes (d := x.1) (ps := x.2) ⟨fuel, by simpa [Value.cells] using h⟩
  exact ⟨ao, len, cap, ns, rfl, h1, h2⟩
theorem item_cells {H : Type} {enc : TypeId × Value → H} {w : World} {fuel : Nat} {cs : List Value} {x : DataW H × List MemPlace}
    (h : DataW.trod enc Tryz.prog w 0 (fun _ => true) true fuel 47 cs = some x) : ∃ i ra rn rc ta tn tc, cs = [.string i.1, .slice ra rn rc, .slice ta tn tc] ∧ ItArg w i ra rn rc ta tn tc := by
  obtain ⟨y0, y1, y2, k, _, hl, h0, h1, h2⟩ := Go.Deep.trod_struct3 Tryz.underlying47 h
  rw [cells_item] at hl
  rw [cells_string] at h0
  rw [cells_texts] at h1
  rw [cells_nodes1] at h2
  match cs, hl with
  | [a, b, c], _ =>
    simp only [List.drop_zero, List.drop_succ_cons, List.take_succ_cons, List.take_zero] at h0 h1 h2
    obtain ⟨s0, e0, _, z0⟩ := DataW.trod_string Tryz.underlying9 h0
    obtain ⟨ra, rn, rc, xs, e1, a1, z1⟩ := texts_cells h1
    obtain ⟨ta, tn, tc, ns, e2, a2, z2⟩ := nodes_cells1 h2
    simp only [List.cons.injEq, and_true] at e0
    exact ⟨(s0, xs, ns), ra, rn, rc, ta, tn, tc, by rw [e0, e1, e2], z0, a1, z1, a2, z2⟩
set_option maxRecDepth 100000 in
theorem open_item {H : Type} {enc : TypeId × Value → H} {W : World} {v : Value} {d : DataW H} {ps : List MemPlace} {r : Reach} {base : Nat}
    (hv : Value.okWide Tryz.prog W r base 47 v) (h : DataW.Trod enc Tryz.prog W 0 (fun _ => true) true 47 v d ps) :
    ∃ i ra rn rc ta tn tc, v = .agg #[.string i.1, .slice ra rn rc, .slice ta tn tc] ∧ ItArg W i ra rn rc ta tn tc := by
  obtain ⟨cs, rfl, hcs⟩ := okWide_struct Tryz.underlying47 hv
  obtain ⟨fuel, hf⟩ := h
  obtain ⟨i, ra, rn, rc, ta, tn, tc, e, hi⟩ := item_cells hf
  refine ⟨i, ra, rn, rc, ta, tn, tc, ?_, hi⟩
  have e2 : cs.toList = [.string i.1, .slice ra rn rc, .slice ta tn tc] := by simpa [Value.cells] using e
  rw [← Array.toArray_toList (xs := cs), e2]
end Go.Proofs.YtmlkknbndglgaaaGreatDoor
/- Items in memory with the slices that they hold: slices of items that are handed in, cut, made, appended. -/
namespace Go.Proofs.YtmlkknbndglgaaaGreatDoor
open Go.RowKit

/-- An item as its cells have it: its name, and two slices (where, how long, how much room). -/
abbrev Rw := ByteArray × (Option Addr × Nat × Nat) × (Option Addr × Nat × Nat)
/-- An item with its cells. -/
abbrev Pr := Rw × It
def refsV (r : Rw) : Value := .slice r.2.1.1 r.2.1.2.1 r.2.1.2.2
def treeV (r : Rw) : Value := .slice r.2.2.1 r.2.2.2.1 r.2.2.2.2
def rcells (r : Rw) : List Value := [.string r.1, refsV r, treeV r]
def rflat (rs : List Pr) : List Value := rs.flatMap fun p => rcells p.1
def itsOf (ps : List Pr) : List It := ps.map (·.2)
theorem its_len (ps : List Pr) : (itsOf ps).length = ps.length := List.length_map ..
theorem rflat_cons (p : Pr) (ps : List Pr) : rflat (p :: ps) = rcells p.1 ++ rflat ps := by simp [rflat]
theorem rflat_app (a b : List Pr) : rflat (a ++ b) = rflat a ++ rflat b := by simp [rflat]
theorem rflat_len : ∀ ps : List Pr, (rflat ps).length = ps.length * 3
  | [] => rfl
  | p :: r => by rw [rflat_cons, List.length_append, rflat_len r]; simp [rcells]; omega
theorem rflat_one : ∀ (ps : List Pr), ∀ v ∈ rflat ps, v.oneCell' = true := by
  intro ps v hv
  obtain ⟨p, _, hp⟩ := List.mem_flatMap.1 hv
  simp [rcells] at hp
  rcases hp with rfl | rfl | rfl <;> rfl
theorem rflat_drop (ps : List Pr) (k : Nat) : (rflat ps).drop (k * 3) = rflat (ps.drop k) := by
  induction ps generalizing k with
  | nil => simp [rflat]
  | cons p r ih =>
    cases k with
    | zero => simp
    | succ k =>
      rw [rflat_cons, List.drop_succ_cons, ← ih k]
      have e : (k + 1) * 3 = (rcells p.1).length + k * 3 := by simp [rcells]; omega
      rw [e, List.drop_length_add_append]
theorem rflat_take (ps : List Pr) (k : Nat) : (rflat ps).take (k * 3) = rflat (ps.take k) := by
  induction ps generalizing k with
  | nil => simp [rflat]
  | cons p r ih =>
    cases k with
    | zero => simp [rflat]
    | succ k =>
      rw [rflat_cons, List.take_succ_cons, rflat_cons, ← ih k]
      have e : (k + 1) * 3 = (rcells p.1).length + k * 3 := by simp [rcells]; omega
      rw [e, List.take_length_add_append]
theorem rflat_get {ps : List Pr} {j : Nat} {p : Pr} (h : ps[j]? = some p) :
    (rflat ps)[j * 3]? = some (.string p.1.1) ∧ (rflat ps)[j * 3 + 1]? = some (refsV p.1) ∧ (rflat ps)[j * 3 + 2]? = some (treeV p.1) := by
  obtain ⟨hj, rfl⟩ := List.getElem?_eq_some_iff.1 h
  have e : (rflat ps).drop (j * 3) = rcells ps[j].1 ++ rflat (ps.drop (j + 1)) := by rw [rflat_drop, List.drop_eq_getElem_cons hj, rflat_cons]
  have g : ∀ i, (rflat ps)[j * 3 + i]? = (rcells ps[j].1 ++ rflat (ps.drop (j + 1)))[i]? := fun i => by rw [← e, List.getElem?_drop]
  exact ⟨by have := g 0; simpa [rcells] using this, by have := g 1; simpa [rcells] using this, by have := g 2; simpa [rcells] using this⟩

/-- These cells are that item's. -/
structure IsI (w : World) (p : Pr) : Prop where
  name : p.1.1 = p.2.1
  refs : Arg w p.1.2.1.1 p.1.2.1.2.1 p.1.2.1.2.2 p.2.2.1
  tree : ArgN w p.1.2.2.1 p.1.2.2.2.1 p.1.2.2.2.2 p.2.2.2
theorem IsI.below {w w' : World} {p : Pr} (h : IsI w p) (hb : Below w.heap.size w w') : IsI w' p := ⟨h.name, h.refs.below hb, h.tree.below hb⟩

structure AtS (w : World) (b o : Nat) (p : Pr) : Prop where
  c0 : w.cell? ⟨b, o, none⟩ = some (.string p.2.1)
  c1 : w.cell? ⟨b, o + 1, none⟩ = some (refsV p.1)
  c2 : w.cell? ⟨b, o + 2, none⟩ = some (treeV p.1)
  is : IsI w p
theorem AtS.below {w w' : World} {b o : Nat} {p : Pr} (h : AtS w b o p) (hb : Below w.heap.size w w') : AtS w' b o p :=
  have hlt : b < w.heap.size := (addr_plain h.c0).2
  ⟨(hb.cell (p := ⟨b, o, none⟩) hlt).trans h.c0, (hb.cell (p := ⟨b, o + 1, none⟩) hlt).trans h.c1, (hb.cell (p := ⟨b, o + 2, none⟩) hlt).trans h.c2, h.is.below hb⟩
theorem AtS.it {w : World} {b o : Nat} {p : Pr} (h : AtS w b o p) : ItAt w b o p.2 :=
  ⟨_, _, _, _, _, _, h.c0, h.c1, h.c2, h.is.refs.txt, h.is.tree.nods⟩
def RunS (w : World) (b o : Nat) (ps : List Pr) : Prop := b < w.heap.size ∧ ∀ (j : Nat) p, ps[j]? = some p → AtS w b (o + j * 3) p
theorem RunS.below {w w' : World} {b o : Nat} {ps : List Pr} (h : RunS w b o ps) (hb : Below w.heap.size w w') : RunS w' b o ps :=
  ⟨Nat.lt_of_lt_of_le h.1 hb.size, fun j p hp => (h.2 j p hp).below hb⟩
theorem RunS.run {w : World} {b o : Nat} {ps : List Pr} (h : RunS w b o ps) : RunI w b o (itsOf ps) :=
  ⟨h.1, fun j i hi => by
    unfold itsOf at hi
    rw [List.getElem?_map] at hi
    obtain ⟨p, hp, rfl⟩ := Option.map_eq_some_iff.1 hi
    exact (h.2 j p hp).it⟩
/-- The slice v holds the items ps. -/
def Sls (w : World) (v : Value) (ps : List Pr) : Prop :=
  (ps = [] ∧ ∃ a c, v = .slice a 0 c) ∨ (∃ b o c, v = .slice (some ⟨b, o, none⟩) ps.length c ∧ ps.length ≤ c ∧ RunS w b o ps)
theorem Sls.below {w w' : World} {v : Value} {ps : List Pr} (h : Sls w v ps) (hb : Below w.heap.size w w') : Sls w' v ps := by
  rcases h with h | ⟨b, o, c, rfl, hc, hr⟩
  · exact .inl h
  · exact .inr ⟨b, o, c, rfl, hc, hr.below hb⟩
theorem Sls.its {w : World} {v : Value} {ps : List Pr} (h : Sls w v ps) : Its w v (itsOf ps) := by
  rcases h with ⟨rfl, h⟩ | ⟨b, o, c, rfl, hc, hr⟩
  · exact .inl ⟨rfl, h⟩
  · exact .inr ⟨b, o, c, by rw [its_len], by rw [its_len]; exact hc, hr.run⟩
theorem Sls.form {w : World} {v : Value} {ps : List Pr} (h : Sls w v ps) : ∃ a c, v = .slice a ps.length c := by
  rcases h with ⟨rfl, a, c, rfl⟩ | ⟨b, o, c, rfl, _⟩
  · exact ⟨a, c, rfl⟩
  · exact ⟨_, c, rfl⟩

/-- A slice of items that was handed in, or cut. -/
structure ArgS (w : World) (ao : Option Addr) (n c : Nat) (ps : List Pr) : Prop where
  len : ps.length = n
  none : ao = none → n = 0 ∧ c = 0
  cap : n ≤ c
  cell : ∀ ad, ao = some ad → ∀ (j : Nat) u, (rflat ps)[j]? = some u → w.cell? (ad.add j) = some u
  each : ∀ p ∈ ps, IsI w p
theorem ArgS.below {w w' : World} {ao : Option Addr} {n c : Nat} {ps : List Pr} (h : ArgS w ao n c ps) (hb : Below w.heap.size w w') : ArgS w' ao n c ps :=
  ⟨h.len, h.none, h.cap, fun ad e j u hu => by
    have h1 := h.cell ad e j u hu
    rw [hb.cell (addr_plain h1).2]; exact h1, fun p hp => (h.each p hp).below hb⟩
theorem ArgS.plain {w : World} {ad : Addr} {n c : Nat} {ps : List Pr} (h : ArgS w (some ad) n c ps) (hn : 0 < n) : ad = ⟨ad.block, ad.off, Option.none⟩ ∧ ad.block < w.heap.size := by
  match ps, h with
  | [], h => exact absurd h.len (by simp; omega)
  | p :: r, h =>
    have h0 := h.cell ad rfl 0 (.string p.1.1) rfl
    rw [add_zero'] at h0
    exact addr_plain h0
theorem ArgS.sls {w : World} {ao : Option Addr} {n c : Nat} {ps : List Pr} (h : ArgS w ao n c ps) : Sls w (.slice ao n c) ps := by
  match ps, h with
  | [], h => exact .inl ⟨rfl, ao, c, by rw [← h.len]; rfl⟩
  | p :: r, h =>
    cases ao with
    | none => have h1 := (h.none rfl).1; have h2 := h.len; rw [h1] at h2; simp at h2
    | some ad =>
      obtain ⟨e, hlt⟩ := h.plain (by rw [← h.len]; simp)
      refine .inr ⟨ad.block, ad.off, c, by rw [h.len, ← e], by rw [h.len]; exact h.cap, hlt, fun j q hq => ?_⟩
      obtain ⟨e1, e2, e3⟩ := rflat_get hq
      have hi := h.each q (List.mem_of_getElem? hq)
      have k1 := h.cell ad rfl _ _ e1
      have k2 := h.cell ad rfl _ _ e2
      have k3 := h.cell ad rfl _ _ e3
      rw [e, add_plain] at k1 k2 k3
      exact ⟨by rw [← hi.name]; exact k1, k2, k3, hi⟩
theorem ArgS.take {w : World} {ao : Option Addr} {n c k : Nat} {ps : List Pr} (h : ArgS w ao n c ps) (hk : k ≤ n) : ArgS w ao k c (ps.take k) := by
  have hl := h.len
  have hc := h.cap
  refine ⟨by rw [List.length_take]; omega, fun e => ⟨by have := (h.none e).1; omega, (h.none e).2⟩, by omega, fun ad e j u hu => ?_, fun p hp => h.each p (List.mem_of_mem_take hp)⟩
  rw [← rflat_take, List.getElem?_take] at hu
  split at hu
  · exact h.cell ad e j u hu
  · cases hu
theorem ArgS.drop {w : World} {b o n c k : Nat} {ps : List Pr} (h : ArgS w (some ⟨b, o, Option.none⟩) n c ps) (hk : k ≤ n) : ArgS w (some ⟨b, o + k * 3, Option.none⟩) (n - k) (c - k) (ps.drop k) := by
  have hl := h.len
  have hc := h.cap
  refine ⟨by rw [List.length_drop]; omega, fun e => by (cases e), by omega, fun ad e j u hu => ?_, fun p hp => h.each p (List.mem_of_mem_drop hp)⟩
  cases e
  rw [← rflat_drop, List.getElem?_drop] at hu
  have h1 := h.cell _ rfl _ u hu
  rw [add_plain] at h1 ⊢
  rw [Nat.add_assoc]; exact h1
theorem ArgS.empty (w : World) (ad : Addr) (c : Nat) : ArgS w (some ad) 0 c [] := ⟨rfl, fun e => by (cases e), Nat.zero_le _, fun _ _ j u hu => by simp [rflat] at hu, fun p hp => by simp at hp⟩
theorem ArgS.nil (w : World) : ArgS w Option.none 0 0 [] := ⟨rfl, fun _ => ⟨rfl, rfl⟩, Nat.le_refl _, fun _ e => by (cases e), fun p hp => by simp at hp⟩

/-- The slice v holds the items' cells in a row of its own, from block number base on. -/
def OwnS (base : Nat) (w : World) (v : Value) (ps : List Pr) : Prop := w.ownsRow base 47 3 v ps.length (rflat ps)
theorem OwnS.nil (base : Nat) (w : World) : OwnS base w (.slice none 0 0) [] := World.ownsRow_nil w base 47 3
theorem OwnS.below {base : Nat} {w w' : World} {v : Value} {ps : List Pr} (h : OwnS base w v ps) (hb : Below w.heap.size w w') : OwnS base w' v ps := by
  refine ⟨h.1, ?_⟩
  rcases h.2 with h2 | ⟨g, cap, cur, rfl, hbs, hg, r⟩
  · exact .inl h2
  · exact .inr ⟨g, cap, cur, rfl, hbs, by rw [hb.block g (Array.getElem?_eq_some_iff.1 hg).1]; exact hg, r⟩
theorem OwnS.base {base base' : Nat} {w : World} {v : Value} {ps : List Pr} (h : OwnS base w v ps) (hb : base' ≤ base) : OwnS base' w v ps := by
  refine ⟨h.1, ?_⟩
  rcases h.2 with h2 | ⟨g, cap, cur, e, hbs, r⟩
  · exact .inl h2
  · exact .inr ⟨g, cap, cur, e, Nat.le_trans hb hbs, r⟩
theorem OwnS.form {base : Nat} {w : World} {v : Value} {ps : List Pr} (h : OwnS base w v ps) : ∃ a c, v = .slice a ps.length c := by
  obtain ⟨_, h2⟩ := h
  rcases h2 with ⟨rfl, h0⟩ | ⟨g, cap, cur, rfl, _⟩
  · exact ⟨none, 0, by rw [h0]⟩
  · exact ⟨_, _, rfl⟩
theorem OwnS.arg {base : Nat} {w : World} {v : Value} {ps : List Pr} (h : OwnS base w v ps) (he : ∀ p ∈ ps, IsI w p) : ∃ ao c, v = .slice ao ps.length c ∧ ArgS w ao ps.length c ps := by
  have h' := h
  obtain ⟨_, h2⟩ := h
  rcases h2 with ⟨rfl, h0⟩ | ⟨g, cap, cur, rfl, hb, hg, hn, hm, hs, ht⟩
  · obtain rfl := List.eq_nil_of_length_eq_zero h0
    exact ⟨none, 0, rfl, ArgS.nil w⟩
  · refine ⟨some ⟨g, 0, none⟩, cap, rfl, rfl, fun e => (by cases e), hn, fun ad e j u hu => ?_, he⟩
    cases e
    exact h'.cells (g := g) rfl j u hu
theorem OwnS.sls {base : Nat} {w : World} {v : Value} {ps : List Pr} (h : OwnS base w v ps) (he : ∀ p ∈ ps, IsI w p) : Sls w v ps := by
  obtain ⟨ao, c, rfl, ha⟩ := h.arg he
  exact ha.sls
theorem OwnS.made (w : World) (ps : List Pr) (hm : ps.length ≤ maxLen) :
    OwnS w.heap.size (w.alloc (.cells (rflat ps).toArray 47)) (.slice (some ⟨w.heap.size, 0, none⟩) ps.length ps.length) ps :=
  ⟨rflat_len ps, .inr ⟨w.heap.size, ps.length, _, rfl, Nat.le_refl _, heap_alloc_new w _, Nat.le_refl _, hm, by simp [rflat_len], by rw [← rflat_len]; simp [List.take_of_length_le]⟩⟩
theorem OwnS.joined {base : Nat} {w : World} {v : Value} {n : Nat} {a b : List Pr} (h : w.ownsRow base 47 3 v n (rflat a ++ rflat b)) : OwnS base w v (a ++ b) := by
  have hn : n = (a ++ b).length := by have := h.1; simp [rflat_len] at this; simp; omega
  subst hn
  rw [← rflat_app] at h
  exact h
theorem OwnS.grownBelow {base : Nat} {w w' : World} {v : Value} {ps : List Pr} (h : OwnS base w v ps) (hg : w.grownBy w' v.ownBlock) (hB : base ≤ w.heap.size) : Below base w w' :=
  (Below.refl base w).grown hg hB (fun k hk => (h.lt k hk).1)
theorem AItem : (Tryz.prog.info? 47).map (fun i => (i.zero, i.size, i.bytes)) = some (some (.agg #[.string ByteArray.empty, .slice none 0 0, .slice none 0 0]), 3, 64) := by kernel_rfl

theorem wpList_append_items {w : World} {ops : Array Oper} {rest : List Oper} {o : Oper} {a : Act} {Q : Exit → Act → World → Prop} (hgd : o.guard = none) (s x : Operand)
    (ho : o.op = .call { callee := .builtin .append, args := #[s, x], argTypes := #[22, 22] })
    (base : Nat) (v : Value) (xs : List Pr) (hs : a.eval s = v) (hown : OwnS base w v xs) (ad : Addr) (m c : Nat) (ys : List Pr) (hx : a.eval x = .slice (some ad) m c) (hu : ArgS w (some ad) m c ys)
    (q : Nat) (hq : xs.length + ys.length = q) (zs : List Pr) (hz : xs ++ ys = zs) (hlen : q < 1000000) (hbase : base ≤ w.heap.size)
    (h : ∀ b c w', OwnS base w' (.slice b q c) zs → w.grownBy w' v.ownBlock → wpList Tryz.prog ops Q rest (a.put o.dst (.slice b q c)) w') : wpList Tryz.prog ops Q (o :: rest) a w := by
  subst hq hz
  obtain ⟨i0, hi, hz0, hz1, hz2⟩ := info_parts AItem
  obtain rfl := hu.len
  refine wpList_plain hgd fun K hK => ?_
  obtain ⟨v', w', hr, h2, h3, h4⟩ := run_append_own (P := Tryz.prog) w base 22 o.type 47 i0 (.agg #[.string ByteArray.empty, .slice none 0 0, .slice none 0 0]) 3 64 Tryz.underlying22 hi hz0 hz1 hz2 rfl (by decide) v xs.length (rflat xs) hown ad ys.length c (rflat ys) (rflat_len ys) (hu.cell ad rfl) (rflat_one ys) (by unfold maxLen; omega) (by omega) hbase
  have h5 : OwnS base w' v' (xs ++ ys) := OwnS.joined h2
  obtain ⟨b, c', e⟩ := h5.form
  rw [List.length_append] at e
  subst e
  unfold Oper.wp execOp
  simp only [ho, resolve, invoke, builtin, Sem.run_bind, Sem.run_pure, Result.andThen_ok, List.map_toArray, List.map_cons, List.map_nil, hs, hx, hr]
  exact hK _ _ (h b c' w' h5 h3)
end Go.Proofs.YtmlkknbndglgaaaGreatDoor
/- Texts that are handed in, read: what a slice of texts is made of. -/
namespace Go.Proofs.YtmlkknbndglgaaaGreatDoor
open Go.RowKit Go.WideShapes Go.ChangeShapes

theorem open_texts {H : Type} {enc : TypeId × Value → H} {W : World} {ao : Option Addr} {len cap : Nat} {d : DataW H} {ps : List MemPlace}
    (h : DataW.Trod enc Tryz.prog W 0 (fun _ => true) true 23 (.slice ao len cap) d ps) : ∃ xs : List ByteArray, Arg W ao len cap xs ∧ len ≤ maxLen ∧ ∀ x ∈ xs, x.size ≤ maxLen := by
  obtain ⟨fuel, hf⟩ := h
  rcases open_strings Tryz.underlying23 Tryz.underlying9 cells_string hf with ⟨hcs, _⟩ | ⟨a, len', cap', ss, hcs, _, hl, hm, hz, _, hcell, hsz⟩
  · have e : ao = none ∧ len = 0 ∧ cap = 0 := by simpa [Value.cells] using hcs
    obtain ⟨rfl, rfl, rfl⟩ := e
    exact ⟨[], ⟨rfl, fun _ => ⟨rfl, rfl⟩, Nat.le_refl _, fun ad h => by cases h⟩, Nat.zero_le _, by simp⟩
  · have e : ao = some a ∧ len = len' ∧ cap = cap' := by simpa [Value.cells] using hcs
    obtain ⟨rfl, rfl, rfl⟩ := e
    simp only [if_true] at hz
    refine ⟨ss.take len, ⟨by rw [List.length_take]; omega, fun h => (by cases h), hl, fun ad had j u hu => ?_⟩, by omega, fun x hx => hsz x (List.mem_of_mem_take hx)⟩
    cases had
    have hj : j < len := by
      have := (List.getElem?_eq_some_iff.1 hu).1
      rw [List.length_map, List.length_take] at this
      omega
    rw [hcell j (by omega)]
    rw [List.getElem?_map, List.getElem?_take, if_pos hj] at hu
    rw [← hu, List.getD_eq_getElem?_getD, List.getElem?_eq_getElem (by omega)]
    rfl
end Go.Proofs.YtmlkknbndglgaaaGreatDoor
/- Slices of items that are handed in, read. -/
namespace Go.Proofs.YtmlkknbndglgaaaGreatDoor
open Go.RowKit Go.WideShapes Go.ChangeShapes

theorem open_items {H : Type} {enc : TypeId × Value → H} {W : World} {ao : Option Addr} {len cap : Nat} {d : DataW H} {ps : List MemPlace}
    (h : DataW.Trod enc Tryz.prog W 0 (fun _ => true) true 22 (.slice ao len cap) d ps) : ∃ qs : List Pr, ArgS W ao len cap qs ∧ len ≤ maxLen ∧ Lens (itsOf qs) ∧ ∀ i ∈ itsOf qs, i.1.size ≤ maxLen := by
  obtain ⟨fuel, hf⟩ := h
  rcases Go.Deep.open_slice Tryz.underlying22 hf with ⟨hcs, _⟩ | ⟨a, len', cap', m, k, D, Pl, hcs, _, hl, hm, hmm, _, hx⟩
  · have e : ao = none ∧ len = 0 ∧ cap = 0 := by simpa [Value.cells] using hcs
    obtain ⟨rfl, rfl, rfl⟩ := e
    exact ⟨[], ArgS.nil W, Nat.zero_le _, fun i hi => by simp [itsOf] at hi, fun i hi => by simp [itsOf] at hi⟩
  · have e : ao = some a ∧ len = len' ∧ cap = cap' := by simpa [Value.cells] using hcs
    obtain ⟨rfl, rfl, rfl⟩ := e
    simp only [if_true] at hmm
    subst hmm
    have each : ∀ i, i < len → ∃ p : Pr, (∀ (j : Nat) u, (rcells p.1)[j]? = some u → W.cell? (a.add (i * 3 + j)) = some u) ∧ IsI W p ∧ p.2.2.1.length ≤ maxLen ∧ p.2.2.2.length ≤ maxLen ∧ p.2.1.size ≤ maxLen := by
      intro i hi
      obtain ⟨cs', h1, h2⟩ := hx i (by omega)
      obtain ⟨it, ra, rn, rc, ta, tn, tc, rfl, hi⟩ := item_cells h2
      rw [cells_item] at h1
      obtain ⟨_, _, hcell⟩ := World.cells?_some h1
      refine ⟨((it.1, (ra, rn, rc), (ta, tn, tc)), it), fun j u hu => ?_, ⟨rfl, hi.refs, hi.tree⟩, by rw [hi.refs.len]; exact hi.rlen, by rw [hi.tree.len]; exact hi.tlen, hi.name⟩
      have hj : j < 3 := by have := (List.getElem?_eq_some_iff.1 hu).1; simpa [rcells] using this
      have h3 := hcell j hj
      rw [Go.Deep.add_add] at h3
      rw [h3]
      exact hu
    obtain ⟨f, hf⟩ := Go.Deep.choose_lt (α := Pr) each
    refine ⟨(List.range len).map f, ⟨by simp, fun h => (by cases h), hl, fun ad had j u hu => ?_, fun p hp => ?_⟩, by omega, fun i hi => ?_, fun i hi => ?_⟩
    · cases had
      have hj := (List.getElem?_eq_some_iff.1 hu).1
      rw [rflat_len, List.length_map, List.length_range] at hj
      have hq : j / 3 < len := by omega
      have hn : ((List.range len).map f)[j / 3]? = some (f (j / 3)) := by simp [hq]
      obtain ⟨e1, e2, e3⟩ := rflat_get hn
      have h4 := (hf (j / 3) hq).1
      have hr : j = j / 3 * 3 + 0 ∨ j = j / 3 * 3 + 1 ∨ j = j / 3 * 3 + 2 := by omega
      rcases hr with hr | hr | hr
      · rw [hr] at hu ⊢
        rw [Nat.add_zero] at hu
        exact h4 0 u (by rw [e1] at hu; simpa [rcells] using hu)
      · rw [hr] at hu ⊢
        exact h4 1 u (by rw [e2] at hu; simpa [rcells] using hu)
      · rw [hr] at hu ⊢
        exact h4 2 u (by rw [e3] at hu; simpa [rcells] using hu)
    · obtain ⟨i, hi, rfl⟩ := List.mem_map.1 hp
      exact (hf i (by simpa using hi)).2.1
    · unfold itsOf at hi
      rw [List.map_map] at hi
      obtain ⟨j, hj, rfl⟩ := List.mem_map.1 hi
      have := (hf j (by simpa using hj)).2
      exact ⟨this.2.1, this.2.2.1⟩
    · unfold itsOf at hi
      rw [List.map_map] at hi
      obtain ⟨j, hj, rfl⟩ := List.mem_map.1 hi
      exact (hf j (by simpa using hj)).2.2.2.2
end Go.Proofs.YtmlkknbndglgaaaGreatDoor
