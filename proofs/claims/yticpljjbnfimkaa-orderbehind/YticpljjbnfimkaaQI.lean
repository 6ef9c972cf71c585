/- All that order's arrange keeps in memory: who waits for whom, the heap, and the places that came. -/
import Derived.Test.YticpljjbnfimkaaJ17
import Derived.Test.YticpljjbnfimkaaQH
namespace Go.Proofs.Yticpljjbnfimkaa
open Go.RowKit
variable {H : Nat}

/-- The lesser of two texts. -/
def ltB (x y : ByteArray) : Prop := Op.bytesLess x.toList y.toList = true
theorem ltB_irr (x : ByteArray) : ¬ ltB x x := by unfold ltB; rw [Hog.less_irr]; simp
theorem ltB_tr (x y z : ByteArray) (h : ltB x y) (k : ltB y z) : ltB x z := Hog.less_trans h k
theorem ltB_tot (x y : ByteArray) (h : ¬ ltB x y) (k : ¬ ltB y x) : x = y := by
  rcases Hog.less_three x.toList y.toList with e | e | e
  · exact absurd e h
  · exact bytes_eq.2 e
  · exact absurd e k
theorem ltB_neg (x y z : ByteArray) (h : ¬ ltB x y) (k : ¬ ltB y z) : ¬ ltB x z := by
  intro e
  rcases Hog.less_three y.toList z.toList with q | q | q
  · exact k q
  · exact h (by unfold ltB at e ⊢; rw [q]; exact e)
  · exact h (ltB_tr _ _ _ e q)
theorem ordQ (ns : List ByteArray) : Hog.Ordy (ltQ ns) := ⟨fun _ => ltB_irr _, fun _ _ _ => ltB_tr _ _ _, fun _ _ _ => ltB_neg _ _ _⟩
theorem nmN_nmP {is : List It} {z : Nat} (h : z < is.length) : nmN (is.map (·.1)) z = Hog.nmP is z := by
  have h1 : is[z]? = some is[z] := List.getElem?_eq_getElem h
  rw [Hog.nmP_at h1, nmN_at (x := is[z].1) (by rw [List.getElem?_map, h1]; rfl)]
theorem idx_of {is : List It} {f : ByteArray → Option Nat} (hn : (is.map (·.1)).Nodup) (h : Upto (is.map (·.1)) is.length f) : Hog.Idx is f := by
  have of' : ∀ x z, f x = some z → z < is.length ∧ Hog.nmP is z = x := fun x z hz => by
    obtain ⟨h1, h2⟩ := h.of x z hz
    refine ⟨h1, ?_⟩
    rw [List.getElem?_map] at h2
    obtain ⟨i, hi, e⟩ := Option.map_eq_some_iff.1 h2
    rw [Hog.nmP_at hi, e]
  refine ⟨fun z hz => ?_, of'⟩
  have h1 : is[z]? = some is[z] := List.getElem?_eq_getElem hz
  have hx : (is.map (·.1))[z]? = some (Hog.nmP is z) := by rw [List.getElem?_map, h1, Hog.nmP_at h1]; rfl
  obtain ⟨y, hy⟩ := Option.isSome_iff_exists.1 (h.at' z _ hz hx)
  have h2 := (h.of _ y hy).2
  have h3 := (List.getElem?_inj (List.getElem?_eq_some_iff.1 h2).1 hn).1 (h2.trans hx.symm)
  rw [hy, h3]

theorem row_same {w w' : World} {base : Nat} {e : TypeId} {size : Nat} {v : Value} {n : Nat} {xs : List Value} (h : w.ownsRow base e size v n xs) (k : ∀ b, v.ownBlock = some b → w'.heap[b]? = w.heap[b]?) : w'.ownsRow base e size v n xs := by
  refine ⟨h.1, ?_⟩
  rcases h.2 with h2 | ⟨b, cap, cur, rfl, hb, hg, r⟩
  · exact .inl h2
  · exact .inr ⟨b, cap, cur, rfl, hb, by rw [k b rfl]; exact hg, r⟩
theorem LkM.same {B U W n : Nat} {w w' : World} {cs : List Value} {ls : List (List Nat)} {ws : List Nat} (h : LkM B U W n w cs ls ws) (hs : w.heap.size ≤ w'.heap.size) (kU : w'.heap[U]? = w.heap[U]?) (kW : w'.heap[W]? = w.heap[W]?) (kr : ∀ (z : Nat) v k, cs[z]? = some v → v.ownBlock = some k → w'.heap[k]? = w.heap[k]?) : LkM B U W n w' cs ls ws :=
  ⟨h.hu, h.hw, h.ne, row_same h.tab (fun b e => by cases e; exact kU), row_same h.wait (fun b e => by cases e; exact kW), h.ll, h.wl, fun z v l hz hl => ⟨(h.row z v l hz hl).1, row_same (h.row z v l hz hl).2 (fun b e => kr z v b hz e)⟩, h.apart, Nat.le_trans h.hB hs⟩
theorem Rdy.kept {w w' : World} {g : Nat} {ns : List ByteArray} {L : List Nat} {a : Option Addr} {c : Nat} (h : Rdy H w g ns L a c) (kb : ∀ k, k < H → w'.heap[k]? = w.heap[k]?) (kg : w'.heap[g]? = w.heap[g]?) (kr : ∀ k, (Value.slice a L.length c).ownBlock = some k → w'.heap[k]? = w.heap[k]?) : Rdy H w' g ns L a c := by
  obtain ⟨na, nc, hb, hn⟩ := h.ex
  refine ⟨⟨na, nc, hb.same kg, fun j x hx => ?_⟩, row_same h.own kr, h.low, h.hH⟩
  obtain ⟨nb, no, e, h1, h2⟩ := hn j x hx
  exact ⟨nb, no, e, h1, (World.cell?_of_block (w := w) (a := ⟨nb, no + j, none⟩) (kb nb h1)).trans h2⟩

/-- Who waits for whom; the heap in block g; the places that came. -/
structure AtQ (H B U W n g : Nat) (w : World) (ns : List ByteArray) (cs : List Value) (ls : List (List Nat)) (ws L : List Nat) (a : Option Addr) (c : Nat) (P : List Nat) (pa : Option Addr) (pc : Nat) : Prop where
  lk : LkM B U W n w cs ls ws
  low : ∀ (z : Nat) v k, cs[z]? = some v → v.ownBlock = some k → k < g
  bg : B ≤ g
  hw : H ≤ W
  rdy : RdyH H w g ns L a c
  pl : OwnZ (g + 1) w (.slice pa P.length pc) (numK P)
  off : (Value.slice pa P.length pc).ownBlock = none ∨ (Value.slice pa P.length pc).ownBlock ≠ (Value.slice a L.length c).ownBlock
theorem AtQ.row {B U W n g : Nat} {w : World} {ns : List ByteArray} {cs : List Value} {ls : List (List Nat)} {ws L : List Nat} {a : Option Addr} {c : Nat} {P : List Nat} {pa : Option Addr} {pc : Nat} (h : AtQ H B U W n g w ns cs ls ws L a c P pa pc) {k : Nat} (e : (Value.slice a L.length c).ownBlock = some k) : g < k ∧ k < w.heap.size := by
  have := h.rdy.rdy.own.lt k e
  omega
theorem AtQ.prow {B U W n g : Nat} {w : World} {ns : List ByteArray} {cs : List Value} {ls : List (List Nat)} {ws L : List Nat} {a : Option Addr} {c : Nat} {P : List Nat} {pa : Option Addr} {pc : Nat} (h : AtQ H B U W n g w ns cs ls ws L a c P pa pc) {k : Nat} (e : (Value.slice pa P.length pc).ownBlock = some k) : g < k ∧ k < w.heap.size := by
  have := h.pl.lt k e
  omega
theorem AtQ.below {B U W n g : Nat} {w w' : World} {ns : List ByteArray} {cs : List Value} {ls : List (List Nat)} {ws L : List Nat} {a : Option Addr} {c : Nat} {P : List Nat} {pa : Option Addr} {pc : Nat} (h : AtQ H B U W n g w ns cs ls ws L a c P pa pc) (hb : Below w.heap.size w w') : AtQ H B U W n g w' ns cs ls ws L a c P pa pc :=
  ⟨h.lk.below hb, h.low, h.bg, h.hw, h.rdy.below hb, h.pl.below hb, h.off⟩
/-- Behind a call of the heap's. -/
theorem AtQ.heaped {B U W n g : Nat} {w w' : World} {ns : List ByteArray} {cs : List Value} {ls : List (List Nat)} {ws L L' : List Nat} {a a' : Option Addr} {c c' : Nat} {P : List Nat} {pa : Option Addr} {pc : Nat} (h : AtQ H B U W n g w ns cs ls ws L a c P pa pc)
    (k : Ke g (Value.slice a L.length c).ownBlock w w') (hr : RdyH H w' g ns L' a' c') (hs : Stays w (.slice a L.length c) (.slice a' L'.length c')) : AtQ H B U W n g w' ns cs ls ws L' a' c' P pa pc := by
  have hg := h.rdy.rdy.lt
  have low : ∀ j, j < g → w'.heap[j]? = w.heap[j]? := fun j hj => k.block j (by omega) (by omega) (fun e => by have := (h.row e.symm).1; omega)
  have hu := h.lk.hu
  have hw := h.lk.hw
  have hbg := h.bg
  refine ⟨h.lk.same k.size (low U (by omega)) (low W (by omega)) (fun z v j hz e => low j (h.low z v j hz e)), h.low, h.bg, h.hw, hr, row_same h.pl (fun b e => ?_), ?_⟩
  · have h1 := h.prow e
    refine k.block b h1.2 (by omega) (fun e2 => ?_)
    rcases h.off with h2 | h2
    · rw [h2] at e; cases e
    · exact h2 (e.trans e2)
  · cases hp : (Value.slice pa P.length pc).ownBlock with
    | none => exact .inl rfl
    | some b =>
      refine .inr fun e => ?_
      rcases hs with e2 | ⟨j, e2, hj⟩
      · rw [e2, ← hp] at e
        rcases h.off with h2 | h2
        · rw [h2] at hp; cases hp
        · exact h2 e
      · rw [e2] at e
        cases e
        have := (h.prow hp).2
        omega
/-- One more place has come. -/
theorem AtQ.came {B U W n g : Nat} {w w1 w2 : World} {ns : List ByteArray} {cs : List Value} {ls : List (List Nat)} {ws L : List Nat} {a : Option Addr} {c z : Nat} {P : List Nat} {pa : Option Addr} {pc : Nat} (h : AtQ H B U W n g w ns cs ls ws L a c P pa pc) (hb : Below w.heap.size w w1)
    {b2 : Option Addr} {c2 : Nat} (ho : OwnZ (g + 1) w2 (.slice b2 (P.length + 1) c2) (numK (P ++ [z]))) (hg : w1.grownBy w2 (Value.slice pa P.length pc).ownBlock) (hs : Stays w1 (.slice pa P.length pc) (.slice b2 (P.length + 1) c2)) :
    AtQ H B U W n g w2 ns cs ls ws L a c (P ++ [z]) b2 c2 := by
  have hgl := h.rdy.rdy.lt
  have low : ∀ j, j ≤ g → w2.heap[j]? = w.heap[j]? := fun j hj => (hg.block j (by have := hb.size; omega) (fun e => by have := (h.prow e.symm).1; omega)).trans (hb.block j (by omega))
  have hu := h.lk.hu
  have hw := h.lk.hw
  have hbg := h.bg
  have hH := h.rdy.rdy.hH
  refine ⟨h.lk.same (Nat.le_trans hb.size hg.size) (low U (by omega)) (low W (by omega)) (fun z v j hz e => low j (Nat.le_of_lt (h.low z v j hz e))), h.low, h.bg, h.hw, ⟨h.rdy.rdy.kept (fun k hk => low k (by omega)) (low g (Nat.le_refl _)) (fun k e => ?_), h.rdy.heap⟩, by rw [List.length_append]; exact ho, ?_⟩
  · have h1 := h.row e
    refine (hg.block k (by have := hb.size; omega) (fun e2 => ?_)).trans (hb.block k h1.2)
    rcases h.off with h2 | h2
    · rw [h2] at e2; cases e2
    · exact h2 (e2.symm.trans e.symm)
  · rw [List.length_append]
    refine .inr fun e => ?_
    have e0 : (Value.slice b2 (P.length + [z].length) c2).ownBlock = (Value.slice b2 (P.length + 1) c2).ownBlock := rfl
    rw [e0] at e
    have hne : (Value.slice b2 (P.length + 1) c2).ownBlock ≠ none := by
      rcases ho.2 with ⟨_, h0⟩ | ⟨q, cap, cur, e2, _⟩
      · rw [nums_len, List.length_append] at h0
        simp at h0
      · rw [e2]; simp [Value.ownBlock]
    rcases hs with e2 | ⟨j, e2, hj⟩
    · rw [e2] at e hne
      rcases h.off with h2 | h2
      · exact hne h2
      · exact h2 e
    · have := (h.row (e.symm.trans e2)).2
      have := hb.size
      omega
/-- One waits for so many now. -/
theorem AtQ.waited {B U W n g : Nat} {w : World} {ns : List ByteArray} {cs : List Value} {ls : List (List Nat)} {ws L : List Nat} {a : Option Addr} {c : Nat} {P : List Nat} {pa : Option Addr} {pc : Nat} (h : AtQ H B U W n g w ns cs ls ws L a c P pa pc) (k m : Nat) :
    AtQ H B U W n g (w.setCell ⟨W, k, none⟩ (.int .i64 m)) ns cs ls (ws.set k m) L a c P pa pc := by
  have hg := grown_setCell w W k (.int .i64 m)
  have hw := h.lk.hw
  have hbg := h.bg
  have hWs := h.lk.hB
  have hHW := h.hw
  have hgl := h.rdy.rdy.lt
  have other : ∀ j, j < w.heap.size → j ≠ W → (w.setCell ⟨W, k, none⟩ (.int .i64 m)).heap[j]? = w.heap[j]? := fun j hj hne => hg.block j hj (fun e => hne (Option.some.inj e))
  exact ⟨h.lk.counted k m, h.low, h.bg, h.hw, ⟨h.rdy.rdy.kept (fun j hj => other j (by omega) (by omega)) (other g hgl (by omega)) (fun j e => by have := h.row e; exact other j this.2 (by omega)), h.rdy.heap⟩, row_same h.pl (fun j e => by have := h.prow e; exact other j this.2 (by omega)), h.off⟩
end Go.Proofs.Yticpljjbnfimkaa
