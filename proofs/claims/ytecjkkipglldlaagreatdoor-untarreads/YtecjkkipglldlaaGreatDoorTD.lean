/- The writer in memory: what of it turns; appends of bytes 0 and of a text; its method zeros. -/
import Derived.Test.YtecjkkipglldlaaGreatDoorTC
namespace Go.Proofs.YtecjkkipglldlaaGreatDoor
open Go.RowKit

/-- Of what was there only the block g, and v's own row, have turned; v' lies where v lay, or in a new block. -/
structure Wrote (g : Nat) (w : World) (v : Value) (w' : World) (v' : Value) : Prop where
  os : w'.os = w.os
  tape : w'.tape = w.tape
  output : w'.output = w.output
  size : w.heap.size ≤ w'.heap.size
  block : ∀ k, k < w.heap.size → k ≠ g → v.ownBlock ≠ some k → w'.heap[k]? = w.heap[k]?
  stays : Stays w v v'
theorem Wrote.refl (g : Nat) (w : World) (v : Value) : Wrote g w v w v := ⟨rfl, rfl, rfl, Nat.le_refl _, fun _ _ _ _ => rfl, .inl rfl⟩
theorem Wrote.trans {g : Nat} {a b c : World} {v v1 v2 : Value} (h : Wrote g a v b v1) (k : Wrote g b v1 c v2) : Wrote g a v c v2 := by
  refine ⟨k.os.trans h.os, k.tape.trans h.tape, k.output.trans h.output, Nat.le_trans h.size k.size, fun i hi hg hn => ?_, ?_⟩
  · refine (k.block i (Nat.lt_of_lt_of_le hi h.size) hg ?_).trans (h.block i hi hg hn)
    rcases h.stays with e | ⟨q, e, hq⟩
    · rw [e]; exact hn
    · rw [e]; intro e2; cases e2; omega
  · rcases k.stays with e | ⟨q, e, hq⟩
    · rcases h.stays with e1 | ⟨q, e1, hq⟩
      · exact .inl (e.trans e1)
      · exact .inr ⟨q, e.trans e1, hq⟩
    · exact .inr ⟨q, e, Nat.le_trans h.size hq⟩
theorem Wrote.lays {g : Nat} {w w' : World} {v v' : Value} (h : Lays w v w' v') : Wrote g w v w' v' :=
  ⟨h.grown.os, h.grown.tape, h.grown.output, h.grown.size, fun k hk _ hn => h.grown.block k hk (fun e => hn e.symm), h.stays⟩
theorem Wrote.of {g : Nat} {w w' : World} {v : Value} (h : Below w.heap.size w w') : Wrote g w v w' v := ⟨h.os, h.tape, h.output, h.size, fun k hk _ _ => h.block k hk, .inl rfl⟩
theorem Wrote.stored (g : Nat) (w : World) (v : Value) (j : Nat) (x : Value) : Wrote g w v (w.setCell ⟨g, j, none⟩ x) v := by
  have h := grown_setCell w g j x
  exact ⟨h.os, h.tape, h.output, h.size, fun k hk hg _ => h.block k hk (fun e => hg (Option.some.inj e)), .inl rfl⟩
theorem Wrote.below {g base : Nat} {w w' : World} {v v' : Value} {l : List UInt8} (h : Wrote g w v w' v') (hg : base ≤ g) (ho : OwnB base w v l) (hB : base ≤ w.heap.size) : Below base w w' :=
  ⟨h.os, h.tape, h.output, h.size, fun k hk => h.block k (by omega) (by omega) (fun e => by have := (ho.lt k e).1; omega)⟩
theorem Wrote.cell {g : Nat} {w w' : World} {v v' : Value} (h : Wrote g w v w' v') {a : Addr} {x : Value} (hc : w.cell? a = some x) (hg : a.block ≠ g) (hn : v.ownBlock ≠ some a.block) : w'.cell? a = some x := by
  have hlt := World.block_lt_of_cell? w a hc
  rw [World.cell?_of_block (h.block a.block hlt hg hn)]
  exact hc
theorem Wrote.off {g : Nat} {w w' : World} {v v' : Value} (h : Wrote g w v w' v') {x : Nat} (hx : x < w.heap.size) (hv : v.ownBlock ≠ some x) : v'.ownBlock ≠ some x := by
  rcases h.stays with e | ⟨q, e, hq⟩
  · rw [e]; exact hv
  · rw [e]; intro e2; cases e2; omega

/-- In block g lies a writer that has laid the bytes l, as the slice v. -/
structure WrAt (w : World) (g base : Nat) (v : Value) (l : List UInt8) : Prop where
  box : w.heap[g]? = some (.cells #[v] 58 (0, 0))
  own : OwnB base w v l
  off : v.ownBlock ≠ some g
theorem WrAt.cell {w : World} {g base : Nat} {v : Value} {l : List UInt8} (h : WrAt w g base v l) : w.cell? ⟨g, 0, none⟩ = some v := by rw [cell_of_row w g 0 _ _ (0, 0) h.box]; rfl
theorem WrAt.free {w : World} {g base : Nat} {v : Value} {l : List UInt8} (h : WrAt w g base v l) : w.frozen? ⟨g, 0, none⟩ = false := frozen_of_row w g 0 _ _ h.box
theorem WrAt.lt {w : World} {g base : Nat} {v : Value} {l : List UInt8} (h : WrAt w g base v l) : g < w.heap.size := (Array.getElem?_eq_some_iff.1 h.box).1
theorem WrAt.below {w w' : World} {g base : Nat} {v : Value} {l : List UInt8} (h : WrAt w g base v l) (hb : Below w.heap.size w w') : WrAt w' g base v l :=
  ⟨by rw [hb.block g h.lt]; exact h.box, h.own.below hb, h.off⟩
theorem OwnB.aside {base : Nat} {w w' : World} {v : Value} {l : List UInt8} (h : OwnB base w v l) (he : ∀ k, v.ownBlock = some k → w'.heap[k]? = w.heap[k]?) : OwnB base w' v l := by
  refine ⟨h.1, ?_⟩
  rcases h.2 with h2 | ⟨g, cap, cur, rfl, hbs, hg, r⟩
  · exact .inl h2
  · exact .inr ⟨g, cap, cur, rfl, hbs, by rw [he g rfl]; exact hg, r⟩
/-- The box, as it was, and a slice that was laid on: stored into the box. -/
theorem WrAt.stored {w w1 : World} {g base : Nat} {v v1 : Value} {l l1 : List UInt8} (h : WrAt w g base v l) (hl : Lays w v w1 v1) (ho : OwnB base w1 v1 l1) : WrAt (w1.setCell ⟨g, 0, none⟩ v1) g base v1 l1 := by
  have hb : w1.heap[g]? = some (.cells #[v] 58 (0, 0)) := by rw [hl.grown.block g h.lt (fun e => h.off e.symm)]; exact h.box
  have hoff := hl.off h.lt h.off
  refine ⟨?_, ho.aside (fun k hk => Below.heap_setCell _ ⟨g, 0, none⟩ _ k (fun e => hoff (by rw [hk]; exact congrArg some e))), hoff⟩
  have h1 := heap_setCell_same w1 g 0 _ _ v1 hb
  rw [h1]; rfl
theorem WrAt.after {w w1 : World} {g base : Nat} {v v1 : Value} {l : List UInt8} (h : WrAt w g base v l) (hl : Lays w v w1 v1) : w1.cell? ⟨g, 0, none⟩ = some v ∧ w1.frozen? ⟨g, 0, none⟩ = false := by
  have hb : w1.heap[g]? = some (.cells #[v] 58 (0, 0)) := by rw [hl.grown.block g h.lt (fun e => h.off e.symm)]; exact h.box
  exact ⟨by rw [cell_of_row w1 g 0 _ _ (0, 0) hb]; rfl, frozen_of_row w1 g 0 _ _ hb⟩
theorem Wrote.laid {g : Nat} {w w1 : World} {v v1 : Value} (h : Lays w v w1 v1) : Wrote g w v (w1.setCell ⟨g, 0, none⟩ v1) v1 := (Wrote.lays h).trans (Wrote.stored g w1 v1 0 v1)

/-- As many bytes 0 more as a number says. -/
theorem run_zeros_where (w : World) (ty : TypeId) (base : Nat) (v : Value) (xs : List UInt8) (hown : OwnB base w v xs) (m n : Nat) (hn : xs.length = n) (zs : List UInt8) (hz : xs ++ Hog.zeros m = zs) (hlen : n + m < 1000000000) (hbase : base ≤ w.heap.size) :
    ∃ b c w', (Builtin.append_ #[22, 3] ty #[v, .int .i64 m]).run Tryz.prog w = .ok (.slice b (n + m) c) w' ∧ OwnB base w' (.slice b (n + m) c) zs ∧ Lays w v w' (.slice b (n + m) c) := by
  obtain ⟨i0, hi, hz0, hz1, hz2⟩ := info_parts A5
  subst hn
  subst hz
  obtain ⟨ao, c0, e0, ha⟩ := hown.arg
  have hs : (Hog.mk (Hog.zeros m)).size = m := by rw [Hog.mk_size, Hog.zeros_len]
  obtain ⟨v', w', hr, h2, h3, h4⟩ := run_append_where_str (P := Tryz.prog) w base 22 9 ty 5 i0 Tryz.underlying22 Tryz.underlying9 hi hz0 hz1 hz2 v xs.length (bcells xs) hown (Hog.mk (Hog.zeros m)) (by rw [hs]; unfold maxLen; omega) (by rw [hs]; omega) hbase
  rw [bcells_str, Hog.mk_data] at h2
  have h5 : OwnB base w' v' (xs ++ Hog.zeros m) := OwnB.joined h2
  obtain ⟨b, c', e⟩ := h5.form
  rw [List.length_append, Hog.zeros_len] at e
  subst e
  subst e0
  refine ⟨b, c', w', ?_, h5, ⟨h3, h4⟩⟩
  rw [run_append_zeros w 22 3 9 ty 5 i0 Tryz.underlying22 Tryz.underlying3 Tryz.underlying9 hi hz0 hz1 hz2 ao xs.length c0 m ha.cap hlen]
  exact hr
theorem wpList_append_zeros {w : World} {ops : Array Oper} {rest : List Oper} {o : Oper} {a : Act} {Q : Exit → Act → World → Prop} (hgd : o.guard = none) (s x : Operand)
    (ho : o.op = .call { callee := .builtin .append, args := #[s, x], argTypes := #[22, 3] })
    (base : Nat) (v : Value) (xs : List UInt8) (hs : a.eval s = v) (hown : OwnB base w v xs) (m : Nat) (hx : a.eval x = .int .i64 m)
    (n : Nat) (hn : xs.length = n) (zs : List UInt8) (hz : xs ++ Hog.zeros m = zs) (hlen : n + m < 1000000000) (hbase : base ≤ w.heap.size)
    (h : ∀ b c w', OwnB base w' (.slice b (n + m) c) zs → Lays w v w' (.slice b (n + m) c) → wpList Tryz.prog ops Q rest (a.put o.dst (.slice b (n + m) c)) w') : wpList Tryz.prog ops Q (o :: rest) a w := by
  refine wpList_plain hgd fun K hK => ?_
  obtain ⟨b, c, w', hr, h1, h2⟩ := run_zeros_where w o.type base v xs hown m n hn zs hz hlen hbase
  unfold Oper.wp execOp
  simp only [ho, resolve, invoke, builtin, Sem.run_bind, Sem.run_pure, Result.andThen_ok, List.map_toArray, List.map_cons, List.map_nil, hs, hx, hr]
  exact hK _ _ (h b c w' h1 h2)
/-- A text's bytes more, as one step of a region that draws its order. -/
theorem step_append_str {ops : Array Oper} {o : Oper} {a : Act} {w : World} {K : Act → World → Prop} {Q : Exit → Act → World → Prop} {E : Prop} (hgd : o.guard = none) (s x : Operand)
    (ho : o.op = .call { callee := .builtin .append, args := #[s, x], argTypes := #[22, 9] })
    (base : Nat) (v : Value) (xs : List UInt8) (hs : a.eval s = v) (hown : OwnB base w v xs) (t : ByteArray) (hx : a.eval x = .string t)
    (n m : Nat) (hn : xs.length = n) (hm : t.size = m) (zs : List UInt8) (hz : xs ++ t.data.toList = zs) (hlen : n + m < 1000000000) (hbase : base ≤ w.heap.size)
    (h : ∀ b c w', OwnB base w' (.slice b (n + m) c) zs → Lays w v w' (.slice b (n + m) c) → K (a.put o.dst (.slice b (n + m) c)) w') : if Region.wanted o (yielded ops a.tmps) = true then Oper.wp Tryz.prog o a w K Q else E := by
  have hw : Region.wanted o (yielded ops a.tmps) = true := by simp [Region.wanted, hgd]
  rw [if_pos hw]
  obtain ⟨i0, hi, hz0, hz1, hz2⟩ := info_parts A5
  subst hn
  subst hm
  subst hz
  obtain ⟨v', w', hr, h2, h3, h4⟩ := run_append_where_str (P := Tryz.prog) w base 22 9 o.type 5 i0 Tryz.underlying22 Tryz.underlying9 hi hz0 hz1 hz2 v xs.length (bcells xs) hown t (by unfold maxLen; omega) (by omega) hbase
  rw [bcells_str] at h2
  have h5 : OwnB base w' v' (xs ++ t.data.toList) := OwnB.joined h2
  obtain ⟨b, c', e⟩ := h5.form
  rw [List.length_append, ← Hog.size_len] at e
  subst e
  unfold Oper.wp execOp
  simp only [ho, resolve, invoke, builtin, Sem.run_bind, Sem.run_pure, Result.andThen_ok, List.map_toArray, List.map_cons, List.map_nil, hs, hx, hr]
  exact h b c' w' h5 ⟨h3, h4⟩

set_option maxHeartbeats 800000 in
theorem zerosW_ok (g base m n k : Nat) (i : Int) (v : Value) (l z : List UInt8) (w : World) (hw : WrAt w g base v l) (hbw : base ≤ w.heap.size) (hi : i = m) (hn : l.length = n) (hz : l ++ Hog.zeros m = z) (hk : n + m = k) (hlen : k < 1000000000) :
    Calls Tryz.prog 28 #[.pointer (some ⟨g, 0, none⟩), .int .i64 i] w fun e w' => e = .returned (.tuple #[]) ∧ ∃ b c, WrAt w' g base (.slice b k c) z ∧ Wrote g w v w' (.slice b k c) := by
  subst hi
  subst hk
  have HW := hide hw
  have HN := hide hn
  have HZ := hide hz
  have c0 := hw.cell
  clear hw hn hz
  go_enter Tryz.func28, Tryz.ntmps28
  go_wp2_with (at_builtin; refine wpList_append_zeros rfl _ _ rfl base _ l rfl HW.out.own m rfl n HN.out z HZ.out ?c1 hbw ?_)
  case c1 => omega
  intro b c w1 ho1 hl1
  have HO1 := hide ho1
  have HL1 := hide hl1
  obtain ⟨c1, f1⟩ := HW.out.after hl1
  clear ho1 hl1 c0
  go_wp2
  go_end0
  exact ⟨rfl, b, c, HW.out.stored HL1.out HO1.out, Wrote.laid HL1.out⟩
end Go.Proofs.YtecjkkipglldlaaGreatDoor
