/- Texts that stand together, joined: TC, TD, TE, TF, TG. -/
import Derived.Test.YtecjkkipglldlaaGreatDoorTB
import Derived.Laws.Rows
import Derived.Deep.QuietTactic
import Derived.BigQuiet
import Derived.Deep.RegionHeld
import Derived.BigRegion
import Derived.RegionTactic
import Derived.Test.YtecjkkipglldlaaGreatDoorJ4
/- The walks of package tar's small functions: beginning, filling, entryOf, records. -/
namespace Go.Proofs.YtecjkkipglldlaaGreatDoor
open Go.RowKit

set_option maxHeartbeats 400000 in
theorem beginning_ok (s : ByteArray) (l x : List UInt8) (w : World) (hs : s.data.toList = l) (hx : l.take 100 = x) :
    Calls Tryz.prog 41 #[.string s] w fun e w' => e = .returned (.string (Hog.mk x)) ∧ w' = w := by
  have hsl : s.size = l.length := by rw [← hs, Hog.size_len]
  by_cases h : s.size ≤ 100
  · have hm : min (s.size : Int) 100 = (s.size : Int) := by omega
    have HE : Hid (s = Hog.mk x) := by
      rw [← hx, List.take_of_length_le (by omega), ← hs, Hog.data_mk]
      exact hide rfl
    clear hs hx hsl
    go_enter Tryz.func41, Tryz.ntmps41
    go_wp2
    go_ret
    exact ⟨ret_str HE.out, rfl⟩
  · have hm : min (s.size : Int) 100 = 100 := by omega
    have hi : (100 : Int) ≤ (s.size : Int) := by omega
    have HE : Hid (s.extract 0 100 = Hog.mk x) := by
      apply hide
      apply ByteArray.ext
      rw [← hx, ← hs]
      unfold Hog.mk
      rw [← Array.toList_inj]
      simp
    clear hs hx hsl
    go_enter Tryz.func41, Tryz.ntmps41
    go_wp2
    go_ret
    exact ⟨ret_str HE.out, rfl⟩
set_option maxHeartbeats 400000 in
theorem filling_ok (n f : Nat) (w : World) (hn : n < 1000000000) (hf : Hog.fillN n = f) :
    Calls Tryz.prog 42 #[.int .i64 n] w fun e w' => e = .returned (.int .i64 f) ∧ w' = w := by
  obtain ⟨d, hd⟩ : ∃ d, d = n % 512 := ⟨_, rfl⟩
  have hd1 : (n : Int).tmod 512 = (d : Int) := by rw [Int.tmod_eq_emod_of_nonneg (by omega)]; omega
  have hd5 : d < 512 := by omega
  have hf1 : (512 - (d : Int)).tmod 512 = (f : Int) := by
    rw [Int.tmod_eq_emod_of_nonneg (by omega), ← hf]
    unfold Hog.fillN
    rw [← hd]
    omega
  have hf5 : f < 512 := by rw [← hf]; exact Hog.fillN_lt n
  clear hf hd
  go_enter Tryz.func42, Tryz.ntmps42
  go_wp2
  go_ret
  exact ⟨rfl, rfl⟩

theorem struct_entry : Tryz.prog.underlying 78 = some (.struct (Tryz.prog.fieldsOf 78)) := by kernel_rfl
theorem size_of_entry : (Tryz.prog.info? 78).map (·.size) = some 4 := by kernel_rfl
/-- An entry's cells. -/
def ecells (s : ByteArray) (k : Int) (t d : ByteArray) : Array Value := #[.string s, .int .i64 k, .string t, .string d]

set_option maxHeartbeats 800000 in
theorem entryOf_ok (n : Nd) (s t d : ByteArray) (w : World) (hs : (if n.1.data.toList = [] then ⟨#[46]⟩ else n.1) = s) (ht : (if n.2.1 = 4 then n.2.2 else ⟨#[]⟩) = t) (hd : (if n.2.1 = 4 then ⟨#[]⟩ else n.2.2) = d) :
    Calls Tryz.prog 38 #[.agg #[.string n.1, .int .i64 n.2.1, .string n.2.2]] w fun e w' => e = .returned (.agg #[.string s, .int .i64 n.2.1, .string t, .string d]) ∧ Below w.heap.size w w' := by
  obtain ⟨p, k, c⟩ := n
  simp only at hs ht hd ⊢
  by_cases h1 : p.data.toList = []
  · have n1 := nil_yes (s := p) rfl h1
    rw [if_pos h1] at hs
    clear h1
    by_cases h4 : k = 4
    · rw [if_pos h4] at ht hd
      have k4 : (k == 4) = true := by rw [beq_iff_eq]; exact h4
      subst hs ht hd
      clear h4
      go_enter Tryz.func38, Tryz.ntmps38
      go_wp2
      refine bodyPost_ret (results_cell_row rfl _ _ (w.heap.size + 1) 78 #[.string ⟨#[46]⟩, .int .i64 k, .string c, .string ⟨#[]⟩] (0, 0) _ rfl ?_ struct_entry rfl size_of_entry) rfl ?_
      · rw [heap_alloc_old _ _ (by simp)]
        have h := heap_alloc_new (w.alloc (.cells #[.string p, .int .i64 k, .string c] 38)) (.cells #[.string ⟨#[46]⟩, .int .i64 k, .string c, .string ⟨#[]⟩] 78)
        rw [World.size_alloc] at h
        exact h
      · exact ⟨rfl, ((below_box w _).trans ((below_box _ _).mono (by simp))).trans ((below_box _ _).mono (by rw [World.size_alloc, World.size_alloc]; omega))⟩
    · rw [if_neg h4] at ht hd
      have k4 : (k == 4) = false := by rw [beq_eq_false_iff_ne]; exact h4
      subst hs ht hd
      clear h4
      go_enter Tryz.func38, Tryz.ntmps38
      go_wp2
      refine bodyPost_ret (results_cell_row rfl _ _ (w.heap.size + 1) 78 #[.string ⟨#[46]⟩, .int .i64 k, .string ⟨#[]⟩, .string c] (0, 0) _ rfl ?_ struct_entry rfl size_of_entry) rfl ?_
      · rw [heap_alloc_old _ _ (by simp)]
        have h := heap_alloc_new (w.alloc (.cells #[.string p, .int .i64 k, .string c] 38)) (.cells #[.string ⟨#[46]⟩, .int .i64 k, .string ⟨#[]⟩, .string c] 78)
        rw [World.size_alloc] at h
        exact h
      · exact ⟨rfl, ((below_box w _).trans ((below_box _ _).mono (by simp))).trans ((below_box _ _).mono (by rw [World.size_alloc, World.size_alloc]; omega))⟩
  · have n1 := nil_no (s := p) rfl h1
    rw [if_neg h1] at hs
    clear h1
    by_cases h4 : k = 4
    · rw [if_pos h4] at ht hd
      have k4 : (k == 4) = true := by rw [beq_iff_eq]; exact h4
      subst hs ht hd
      clear h4
      go_enter Tryz.func38, Tryz.ntmps38
      go_wp2
      refine bodyPost_ret (results_cell_row rfl _ _ (w.heap.size + 1) 78 #[.string p, .int .i64 k, .string c, .string ⟨#[]⟩] (0, 0) _ rfl ?_ struct_entry rfl size_of_entry) rfl ?_
      · rw [heap_alloc_old _ _ (by simp)]
        have h := heap_alloc_new (w.alloc (.cells #[.string p, .int .i64 k, .string c] 38)) (.cells #[.string p, .int .i64 k, .string c, .string ⟨#[]⟩] 78)
        rw [World.size_alloc] at h
        exact h
      · exact ⟨rfl, ((below_box w _).trans ((below_box _ _).mono (by simp))).trans ((below_box _ _).mono (by rw [World.size_alloc, World.size_alloc]; omega))⟩
    · rw [if_neg h4] at ht hd
      have k4 : (k == 4) = false := by rw [beq_eq_false_iff_ne]; exact h4
      subst hs ht hd
      clear h4
      go_enter Tryz.func38, Tryz.ntmps38
      go_wp2
      refine bodyPost_ret (results_cell_row rfl _ _ (w.heap.size + 1) 78 #[.string p, .int .i64 k, .string ⟨#[]⟩, .string c] (0, 0) _ rfl ?_ struct_entry rfl size_of_entry) rfl ?_
      · rw [heap_alloc_old _ _ (by simp)]
        have h := heap_alloc_new (w.alloc (.cells #[.string p, .int .i64 k, .string c] 38)) (.cells #[.string p, .int .i64 k, .string ⟨#[]⟩, .string c] 78)
        rw [World.size_alloc] at h
        exact h
      · exact ⟨rfl, ((below_box w _).trans ((below_box _ _).mono (by simp))).trans ((below_box _ _).mono (by rw [World.size_alloc, World.size_alloc]; omega))⟩

theorem oneR_small {k l z : List UInt8} (hk : k.length ≤ 10) (hl : l.length ≤ 500) (hz : Hog.oneR k l = z) : (Hog.mk z).size ≤ 600 := by
  rw [Hog.mk_size, ← hz]
  have := Hog.oneR_len hk hl
  omega
theorem later_to {w w' : World} (h : ∃ p : Later w, w' = p.w1) : Below w.heap.size w w' := by
  obtain ⟨p, rfl⟩ := h
  exact p.below
set_option maxRecDepth 100000 in
set_option maxHeartbeats 1000000 in
theorem records_ok (s t d : ByteArray) (k : Int) (ls lt z : List UInt8) (w0 w : World) (hp : Pow w0) (hok : Ok w0 w) (hs : s.data.toList = ls) (ht : t.data.toList = lt) (hls : ls.length ≤ 500) (hlt : lt.length ≤ 500) (hz : Hog.oneR Hog.pathK ls ++ Hog.oneR Hog.linkK lt = z) :
    Calls Tryz.prog 39 #[.agg #[.string s, .int .i64 k, .string t, .string d]] w fun e w' => e = .returned (.string (Hog.mk z)) ∧ Ok w0 w' ∧ Below w.heap.size w w' := by
  obtain ⟨z1, hz1⟩ : ∃ z1, Hog.oneR Hog.pathK ls = z1 := ⟨_, rfl⟩
  obtain ⟨z2, hz2⟩ : ∃ z2, Hog.oneR Hog.linkK lt = z2 := ⟨_, rfl⟩
  have q1 : (Hog.mk z1).size ≤ 600 := oneR_small (by decide) hls hz1
  have q2 : (Hog.mk z2).size ≤ 600 := oneR_small (by decide) hlt hz2
  have HZ : Hid (Hog.mk z1 ++ Hog.mk z2 = Hog.mk z) := by rw [mk_join, ← hz, hz1, hz2]; exact hide rfl
  have hss : s.size ≤ 500 := by rw [Hog.size_len, hs]; exact hls
  have hts : t.size ≤ 500 := by rw [Hog.size_len, ht]; exact hlt
  obtain ⟨V, hV⟩ : ∃ V, V = w.alloc (.cells #[.string s, .int .i64 k, .string t, .string d] 78) := ⟨_, rfl⟩
  have hbV : Below w.heap.size w V := by rw [hV]; exact below_box _ _
  have okV : Ok w0 V := hok.next hbV
  have hlt2 : w.heap.size < V.heap.size := by rw [hV]; simp
  have c0 : V.cell? ⟨w.heap.size, 0, none⟩ = some (.string s) := by rw [hV]; simp
  have c2 : V.cell? ⟨w.heap.size, 2, none⟩ = some (.string t) := by rw [hV]; simp
  have f0 : ∀ p : Later V, p.w1.cell? ⟨w.heap.size, 0, none⟩ = some (.string s) := fun p => p.cell hlt2 c0
  have f2 : ∀ p : Later V, p.w1.cell? ⟨w.heap.size, 2, none⟩ = some (.string t) := fun p => p.cell hlt2 c2
  have HC1 : Hid (∀ p : Later V, Calls Tryz.prog 54 #[.string ⟨#[112, 97, 116, 104]⟩, .string s] p.w1 fun e w' => e = .returned (.string (Hog.mk z1)) ∧ Below p.w1.heap.size p.w1 w') := by
    intro p
    refine (recordO_ok ⟨#[112, 97, 116, 104]⟩ s Hog.pathK ls z1 w0 p.w1 hp (okV.next p.below) rfl hs (by rw [show (⟨#[112, 97, 116, 104]⟩ : ByteArray).size = 4 by rfl]; omega) hz1).mono ?_
    rintro e w' ⟨h1, _, h2⟩
    exact ⟨h1, h2⟩
  have HC2 : Hid (∀ p : Later V, Calls Tryz.prog 54 #[.string ⟨#[108, 105, 110, 107, 112, 97, 116, 104]⟩, .string t] p.w1 fun e w' => e = .returned (.string (Hog.mk z2)) ∧ Below p.w1.heap.size p.w1 w') := by
    intro p
    refine (recordO_ok ⟨#[108, 105, 110, 107, 112, 97, 116, 104]⟩ t Hog.linkK lt z2 w0 p.w1 hp (okV.next p.below) rfl ht (by rw [show (⟨#[108, 105, 110, 107, 112, 97, 116, 104]⟩ : ByteArray).size = 8 by rfl]; omega) hz2).mono ?_
    rintro e w' ⟨h1, _, h2⟩
    exact ⟨h1, h2⟩
  have hne := later_one V
  have HBV := hide hbV
  have HOV := hide okV
  have HV := hide hV.symm
  clear hz1 hz2 hz hs ht hls hlt c0 c2 hbV okV hV hss hts hp hok
  go_enter Tryz.func39, Tryz.ntmps39
  go_wp2_with fail
  rw [HV.out]
  refine wp_region_later (by kernel_rfl) (by kernel_rfl) ?_
  repeat (first
    | go_big_quiet_step ((first
      | (go_at_call 54; with_reducible exact Calls.later_of (HC1.out _))
      | (go_at_call 54; with_reducible exact Calls.later_of (HC2.out _))))
    | quiet_step ((first
      | (go_at_call 54; with_reducible exact Calls.later_of (HC1.out _))
      | (go_at_call 54; with_reducible exact Calls.later_of (HC2.out _)))))
  refine wpQuiet_nil ?_
  intro wa hw'
  have HBA := hide (later_to hw')
  clear hw' hne HC1 HC2 f0 f2
  go_wp2
  go_ret
  rw [HZ.out]
  exact ⟨rfl, HOV.out.next HBA.out, below_two HBV.out HBA.out⟩
end Go.Proofs.YtecjkkipglldlaaGreatDoor
/- The writer in memory: what of it turns; appends of bytes 0 and of a text; its method zeros. -/
namespace Go.Proofs.YtecjkkipglldlaaGreatDoor
open Go.RowKit

/-- Of what was there only the block g, and v's own row, have turned; v' lies where v lay, or in a new block. -/
structure Wrote (g : Nat) (w : World) (v : Value) (w' : World) (v' : Value) : Prop where
  os : w'.os = w.os
  tape : w'.tape = w.tape
  output : w'.output = w.output
  size : w.heap.size ≤ w'.heap.size
  block : ∀ k, k < w.heap.size → k ≠ g → v.ownBlock ≠ some k → w'.heap[k]? = w.heap[k]?
  stays : Stays w v v'
theorem Wrote.refl (g : Nat) (w : World) (v : Value) : Wrote g w v w v := ⟨rfl, rfl, rfl, Nat.le_refl _, fun _ _ _ _ => rfl, .inl rfl⟩
theorem Wrote.trans {g : Nat} {a b c : World} {v v1 v2 : Value} (h : Wrote g a v b v1) (k : Wrote g b v1 c v2) : Wrote g a v c v2 := by
  refine ⟨k.os.trans h.os, k.tape.trans h.tape, k.output.trans h.output, Nat.le_trans h.size k.size, fun i hi hg hn => ?_, ?_⟩
  · refine (k.block i (Nat.lt_of_lt_of_le hi h.size) hg ?_).trans (h.block i hi hg hn)
    rcases h.stays with e | ⟨q, e, hq⟩
    · rw [e]; exact hn
    · rw [e]; intro e2; cases e2; omega
  · rcases k.stays with e | ⟨q, e, hq⟩
    · rcases h.stays with e1 | ⟨q, e1, hq⟩
      · exact .inl (e.trans e1)
      · exact .inr ⟨q, e.trans e1, hq⟩
    · exact .inr ⟨q, e, Nat.le_trans h.size hq⟩
theorem Wrote.lays {g : Nat} {w w' : World} {v v' : Value} (h : Lays w v w' v') : Wrote g w v w' v' :=
  ⟨h.grown.os, h.grown.tape, h.grown.output, h.grown.size, fun k hk _ hn => h.grown.block k hk (fun e => hn e.symm), h.stays⟩
theorem Wrote.of {g : Nat} {w w' : World} {v : Value} (h : Below w.heap.size w w') : Wrote g w v w' v := ⟨h.os, h.tape, h.output, h.size, fun k hk _ _ => h.block k hk, .inl rfl⟩
theorem Wrote.stored (g : Nat) (w : World) (v : Value) (j : Nat) (x : Value) : Wrote g w v (w.setCell ⟨g, j, none⟩ x) v := by
  have h := grown_setCell w g j x
  exact ⟨h.os, h.tape, h.output, h.size, fun k hk hg _ => h.block k hk (fun e => hg (Option.some.inj e)), .inl rfl⟩
theorem Wrote.below {g base : Nat} {w w' : World} {v v' : Value} {l : List UInt8} (h : Wrote g w v w' v') (hg : base ≤ g) (ho : OwnB base w v l) (hB : base ≤ w.heap.size) : Below base w w' :=
  ⟨h.os, h.tape, h.output, h.size, fun k hk => h.block k (by omega) (by omega) (fun e => by have := (ho.lt k e).1; omega)⟩
theorem Wrote.cell {g : Nat} {w w' : World} {v v' : Value} (h : Wrote g w v w' v') {a : Addr} {x : Value} (hc : w.cell? a = some x) (hg : a.block ≠ g) (hn : v.ownBlock ≠ some a.block) : w'.cell? a = some x := by
  have hlt := World.block_lt_of_cell? w a hc
  rw [World.cell?_of_block (h.block a.block hlt hg hn)]
  exact hc
theorem Wrote.off {g : Nat} {w w' : World} {v v' : Value} (h : Wrote g w v w' v') {x : Nat} (hx : x < w.heap.size) (hv : v.ownBlock ≠ some x) : v'.ownBlock ≠ some x := by
  rcases h.stays with e | ⟨q, e, hq⟩
  · rw [e]; exact hv
  · rw [e]; intro e2; cases e2; omega

/-- In block g lies a writer that has laid the bytes l, as the slice v. -/
structure WrAt (w : World) (g base : Nat) (v : Value) (l : List UInt8) : Prop where
  box : w.heap[g]? = some (.cells #[v] 58 (0, 0))
  own : OwnB base w v l
  off : v.ownBlock ≠ some g
theorem WrAt.cell {w : World} {g base : Nat} {v : Value} {l : List UInt8} (h : WrAt w g base v l) : w.cell? ⟨g, 0, none⟩ = some v := by rw [cell_of_row w g 0 _ _ (0, 0) h.box]; rfl
theorem WrAt.free {w : World} {g base : Nat} {v : Value} {l : List UInt8} (h : WrAt w g base v l) : w.frozen? ⟨g, 0, none⟩ = false := frozen_of_row w g 0 _ _ h.box
theorem WrAt.lt {w : World} {g base : Nat} {v : Value} {l : List UInt8} (h : WrAt w g base v l) : g < w.heap.size := (Array.getElem?_eq_some_iff.1 h.box).1
theorem WrAt.below {w w' : World} {g base : Nat} {v : Value} {l : List UInt8} (h : WrAt w g base v l) (hb : Below w.heap.size w w') : WrAt w' g base v l :=
  ⟨by rw [hb.block g h.lt]; exact h.box, h.own.below hb, h.off⟩
theorem OwnB.aside {base : Nat} {w w' : World} {v : Value} {l : List UInt8} (h : OwnB base w v l) (he : ∀ k, v.ownBlock = some k → w'.heap[k]? = w.heap[k]?) : OwnB base w' v l := by
  refine ⟨h.1, ?_⟩
  rcases h.2 with h2 | ⟨g, cap, cur, rfl, hbs, hg, r⟩
  · exact .inl h2
  · exact .inr ⟨g, cap, cur, rfl, hbs, by rw [he g rfl]; exact hg, r⟩
/-- The box, as it was, and a slice that was laid on: stored into the box. -/
theorem WrAt.stored {w w1 : World} {g base : Nat} {v v1 : Value} {l l1 : List UInt8} (h : WrAt w g base v l) (hl : Lays w v w1 v1) (ho : OwnB base w1 v1 l1) : WrAt (w1.setCell ⟨g, 0, none⟩ v1) g base v1 l1 := by
  have hb : w1.heap[g]? = some (.cells #[v] 58 (0, 0)) := by rw [hl.grown.block g h.lt (fun e => h.off e.symm)]; exact h.box
  have hoff := hl.off h.lt h.off
  refine ⟨?_, ho.aside (fun k hk => Below.heap_setCell _ ⟨g, 0, none⟩ _ k (fun e => hoff (by rw [hk]; exact congrArg some e))), hoff⟩
  have h1 := heap_setCell_same w1 g 0 _ _ v1 hb
  rw [h1]; rfl
theorem WrAt.after {w w1 : World} {g base : Nat} {v v1 : Value} {l : List UInt8} (h : WrAt w g base v l) (hl : Lays w v w1 v1) : w1.cell? ⟨g, 0, none⟩ = some v ∧ w1.frozen? ⟨g, 0, none⟩ = false := by
  have hb : w1.heap[g]? = some (.cells #[v] 58 (0, 0)) := by rw [hl.grown.block g h.lt (fun e => h.off e.symm)]; exact h.box
  exact ⟨by rw [cell_of_row w1 g 0 _ _ (0, 0) hb]; rfl, frozen_of_row w1 g 0 _ _ hb⟩
theorem Wrote.laid {g : Nat} {w w1 : World} {v v1 : Value} (h : Lays w v w1 v1) : Wrote g w v (w1.setCell ⟨g, 0, none⟩ v1) v1 := (Wrote.lays h).trans (Wrote.stored g w1 v1 0 v1)

/-- As many bytes 0 more as a number says. -/
theorem run_zeros_where (w : World) (ty : TypeId) (base : Nat) (v : Value) (xs : List UInt8) (hown : OwnB base w v xs) (m n : Nat) (hn : xs.length = n) (zs : List UInt8) (hz : xs ++ Hog.zeros m = zs) (hlen : n + m < 1000000000) (hbase : base ≤ w.heap.size) :
    ∃ b c w', (Builtin.append_ #[22, 3] ty #[v, .int .i64 m]).run Tryz.prog w = .ok (.slice b (n + m) c) w' ∧ OwnB base w' (.slice b (n + m) c) zs ∧ Lays w v w' (.slice b (n + m) c) := by
  obtain ⟨i0, hi, hz0, hz1, hz2⟩ := info_parts A5
  subst hn
  subst hz
  obtain ⟨ao, c0, e0, ha⟩ := hown.arg
  have hs : (Hog.mk (Hog.zeros m)).size = m := by rw [Hog.mk_size, Hog.zeros_len]
  obtain ⟨v', w', hr, h2, h3, h4⟩ := run_append_where_str (P := Tryz.prog) w base 22 9 ty 5 i0 Tryz.underlying22 Tryz.underlying9 hi hz0 hz1 hz2 v xs.length (bcells xs) hown (Hog.mk (Hog.zeros m)) (by rw [hs]; unfold maxLen; omega) (by rw [hs]; omega) hbase
  rw [bcells_str, Hog.mk_data] at h2
  have h5 : OwnB base w' v' (xs ++ Hog.zeros m) := OwnB.joined h2
  obtain ⟨b, c', e⟩ := h5.form
  rw [List.length_append, Hog.zeros_len] at e
  subst e
  subst e0
  refine ⟨b, c', w', ?_, h5, ⟨h3, h4⟩⟩
  rw [run_append_zeros w 22 3 9 ty 5 i0 Tryz.underlying22 Tryz.underlying3 Tryz.underlying9 hi hz0 hz1 hz2 ao xs.length c0 m ha.cap hlen]
  exact hr
theorem wpList_append_zeros {w : World} {ops : Array Oper} {rest : List Oper} {o : Oper} {a : Act} {Q : Exit → Act → World → Prop} (hgd : o.guard = none) (s x : Operand)
    (ho : o.op = .call { callee := .builtin .append, args := #[s, x], argTypes := #[22, 3] })
    (base : Nat) (v : Value) (xs : List UInt8) (hs : a.eval s = v) (hown : OwnB base w v xs) (m : Nat) (hx : a.eval x = .int .i64 m)
    (n : Nat) (hn : xs.length = n) (zs : List UInt8) (hz : xs ++ Hog.zeros m = zs) (hlen : n + m < 1000000000) (hbase : base ≤ w.heap.size)
    (h : ∀ b c w', OwnB base w' (.slice b (n + m) c) zs → Lays w v w' (.slice b (n + m) c) → wpList Tryz.prog ops Q rest (a.put o.dst (.slice b (n + m) c)) w') : wpList Tryz.prog ops Q (o :: rest) a w := by
  refine wpList_plain hgd fun K hK => ?_
  obtain ⟨b, c, w', hr, h1, h2⟩ := run_zeros_where w o.type base v xs hown m n hn zs hz hlen hbase
  unfold Oper.wp execOp
  simp only [ho, resolve, invoke, builtin, Sem.run_bind, Sem.run_pure, Result.andThen_ok, List.map_toArray, List.map_cons, List.map_nil, hs, hx, hr]
  exact hK _ _ (h b c w' h1 h2)
/-- A text's bytes more, as one step of a region that draws its order. -/
theorem step_append_str {ops : Array Oper} {o : Oper} {a : Act} {w : World} {K : Act → World → Prop} {Q : Exit → Act → World → Prop} {E : Prop} (hgd : o.guard = none) (s x : Operand)
    (ho : o.op = .call { callee := .builtin .append, args := #[s, x], argTypes := #[22, 9] })
    (base : Nat) (v : Value) (xs : List UInt8) (hs : a.eval s = v) (hown : OwnB base w v xs) (t : ByteArray) (hx : a.eval x = .string t)
    (n m : Nat) (hn : xs.length = n) (hm : t.size = m) (zs : List UInt8) (hz : xs ++ t.data.toList = zs) (hlen : n + m < 1000000000) (hbase : base ≤ w.heap.size)
    (h : ∀ b c w', OwnB base w' (.slice b (n + m) c) zs → Lays w v w' (.slice b (n + m) c) → K (a.put o.dst (.slice b (n + m) c)) w') : if Region.wanted o (yielded ops a.tmps) = true then Oper.wp Tryz.prog o a w K Q else E := by
  have hw : Region.wanted o (yielded ops a.tmps) = true := by simp [Region.wanted, hgd]
  rw [if_pos hw]
  obtain ⟨i0, hi, hz0, hz1, hz2⟩ := info_parts A5
  subst hn
  subst hm
  subst hz
  obtain ⟨v', w', hr, h2, h3, h4⟩ := run_append_where_str (P := Tryz.prog) w base 22 9 o.type 5 i0 Tryz.underlying22 Tryz.underlying9 hi hz0 hz1 hz2 v xs.length (bcells xs) hown t (by unfold maxLen; omega) (by omega) hbase
  rw [bcells_str] at h2
  have h5 : OwnB base w' v' (xs ++ t.data.toList) := OwnB.joined h2
  obtain ⟨b, c', e⟩ := h5.form
  rw [List.length_append, ← Hog.size_len] at e
  subst e
  unfold Oper.wp execOp
  simp only [ho, resolve, invoke, builtin, Sem.run_bind, Sem.run_pure, Result.andThen_ok, List.map_toArray, List.map_cons, List.map_nil, hs, hx, hr]
  exact h b c' w' h5 ⟨h3, h4⟩

set_option maxHeartbeats 800000 in
theorem zerosW_ok (g base m n k : Nat) (i : Int) (v : Value) (l z : List UInt8) (w : World) (hw : WrAt w g base v l) (hbw : base ≤ w.heap.size) (hi : i = m) (hn : l.length = n) (hz : l ++ Hog.zeros m = z) (hk : n + m = k) (hlen : k < 1000000000) :
    Calls Tryz.prog 28 #[.pointer (some ⟨g, 0, none⟩), .int .i64 i] w fun e w' => e = .returned (.tuple #[]) ∧ ∃ b c, WrAt w' g base (.slice b k c) z ∧ Wrote g w v w' (.slice b k c) := by
  subst hi
  subst hk
  have HW := hide hw
  have HN := hide hn
  have HZ := hide hz
  have c0 := hw.cell
  clear hw hn hz
  go_enter Tryz.func28, Tryz.ntmps28
  go_wp2_with (at_builtin; refine wpList_append_zeros rfl _ _ rfl base _ l rfl HW.out.own m rfl n HN.out z HZ.out ?c1 hbw ?_)
  case c1 => omega
  intro b c w1 ho1 hl1
  have HO1 := hide ho1
  have HL1 := hide hl1
  obtain ⟨c1, f1⟩ := HW.out.after hl1
  clear ho1 hl1 c0
  go_wp2
  go_end0
  exact ⟨rfl, b, c, HW.out.stored HL1.out HO1.out, Wrote.laid HL1.out⟩
end Go.Proofs.YtecjkkipglldlaaGreatDoor
/- The writer's method lay. -/
namespace Go.Proofs.YtecjkkipglldlaaGreatDoor
open Go.RowKit

set_option maxRecDepth 100000 in
set_option maxHeartbeats 8000000 in
theorem layW_ok (g base n q : Nat) (v : Value) (l z : List UInt8) (s t d : ByteArray) (k : Int) (E : Hog.EntL) (w0 w : World) (hok : Ok w0 w) (hw : WrAt w g base v l) (h0 : w0.heap.size ≤ base) (hbg : base ≤ g) (hbw : base ≤ w.heap.size)
    (hn : s.data.toList = E.name) (hk : k = E.kind) (ht : t.data.toList = E.link) (hd : d.data.toList = E.data) (hf : Hog.Fits E) (hl : l.length = n) (hln : n ≤ 4000000) (hz : l ++ Hog.entL E = z) (hq : z.length = q) :
    Calls Tryz.prog 27 #[.pointer (some ⟨g, 0, none⟩), .agg #[.string s, .int .i64 k, .string t, .string d]] w fun e w' => e = .returned (.tuple #[]) ∧ ∃ b c, WrAt w' g base (.slice b q c) z ∧ Wrote g w v w' (.slice b q c) ∧ Ok w0 w' := by
  obtain ⟨x1, hx1⟩ : ∃ x, E.name.take 100 = x := ⟨_, rfl⟩
  obtain ⟨x2, hx2⟩ : ∃ x, E.link.take 100 = x := ⟨_, rfl⟩
  obtain ⟨hh, hhh⟩ : ∃ x, Hog.headE E = x := ⟨_, rfl⟩
  obtain ⟨f, hff⟩ : ∃ x, Hog.fillN E.data.length = x := ⟨_, rfl⟩
  have hds : d.size = E.data.length := by rw [← hd, Hog.size_len]
  have hd1 : d.size ≤ 1000 := by rw [hds]; exact hf.data
  have HMAY : Hid (Hog.May x1 k d.size x2) := by rw [hds, hk, ← hx1, ← hx2]; exact hide hf.may
  have HHL : Hid (hh.length = 512) := by rw [← hhh]; exact hide (Hog.headE_len hf)
  have HHE : Hid (Hog.headH x1 k d.size x2 = hh) := by rw [hds, hk, ← hx1, ← hx2, ← hhh]; exact hide rfl
  have HFF : Hid (Hog.fillN d.size = f) := by rw [hds]; exact hide hff
  have hf5 : f < 512 := by rw [← hff]; exact Hog.fillN_lt _
  obtain ⟨l1, hl1⟩ : ∃ x, l ++ hh = x := ⟨_, rfl⟩
  obtain ⟨l2, hl2⟩ : ∃ x, l1 ++ d.data.toList = x := ⟨_, rfl⟩
  have HL1L : Hid (l1.length = n + 512) := by rw [← hl1, List.length_append, hl, HHL.out]; exact hide rfl
  have HL2L : Hid (l2.length = n + 512 + d.size) := by rw [← hl2, List.length_append, HL1L.out, ← Hog.size_len]; exact hide rfl
  have HZ : Hid (l2 ++ Hog.zeros f = z) := by
    rw [← hz, ← hl2, ← hl1, hd]
    unfold Hog.entL
    rw [hhh, hff]
    exact hide (by simp only [List.append_assoc])
  have hqn : n + 512 + d.size + f = q := by
    rw [← hq, ← HZ.out, List.length_append, HL2L.out, Hog.zeros_len]
  have HQN := hide hqn
  have HN := hide hl
  have HL1 := hide hl1
  have HL2 := hide hl2
  have HS := hide hn
  have HT := hide ht
  have HX1 := hide hx1
  have HX2 := hide hx2
  obtain ⟨V, hV⟩ : ∃ V, V = w.alloc (.cells #[.string s, .int .i64 k, .string t, .string d] 78) := ⟨_, rfl⟩
  have hbV : Below w.heap.size w V := by rw [hV]; exact below_box _ _
  have HWV := hide (hw.below hbV)
  have hlt2 : w.heap.size < V.heap.size := by rw [hV]; simp
  have c0 : V.cell? ⟨w.heap.size, 0, none⟩ = some (.string s) := by rw [hV]; simp
  have c1 : V.cell? ⟨w.heap.size, 1, none⟩ = some (.int .i64 k) := by rw [hV]; simp
  have c2 : V.cell? ⟨w.heap.size, 2, none⟩ = some (.string t) := by rw [hV]; simp
  have c3 : V.cell? ⟨w.heap.size, 3, none⟩ = some (.string d) := by rw [hV]; simp
  have HC3 := hide c3
  have HOV := hide (hok.next hbV)
  have HBV := hide hbV
  have HV := hide hV.symm
  have HGW : Hid (w.heap.size ≠ g) := hide (by have := hw.lt; omega)
  have HVO : Hid (v.ownBlock ≠ some w.heap.size) := hide (fun e => by have := (hw.own.lt _ e).2; omega)
  have HW := hide hw
  have HOK := hide hok
  clear hx1 hx2 hhh hff hds hf hl1 hl2 hz hq hqn hl hn hk ht hd hV hbV hw hok
  go_enter Tryz.func27, Tryz.ntmps27
  go_wp2_with fail
  rw [HV.out]
  have hS0 : Below V.heap.size V V.drew := (Below.refl _ V).drew
  refine wp_region_held (S := fun w' => Below V.heap.size V w') (by kernel_rfl) ?_
  change wpAnyH _ _ _ _ _ _ _ _ (World.drew _)
  refine wpAnyH_take (i := 0) (v := (.pointer (some ⟨w.heap.size, 0, none⟩))) rfl (by kernel_rfl) (by kernel_rfl) (by kernel_rfl) (fun _ _ _ h => h) (Or.inl ⟨by kernel_rfl, ?_⟩) hS0 ?_
  · intro w' hw'
    go_simp
  refine wpAnyH_take (i := 1) (v := (.string s)) rfl (by kernel_rfl) (by kernel_rfl) (by kernel_rfl) (fun _ _ _ h => h) (Or.inl ⟨by kernel_rfl, ?_⟩) hS0 ?_
  · intro w' hw'
    have y := (hw'.cell (p := ⟨w.heap.size, 0, none⟩) hlt2).trans c0
    go_simp
  refine wpAnyH_take (i := 3) (v := (.pointer (some ⟨w.heap.size, 1, none⟩))) rfl (by kernel_rfl) (by kernel_rfl) (by kernel_rfl) (fun _ _ _ h => h) (Or.inl ⟨by kernel_rfl, ?_⟩) hS0 ?_
  · intro w' hw'
    go_simp
  refine wpAnyH_take (i := 4) (v := (.int .i64 k)) rfl (by kernel_rfl) (by kernel_rfl) (by kernel_rfl) (fun _ _ _ h => h) (Or.inl ⟨by kernel_rfl, ?_⟩) hS0 ?_
  · intro w' hw'
    have y := (hw'.cell (p := ⟨w.heap.size, 1, none⟩) hlt2).trans c1
    go_simp
  refine wpAnyH_take (i := 5) (v := (.pointer (some ⟨w.heap.size, 3, none⟩))) rfl (by kernel_rfl) (by kernel_rfl) (by kernel_rfl) (fun _ _ _ h => h) (Or.inl ⟨by kernel_rfl, ?_⟩) hS0 ?_
  · intro w' hw'
    go_simp
  refine wpAnyH_take (i := 6) (v := (.string d)) rfl (by kernel_rfl) (by kernel_rfl) (by kernel_rfl) (fun _ _ _ h => h) (Or.inl ⟨by kernel_rfl, ?_⟩) hS0 ?_
  · intro w' hw'
    have y := (hw'.cell (p := ⟨w.heap.size, 3, none⟩) hlt2).trans c3
    go_simp
  refine wpAnyH_take (i := 7) (v := (.int .i64 d.size)) rfl (by kernel_rfl) (by kernel_rfl) (by kernel_rfl) (fun _ _ _ h => h) (Or.inl ⟨by kernel_rfl, ?_⟩) hS0 ?_
  · intro w' hw'
    go_simp
  refine wpAnyH_take (i := 8) (v := (.pointer (some ⟨w.heap.size, 2, none⟩))) rfl (by kernel_rfl) (by kernel_rfl) (by kernel_rfl) (fun _ _ _ h => h) (Or.inl ⟨by kernel_rfl, ?_⟩) hS0 ?_
  · intro w' hw'
    go_simp
  refine wpAnyH_take (i := 9) (v := (.string t)) rfl (by kernel_rfl) (by kernel_rfl) (by kernel_rfl) (fun _ _ _ h => h) (Or.inl ⟨by kernel_rfl, ?_⟩) hS0 ?_
  · intro w' hw'
    have y := (hw'.cell (p := ⟨w.heap.size, 2, none⟩) hlt2).trans c2
    go_simp
  refine wpAnyH_ready (rs := [2]) (by kernel_rfl) (by simp) (AllReadyH.cons rfl (fun K hK => ?_) AllReadyH.nil)
  go_simp
  refine (show Calls _ _ _ _ _ from beginning_ok s E.name x1 _ HS.out HX1.out).mono ?_
  rintro e _ ⟨rfl, rfl⟩
  go_simp
  refine hK.out _ _ hS0 (fun _ => ?_)
  clear hK K
  refine wpAnyH_ready (rs := [10]) (by kernel_rfl) (by simp) (AllReadyH.cons rfl (fun K hK => ?_) AllReadyH.nil)
  go_simp
  refine (show Calls _ _ _ _ _ from beginning_ok t E.link x2 _ HT.out HX2.out).mono ?_
  rintro e _ ⟨rfl, rfl⟩
  go_simp
  refine hK.out _ _ hS0 (fun _ => ?_)
  clear hK K
  refine wpAnyH_ready (rs := [11]) (by kernel_rfl) (by simp) (AllReadyH.cons rfl (fun K hK => ?_) AllReadyH.nil)
  go_simp
  refine (show Calls _ _ _ _ _ from lay_good (Hog.mk x1) (Hog.mk x2) x1 x2 k d.size w0 V.drew (HOV.out.next hS0) (Hog.mk_data x1) (Hog.mk_data x2) HMAY.out).mono ?_
  rintro e w1 ⟨G, rfl, hG, hrow, ok1, hb1⟩
  have hS1 : Below V.heap.size V w1 := below_two hS0 hb1
  go_simp
  refine hK.out _ _ hS1 (fun _ => ?_)
  clear hK K
  refine wpAnyH_take (i := 12) (v := (.tuple #[.slice (some ⟨G, 0, none⟩) 512 512, .bool true])) rfl (by kernel_rfl) (by kernel_rfl) (by kernel_rfl) (fun _ _ _ h => h) (Or.inl ⟨by kernel_rfl, ?_⟩) hS1 ?_
  · intro w' hw'
    go_simp
  refine wpAnyH_take (i := 13) (v := (.slice (some ⟨G, 0, none⟩) 512 512)) rfl (by kernel_rfl) (by kernel_rfl) (by kernel_rfl) (fun _ _ _ h => h) (Or.inl ⟨by kernel_rfl, ?_⟩) hS1 ?_
  · intro w' hw'
    go_simp
  refine wpAnyH_take (i := 15) (v := (.slice (some ⟨G, 0, none⟩) 512 512)) rfl (by kernel_rfl) (by kernel_rfl) (by kernel_rfl) (fun _ _ _ h => h) (Or.inl ⟨by kernel_rfl, ?_⟩) hS1 ?_
  · intro w' hw'
    go_simp
  refine wpAnyH_take (i := 14) (v := (.bool true)) rfl (by kernel_rfl) (by kernel_rfl) (by kernel_rfl) (fun _ _ _ h => h) (Or.inl ⟨by kernel_rfl, ?_⟩) hS1 ?_
  · intro w' hw'
    go_simp
  refine wpAnyH_take (i := 16) (v := (.bool true)) rfl (by kernel_rfl) (by kernel_rfl) (by kernel_rfl) (fun _ _ _ h => h) (Or.inl ⟨by kernel_rfl, ?_⟩) hS1 ?_
  · intro w' hw'
    go_simp
  refine wpAnyH_done (by kernel_rfl) ?_ _
  rw [HHE.out] at hrow
  have HR1 := hide hrow
  have HW1 := hide (HWV.out.below hS1)
  have HB1 := hide (below_two HBV.out hS1)
  have HOK1 := hide ok1
  have HC31 : Hid (w1.cell? ⟨w.heap.size, 3, none⟩ = some (.string d)) := hide ((hS1.cell (p := ⟨w.heap.size, 3, none⟩) hlt2).trans HC3.out)
  have hbw1 : base ≤ w1.heap.size := Nat.le_trans hbw HB1.out.size
  have HLT1 : Hid (w.heap.size < w1.heap.size) := hide (by have := hS1.size; omega)
  have g0 := HW1.out.cell
  clear hS0 hS1 hb1 hrow ok1 hG c0 c1 c2 c3 hlt2 HWV HBV HOV HC3
  go_wp2_with (at_builtin; refine wpList_append_bytes rfl _ _ rfl base _ l rfl HW1.out.own _ 512 512 hh rfl (HR1.out.arg HHL.out (Nat.le_refl _)) n HN.out l1 HL1.out ?b1 hbw1 ?_)
  case b1 => omega
  intro b2 c2 w2 ho2 hl2
  have HO2 := hide ho2
  have HL2' := hide hl2
  obtain ⟨g1, f1⟩ := HW1.out.after hl2
  clear ho2 hl2 g0
  go_wp2
  obtain ⟨U, hU⟩ : ∃ U, U = w2.setCell ⟨g, 0, none⟩ (.slice b2 (n + 512) c2) := ⟨_, rfl⟩
  have HWU : Hid (WrAt U g base (.slice b2 (n + 512) c2) l1) := by rw [hU]; exact hide (HW1.out.stored HL2'.out HO2.out)
  have hWR : Wrote g w1 v U (.slice b2 (n + 512) c2) := by rw [hU]; exact Wrote.laid HL2'.out
  have hc3 : U.cell? ⟨w.heap.size, 3, none⟩ = some (.string d) := hWR.cell HC31.out HGW.out HVO.out
  have HVU := hide (hWR.off HLT1.out HVO.out)
  have HWRU := hide ((Wrote.of (g := g) (v := v) HB1.out).trans hWR)
  have hbU : base ≤ U.heap.size := Nat.le_trans hbw1 hWR.size
  have HU : Hid (w2.setCell ⟨g, 0, none⟩ (.slice b2 (n + 512) c2) = U) := hide hU.symm
  rw [HU.out]
  have hS0 : U.drew.cell? ⟨w.heap.size, 3, none⟩ = some (.string d) := hc3
  have HWD := hide (HWU.out.below ((Below.refl _ U).drew))
  have g2 : U.drew.cell? ⟨g, 0, none⟩ = some (.slice b2 (n + 512) c2) := HWD.out.cell
  have HLTU : Hid (w.heap.size < U.heap.size) := hide (Nat.lt_of_lt_of_le HLT1.out hWR.size)
  clear g1 f1 hWR hc3 hU HU HWU HW1 HO2 HL2' HVO HC31 HB1 HLT1 hbw1 HR1 HMAY HHE HHL
  refine wp_region_held (S := fun w' => w'.cell? ⟨w.heap.size, 3, none⟩ = some (.string d)) (by kernel_rfl) ?_
  change wpAnyH _ _ _ _ _ _ _ _ (World.drew _)
  refine wpAnyH_take (i := 0) (v := (.pointer (some ⟨g, 0, none⟩))) rfl (by kernel_rfl) (by kernel_rfl) (by kernel_rfl) (fun _ _ _ h => h) (Or.inl ⟨by kernel_rfl, ?_⟩) hS0 ?_
  · intro w' hw'
    go_simp
  refine wpAnyH_take (i := 1) (v := (.pointer (some ⟨g, 0, none⟩))) rfl (by kernel_rfl) (by kernel_rfl) (by kernel_rfl) (fun _ _ _ h => h) (Or.inl ⟨by kernel_rfl, ?_⟩) hS0 ?_
  · intro w' hw'
    go_simp
  refine wpAnyH_take (i := 2) (v := (.pointer (some ⟨g, 0, none⟩))) rfl (by kernel_rfl) (by kernel_rfl) (by kernel_rfl) (fun _ _ _ h => h) (Or.inl ⟨by kernel_rfl, ?_⟩) hS0 ?_
  · intro w' hw'
    go_simp
  refine wpAnyH_take (i := 3) (v := (.pointer (some ⟨g, 0, none⟩))) rfl (by kernel_rfl) (by kernel_rfl) (by kernel_rfl) (fun _ _ _ h => h) (Or.inl ⟨by kernel_rfl, ?_⟩) hS0 ?_
  · intro w' hw'
    go_simp
  refine wpAnyH_take (i := 5) (v := (.pointer (some ⟨w.heap.size, 3, none⟩))) rfl (by kernel_rfl) (by kernel_rfl) (by kernel_rfl) (fun _ _ _ h => h) (Or.inl ⟨by kernel_rfl, ?_⟩) hS0 ?_
  · intro w' hw'
    go_simp
  refine wpAnyH_take (i := 6) (v := (.string d)) rfl (by kernel_rfl) (by kernel_rfl) (by kernel_rfl) (fun _ _ _ h => h) (Or.inl ⟨by kernel_rfl, ?_⟩) hS0 ?_
  · intro w' hw'
    go_simp
  refine wpAnyH_ready (rs := [4]) (by kernel_rfl) (by simp) (AllReadyH.cons rfl (fun K hK => ?_) AllReadyH.nil)
  go_simp
  refine hK.out _ _ hS0 (fun _ => ?_)
  clear hK K
  refine wpAnyH_ready (rs := [7]) (by kernel_rfl) (by simp) (AllReadyH.cons rfl (fun K hK => ?_) AllReadyH.nil)
  refine step_append_str rfl (.tmp 34) (.tmp 36) rfl base (.slice b2 (n + 512) c2) l1 (by first | (simp [Act.eval]; done) | simp [Act.eval, Act.put]) HWD.out.own d (by first | (simp [Act.eval]; done) | simp [Act.eval, Act.put]) (n + 512) d.size HL1L.out rfl l2 HL2.out (by omega) hbU ?_
  intro b3 c3 w3 ho3 hl3
  have HO3 := hide ho3
  have HL3 := hide hl3
  obtain ⟨g3, f3⟩ := HWD.out.after hl3
  have hS3 : w3.cell? ⟨w.heap.size, 3, none⟩ = some (.string d) := (Wrote.lays (g := g) hl3).cell hS0 HGW.out HVU.out
  clear ho3 hl3
  refine hK.out _ _ hS3 (fun _ => ?_)
  clear hK K
  refine wpAnyH_take (i := 8) (v := (.pointer (some ⟨g, 0, none⟩))) rfl (by kernel_rfl) (by kernel_rfl) (by kernel_rfl) (fun _ _ _ h => h) (Or.inl ⟨by kernel_rfl, ?_⟩) hS3 ?_
  · intro w' hw'
    go_simp
  refine wpAnyH_take (i := 9) (v := (.pointer (some ⟨g, 0, none⟩))) rfl (by kernel_rfl) (by kernel_rfl) (by kernel_rfl) (fun _ _ _ h => h) (Or.inl ⟨by kernel_rfl, ?_⟩) hS3 ?_
  · intro w' hw'
    go_simp
  refine wpAnyH_ready (rs := [10]) (by kernel_rfl) (by simp) (AllReadyH.cons rfl (fun K hK => ?_) AllReadyH.nil)
  go_simp
  obtain ⟨U2, hU2⟩ : ∃ U, U = w3.setCell ⟨g, 0, none⟩ (.slice b3 (n + 512 + d.size) c3) := ⟨_, rfl⟩
  have HWU2 : Hid (WrAt U2 g base (.slice b3 (n + 512 + d.size) c3) l2) := by rw [hU2]; exact hide (HWD.out.stored HL3.out HO3.out)
  have hWR2 : Wrote g U.drew (.slice b2 (n + 512) c2) U2 (.slice b3 (n + 512 + d.size) c3) := by rw [hU2]; exact Wrote.laid HL3.out
  have hS4 : U2.cell? ⟨w.heap.size, 3, none⟩ = some (.string d) := hWR2.cell hS0 HGW.out HVU.out
  have HWRU2 := hide ((HWRU.out.trans (Wrote.of ((Below.refl _ U).drew))).trans hWR2)
  have hbU2 : base ≤ U2.heap.size := Nat.le_trans hbU hWR2.size
  have HU2 : Hid (w3.setCell ⟨g, 0, none⟩ (.slice b3 (n + 512 + d.size) c3) = U2) := hide hU2.symm
  rw [HU2.out]
  refine hK.out _ _ hS4 (fun _ => ?_)
  clear hK K g2 g3 f3 hS0 hS3 HO3 HL3 hU2 HU2 hWR2 HWD HWRU HVU HLTU hbU
  refine wpAnyH_done (by kernel_rfl) ?_ _
  go_wp2_with fail
  refine (filling_ok d.size f U2 (by omega) HFF.out).mono ?_
  rintro e w4 ⟨rfl, h4⟩
  have h5 := h4.symm
  subst h5
  clear h4
  go_wp2_with fail
  refine (zerosW_ok g base f (n + 512 + d.size) q f _ l2 z U2 HWU2.out hbU2 rfl HL2L.out HZ.out HQN.out (by have := HQN.out; omega)).mono ?_
  rintro e w5 ⟨rfl, b5, c5, hw5, hr5⟩
  have HW5 := hide hw5
  have HR5 := hide (HWRU2.out.trans hr5)
  clear hw5 hr5
  go_wp2
  go_end0
  exact ⟨rfl, b5, c5, HW5.out, HR5.out, HOK.out.step ((HR5.out.below hbg HW.out.own hbw).mono h0)⟩
end Go.Proofs.YtecjkkipglldlaaGreatDoor
/- The walks of package tar's each, over a writer and over a counter. -/
namespace Go.Proofs.YtecjkkipglldlaaGreatDoor
open Go.RowKit

theorem entE_name (x : Nd) (s : ByteArray) (h : (if x.1.data.toList = [] then ⟨#[46]⟩ else x.1) = s) : s.data.toList = (Hog.entE x).name := by
  rw [← h]
  unfold Hog.entE
  simp only
  split <;> rfl
theorem entE_link (x : Nd) (s : ByteArray) (h : (if x.2.1 = 4 then x.2.2 else ⟨#[]⟩) = s) : s.data.toList = (Hog.entE x).link := by
  rw [← h]
  unfold Hog.entE
  simp only
  split <;> rfl
theorem entE_data (x : Nd) (s : ByteArray) (h : (if x.2.1 = 4 then ⟨#[]⟩ else x.2.2) = s) : s.data.toList = (Hog.entE x).data := by
  rw [← h]
  unfold Hog.entE
  simp only
  split <;> rfl
theorem some_text {z : List UInt8} (h : z ≠ []) : (Hog.mk z).toList.isEmpty = false := by rw [Hog.mk_toList]; cases z with | nil => exact absurd rfl h | cons _ _ => rfl
theorem none_text : (Hog.mk []).toList.isEmpty = true := by rw [Hog.mk_toList]; rfl

set_option maxRecDepth 100000 in
set_option maxHeartbeats 4000000 in
theorem eachW_ok (bt ot ct n g base q0 : Nat) (t : List Nd) (b0 : Option Addr) (c0' : Nat) (z : List UInt8) (w0 w : World) (hp : Pow w0) (hok : Ok w0 w) (hw : WrAt w g base (.slice b0 0 c0') []) (h0 : w0.heap.size ≤ base) (hbg : base ≤ g) (hbw : base ≤ w.heap.size)
    (hr : Run w bt ot t) (hbt : bt < base) (hn : t.length = n) (hn4 : n ≤ 400) (hct : n ≤ ct) (hg : ∀ x ∈ t, Hog.NodeG x) (hz : Hog.treeT t = z) (hq0 : z.length = q0) :
    Calls Tryz.prog 26 #[.slice (some ⟨bt, ot, none⟩) n ct, .func (.func 27) #[.pointer (some ⟨g, 0, none⟩)] #[]] w fun e w' => e = .returned (.tuple #[]) ∧ ∃ b c, WrAt w' g base (.slice b q0 c) z ∧ Below base w w' ∧ Ok w0 w' := by
  have HP := hide hp
  have HOK := hide hok
  have HW := hide hw
  have HR := hide hr
  have HN := hide hn
  have HG := hide hg
  have HZ := hide hz
  have HQ0 := hide hq0
  clear hp hok hw hr hn hg hz hq0
  go_enter Tryz.func26, Tryz.ntmps26
  go_wp2
  go_loopw [10] (fun i wr => ∃ (k q : Nat) (b : Option Addr) (c : Nat), k ≤ n ∧ i = .int .i64 k ∧ Hid (q = (Hog.treeT (t.take k)).length) ∧ Hid (WrAt wr g base (.slice b q c) (Hog.treeT (t.take k))) ∧ Below base w wr) (fun i _ => n - (intOf i).toNat)
  case atStart => exact ⟨0, 0, b0, c0', by omega, rfl, by simp [Hid, Hog.treeT], by simpa [Hid, Hog.treeT] using HW.out, Below.refl _ _⟩
  case round =>
    obtain ⟨k, q, b, c, hk, rfl, HQ, HO, hbl⟩ := hrel
    by_cases hlt : k < n
    · obtain ⟨x, hx⟩ : ∃ x, t[k]? = some x := ⟨t[k]'(by have := HN.out; omega), List.getElem?_eq_some_iff.2 ⟨_, rfl⟩⟩
      obtain ⟨g1, g2, g3⟩ := (HR.out.2 k x hx).below hbl hbt
      have hki : (k : Int) < (n : Int) := by omega
      have HST := hide (Hog.treeT_step hx)
      have HXG := hide (HG.out x (List.mem_of_getElem? hx))
      have HXF := hide (Hog.entE_fits HXG.out)
      have hq1 : q ≤ 1228800 := by rw [HQ.out]; exact Hog.treeT_le HG.out (by rw [HN.out]; exact hn4) k
      obtain ⟨s, hs⟩ : ∃ s, (if x.1.data.toList = [] then (⟨#[46]⟩ : ByteArray) else x.1) = s := ⟨_, rfl⟩
      obtain ⟨l, hl⟩ : ∃ s, (if x.2.1 = 4 then x.2.2 else (⟨#[]⟩ : ByteArray)) = s := ⟨_, rfl⟩
      obtain ⟨d, hd⟩ : ∃ s, (if x.2.1 = 4 then (⟨#[]⟩ : ByteArray) else x.2.2) = s := ⟨_, rfl⟩
      have HS := hide hs
      have HL := hide hl
      have HD := hide hd
      have HSN := hide (entE_name x s hs)
      have HLN := hide (entE_link x l hl)
      have HDN := hide (entE_data x d hd)
      obtain ⟨z1, hz1⟩ : ∃ z, Hog.recsE (Hog.entE x) = z := ⟨_, rfl⟩
      have HZ1 := hide hz1
      have HZL : Hid (z1.length ≤ 832) := by rw [← hz1]; exact hide (Hog.recsE_len HXF.out)
      have hbr : base ≤ wr.heap.size := Nat.le_trans hbw hbl.size
      have HOKR := hide (HOK.out.step (hbl.mono h0))
      have HBL := hide hbl
      clear hx hs hl hd hz1 hbl
      go_wp2_with fail
      refine (entryOf_ok x s l d _ HS.out HL.out HD.out).mono ?_
      rintro e w2 ⟨rfl, hb2⟩
      have HB2 := hide ((below_box wr _).trans (hb2.mono (by simp)))
      clear hb2
      go_wp2_with fail
      obtain ⟨W, hW⟩ : ∃ W, W = w2.alloc (.cells #[.string s, .int .i64 x.2.1, .string l, .string d] 78) := ⟨_, rfl⟩
      have hbW : Below wr.heap.size wr W := by rw [hW]; exact below_two HB2.out (below_box _ _)
      have e0 : W.cell? ⟨w2.heap.size, 0, none⟩ = some (.string s) := by rw [hW]; simp
      have e1 : W.cell? ⟨w2.heap.size, 1, none⟩ = some (.int .i64 x.2.1) := by rw [hW]; simp
      have e2 : W.cell? ⟨w2.heap.size, 2, none⟩ = some (.string l) := by rw [hW]; simp
      have e3 : W.cell? ⟨w2.heap.size, 3, none⟩ = some (.string d) := by rw [hW]; simp
      have h2W : w2.heap.size < W.heap.size := by rw [hW]; simp
      have HWW : Hid (w2.alloc (.cells #[.string s, .int .i64 x.2.1, .string l, .string d] 78) = W) := hide hW.symm
      have h2g : w2.heap.size ≠ g := by have := HO.out.lt; have := HB2.out.size; omega
      have HVO : Hid ((Value.slice b q c).ownBlock ≠ some w2.heap.size) := hide (fun e => by have := (HO.out.own.lt _ e).2; have := HB2.out.size; omega)
      rw [HWW.out]
      clear hW
      refine (records_ok s l d x.2.1 (Hog.entE x).name (Hog.entE x).link z1 w0 W HP.out (HOKR.out.next hbW) HSN.out HLN.out (by have := HXF.out.name; omega) HXF.out.link HZ1.out).mono ?_
      rintro e w3 ⟨rfl, ok3, hb3⟩
      have HB3 := hide (below_two hbW hb3)
      have i0 := (hb3.cell (p := ⟨w2.heap.size, 0, none⟩) h2W).trans e0
      have i1 := (hb3.cell (p := ⟨w2.heap.size, 1, none⟩) h2W).trans e1
      have i2 := (hb3.cell (p := ⟨w2.heap.size, 2, none⟩) h2W).trans e2
      have i3 := (hb3.cell (p := ⟨w2.heap.size, 3, none⟩) h2W).trans e3
      have HW3 := hide (HO.out.below HB3.out)
      have HOK3 := hide ok3
      have hb3w : base ≤ w3.heap.size := Nat.le_trans hbr HB3.out.size
      have HQL := hide HQ.out.symm
      clear e0 e1 e2 e3 hb3 hbW ok3 HB2 HWW
      obtain ⟨zz, hzz⟩ : ∃ zz, Hog.treeT (t.take (k + 1)) = zz := ⟨_, rfl⟩
      obtain ⟨qq, hqq⟩ : ∃ qq, zz.length = qq := ⟨_, rfl⟩
      have HZZ := hide hzz
      have HQQ := hide hqq
      clear hzz hqq
      by_cases h1 : z1 = []
      · have HE1 : Hid (Hog.treeT (t.take k) ++ Hog.entL (Hog.entE x) = zz) := by rw [← HZZ.out, HST.out, Hog.nodeT_one (by rw [HZ1.out]; exact h1)]; exact hide rfl
        have ht1 := none_text
        rw [h1]
        clear h1
        go_wp2_with fail
        refine (layW_ok g base q qq _ (Hog.treeT (t.take k)) zz s l d x.2.1 (Hog.entE x) w0 w3 HOK3.out HW3.out h0 hbg hb3w HSN.out rfl HLN.out HDN.out HXF.out HQL.out (by omega) HE1.out HQQ.out).mono ?_
        rintro e w4 ⟨rfl, b4, c4, hw4, hr4, ok4⟩
        have HW4 := hide hw4
        have HBL4 := hide ((HBL.out.trans (HB3.out.mono hbr)).trans (hr4.below hbg HW3.out.own hb3w))
        clear hw4 hr4 ok4 i0 i1 i2 i3 ht1
        go_wp2
        go_roundw
        case rel => exact ⟨k + 1, qq, b4, c4, by omega, by go_num, by rw [HZZ.out]; exact hide HQQ.out.symm, by rw [HZZ.out]; exact HW4, HBL4.out⟩
        case measure => simp [intOf]; omega
      · obtain ⟨zp, hzp⟩ : ∃ zp, Hog.treeT (t.take k) ++ Hog.entL (Hog.paxE z1) = zp := ⟨_, rfl⟩
        obtain ⟨qp, hqp⟩ : ∃ qp, zp.length = qp := ⟨_, rfl⟩
        have HPF := hide (Hog.paxE_fits HZL.out)
        have hqp2 : qp ≤ 2000000 := by
          rw [← hqp, ← hzp, List.length_append, ← HQ.out]
          have := Hog.entL_le HPF.out
          omega
        have HZP := hide hzp
        have HQP := hide hqp
        have HE1 : Hid (zp ++ Hog.entL (Hog.entE x) = zz) := by rw [← HZZ.out, HST.out, Hog.nodeT_two (by rw [HZ1.out]; exact h1), HZ1.out, ← HZP.out, List.append_assoc]; exact hide rfl
        have ht1 := some_text h1
        clear h1 hzp hqp
        go_wp2_with fail
        refine (layW_ok g base q qp _ (Hog.treeT (t.take k)) zp ⟨#[112, 97, 120]⟩ ⟨#[]⟩ (Hog.mk z1) 5 (Hog.paxE z1) w0 w3 HOK3.out HW3.out h0 hbg hb3w rfl rfl rfl (Hog.mk_data z1) HPF.out HQL.out (by omega) HZP.out HQP.out).mono ?_
        rintro e w4 ⟨rfl, b4, c4, hw4, hr4, ok4⟩
        have HW4 := hide hw4
        have HBL4 := hide ((HBL.out.trans (HB3.out.mono hbr)).trans (hr4.below hbg HW3.out.own hb3w))
        have HOK4 := hide ok4
        have hb4w : base ≤ w4.heap.size := Nat.le_trans hb3w hr4.size
        have j0 := hr4.cell i0 h2g HVO.out
        have j1 := hr4.cell i1 h2g HVO.out
        have j2 := hr4.cell i2 h2g HVO.out
        have j3 := hr4.cell i3 h2g HVO.out
        clear hw4 hr4 ok4 i0 i1 i2 i3 ht1
        go_wp2_with fail
        refine (layW_ok g base qp qq _ zp zz s l d x.2.1 (Hog.entE x) w0 w4 HOK4.out HW4.out h0 hbg hb4w HSN.out rfl HLN.out HDN.out HXF.out HQP.out (by omega) HE1.out HQQ.out).mono ?_
        rintro e w5 ⟨rfl, b5, c5, hw5, hr5, ok5⟩
        have HW5 := hide hw5
        have HBL5 := hide (HBL4.out.trans (hr5.below hbg HW4.out.own hb4w))
        clear hw5 hr5 ok5 j0 j1 j2 j3
        go_wp2
        go_roundw
        case rel => exact ⟨k + 1, qq, b5, c5, by omega, by go_num, by rw [HZZ.out]; exact hide HQQ.out.symm, by rw [HZZ.out]; exact HW5, HBL5.out⟩
        case measure => simp [intOf]; omega
    · obtain rfl : k = n := by omega
      have he : Hog.treeT (t.take k) = z := by rw [← HN.out, List.take_length]; exact HZ.out
      have hq : q = q0 := by rw [HQ.out, he]; exact HQ0.out
      subst hq
      rw [he] at HO
      clear he
      go_wp2
      go_end0
      exact ⟨rfl, b, c, HO.out, hbl, HOK.out.step (hbl.mono h0)⟩
end Go.Proofs.YtecjkkipglldlaaGreatDoor
/- The walks of package tar's count, each over a counter, Lay, Entries. -/
namespace Go.Proofs.YtecjkkipglldlaaGreatDoor
open Go.RowKit

theorem grown_of {w w' : World} {r : Option Nat} (h : Below w.heap.size w w') : w.grownBy w' r := ⟨h.os, h.tape, h.output, h.size, fun k hk _ => h.block k hk⟩
theorem grownC_below {w w' : World} {g B : Nat} (h : w.grownBy w' (some g)) (hg : B ≤ g) (hB : B ≤ w.heap.size) : Below B w w' := ⟨h.os, h.tape, h.output, h.size, fun k hk => h.block k (by omega) (fun e => by cases e; omega)⟩
theorem grown_cell {w w' : World} {g : Nat} (h : w.grownBy w' (some g)) {a : Addr} {x : Value} (hc : w.cell? a = some x) (hg : a.block ≠ g) : w'.cell? a = some x :=
  h.cell hc (fun e => hg (Option.some.inj e))

end Go.Proofs.YtecjkkipglldlaaGreatDoor
