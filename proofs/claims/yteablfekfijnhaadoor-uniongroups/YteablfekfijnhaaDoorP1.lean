/- The pile in memory: its nodes, and its map; add, houses, lay. -/
import Derived.Test.YteablfekfijnhaaDoorPlainU
import Derived.Test.YteablfekfijnhaaDoorF3
import Derived.Test.YteablfekfijnhaaDoorJ6
import Derived.Deep.RegionLaw
namespace Go.Proofs.YteablfekfijnhaaDoor
open Go.RowKit

/-- Block p is a pile whose nodes are ns, whose map is block m; both, and the nodes' row, lie from block B on. -/
structure PileAt (B : Nat) (w : World) (p m : Nat) (v : Value) (ns : List Nd) : Prop where
  hp : B ≤ p
  blk : w.heap[p]? = some (.cells #[v, .map (some m)] 60 (0, 0))
  hm : B ≤ m
  map : MapOf w m ns
  own : OwnN B w v ns
theorem PileAt.lt {B : Nat} {w : World} {p m : Nat} {v : Value} {ns : List Nd} (h : PileAt B w p m v ns) : p < w.heap.size := (Array.getElem?_eq_some_iff.1 h.blk).1
theorem PileAt.below {B : Nat} {w w' : World} {p m : Nat} {v : Value} {ns : List Nd} (h : PileAt B w p m v ns) (hb : Below w.heap.size w w') : PileAt B w' p m v ns :=
  ⟨h.hp, (hb.block p h.lt).trans h.blk, h.hm, h.map.below hb, h.own.below hb⟩
theorem PileAt.cells {B : Nat} {w : World} {p m : Nat} {v : Value} {ns : List Nd} (h : PileAt B w p m v ns) :
    w.cell? ⟨p, 0, none⟩ = some v ∧ w.cell? ⟨p, 1, none⟩ = some (.map (some m)) ∧ w.frozen? ⟨p, 0, none⟩ = false ∧ w.frozen? ⟨p, 1, none⟩ = false :=
  ⟨by rw [cell_of_row w p 0 _ _ (0, 0) h.blk]; rfl, by rw [cell_of_row w p 1 _ _ (0, 0) h.blk]; rfl, frozen_of_row w p 0 _ _ h.blk, frozen_of_row w p 1 _ _ h.blk⟩
theorem PileAt.apart {B : Nat} {w : World} {p m : Nat} {v : Value} {ns : List Nd} (h : PileAt B w p m v ns) : p ≠ m ∧ some p ≠ v.ownBlock ∧ some m ≠ v.ownBlock := by
  obtain ⟨es, c, hm, _⟩ := h.map
  have hb := h.blk
  refine ⟨fun e => ?_, fun e => ?_, fun e => ?_⟩
  · subst e
    rw [hb] at hm
    cases hm
  · obtain ⟨_, h2⟩ := h.own
    rcases h2 with ⟨rfl, _⟩ | ⟨g, cap, cur, rfl, _, hg, _⟩
    · cases e
    · cases e
      rw [hb] at hg
      simp at hg
  · obtain ⟨_, h2⟩ := h.own
    rcases h2 with ⟨rfl, _⟩ | ⟨g, cap, cur, rfl, _, hg, _⟩
    · cases e
    · cases e
      rw [hm] at hg
      cases hg

theorem step_append_grown {ops : Array Oper} {o : Oper} {a : Act} {w : World} {K : Act → World → Prop} {Q : Exit → Act → World → Prop} {E : Prop} (hgd : o.guard = none) (s x : Operand)
    (ho : o.op = .call { callee := .builtin .append, args := #[s, x], argTypes := #[25, 25] })
    (base : Nat) (v : Value) (xs : List Nd) (hs : a.eval s = v) (hown : OwnN base w v xs) (ad : Addr) (m c : Nat) (ys : List Nd) (hx : a.eval x = .slice (some ad) m c) (hu : ArgN w (some ad) m c ys)
    (hlen : xs.length + ys.length < 1000000) (hbase : base ≤ w.heap.size)
    (h : ∀ b c w', OwnN base w' (.slice b (xs.length + ys.length) c) (xs ++ ys) → w.grownBy w' v.ownBlock → K (a.put o.dst (.slice b (xs.length + ys.length) c)) w') :
    if Region.wanted o (yielded ops a.tmps) = true then Oper.wp Tryd.prog o a w K Q else E := by
  have hw : Region.wanted o (yielded ops a.tmps) = true := by simp [Region.wanted, hgd]
  rw [if_pos hw]
  obtain ⟨i0, hi, hz0, hz1, hz2⟩ := info_parts A24
  obtain rfl := hu.len
  obtain ⟨v', w', hr, h2, h3, _⟩ := run_append_own (P := Tryd.prog) w base 25 o.type 37 i0 (.agg #[.string ByteArray.empty, .int .i64 0, .string ByteArray.empty]) 3 40 Tryd.underlying25 hi hz0 hz1 hz2 rfl (by decide) v xs.length (flat xs) hown ad ys.length c (flat ys) (flat_len ys) (hu.cell ad rfl) (flat_one ys) (by unfold maxLen; omega) (by omega) hbase
  have h5 : OwnN base w' v' (xs ++ ys) := OwnN.joined h2
  obtain ⟨b, c', e⟩ := h5.form
  rw [List.length_append] at e
  subst e
  unfold Oper.wp
  simp [execOp, ho, resolve, invoke, builtin, hs, hx, hr, Result.andThen]
  exact h b c' w' h5 h3
/-- Midway: the row is one longer, the map not yet. -/
structure MidAt (B : Nat) (w : World) (p m : Nat) (v : Value) (ns ms : List Nd) : Prop where
  hp : B ≤ p
  blk : w.heap[p]? = some (.cells #[v, .map (some m)] 60 (0, 0))
  hm : B ≤ m
  map : MapOf w m ns
  own : OwnN B w v ms
theorem MidAt.cells {B : Nat} {w : World} {p m : Nat} {v : Value} {ns ms : List Nd} (h : MidAt B w p m v ns ms) : w.cell? ⟨p, 1, none⟩ = some (.map (some m)) := by rw [cell_of_row w p 1 _ _ (0, 0) h.blk]; rfl
theorem MidAt.drew {B : Nat} {w : World} {p m : Nat} {v : Value} {ns ms : List Nd} (h : MidAt B w p m v ns ms) : MidAt B w.drew p m v ns ms := ⟨h.hp, h.blk, h.hm, h.map, h.own⟩
theorem row_apart {B : Nat} {w : World} {p : Nat} {v : Value} {ns : List Nd} {cs : Array Value} {t : TypeId} {z : Nat × Nat} (h : OwnN B w v ns) (k : w.heap[p]? = some (.cells cs t z)) (ht : t ≠ 37) : some p ≠ v.ownBlock := by
  intro e
  obtain ⟨_, h2⟩ := h
  rcases h2 with ⟨rfl, _⟩ | ⟨g, cap, cur, rfl, _, hg, _⟩
  · cases e
  · cases e
    rw [k] at hg
    simp at hg
    exact ht hg.2.1
theorem add_mid {B p m : Nat} {v v' : Value} {ns ms : List Nd} {n : Nd} {w W1 w2 : World} {g : Nat} (h : PileAt B W1 p m v ns) (hk : Blk W1 g n) (hg : some g ≠ v.ownBlock) (hgp : g ≠ p) (ho : OwnN B w2 v' ms) (hgr : W1.grownBy w2 v.ownBlock) (hw : w = w2.setCell ⟨p, 0, none⟩ v') :
    MidAt B w p m v' ns ms ∧ Blk w g n ∧ w.heap.size = w2.heap.size := by
  obtain ⟨a1, a2, a3⟩ := h.apart
  have hb2 : w2.heap[p]? = some (.cells #[v, .map (some m)] 60 (0, 0)) := (hgr.block p h.lt a2).trans h.blk
  have hm2 : MapOf w2 m ns := h.map.same (hgr.block m h.map.lt a3)
  have ha := row_apart ho hb2 (by decide)
  have oth : ∀ i, i ≠ p → w.heap[i]? = w2.heap[i]? := fun i hi => by rw [hw]; exact Below.heap_setCell _ ⟨p, 0, none⟩ _ i hi
  refine ⟨⟨h.hp, ?_, h.hm, hm2.same (oth m (fun e => a1 e.symm)), ?_⟩, ?_, ?_⟩
  · rw [hw, heap_setCell_same w2 p 0 _ _ v' hb2]; rfl
  · refine World.ownsRow.kept (row := some p) ho ?_ ?_
    · rw [hw]; exact grown_setCell w2 p 0 v'
    · exact Or.inr fun e => ha e.symm
  · unfold Blk
    rw [oth g hgp, hgr.block g hk.facts.2.2 hg]
    exact hk
  · rw [hw]
    exact World.size_setCell _ _ _
theorem MidAt.done {B p m : Nat} {v : Value} {ns ms : List Nd} {w w' : World} (h : MidAt B w p m v ns ms) (hm : MapOf w' m ms) (hg : w.grownBy w' (some m)) : PileAt B w' p m v ms := by
  have hpm : p ≠ m := fun e => by
    obtain ⟨es, c, h1, _⟩ := h.map
    rw [← e, h.blk] at h1
    cases h1
  have hl : p < w.heap.size := (Array.getElem?_eq_some_iff.1 h.blk).1
  refine ⟨h.hp, (hg.block p hl (by simpa using hpm)).trans h.blk, h.hm, hm, World.ownsRow.kept h.own hg (.inr fun e => ?_)⟩
  obtain ⟨es, c, h1, _⟩ := h.map
  obtain ⟨_, h2⟩ := h.own
  rcases h2 with ⟨rfl, _⟩ | ⟨g, cap, cur, rfl, _, hrow, _⟩
  · cases e
  · cases e
    rw [show w.heap[g]? = _ from h1] at hrow
    cases hrow

set_option maxRecDepth 100000 in
set_option maxHeartbeats 2000000 in
/-- pile.add: one node more, at a path where nothing stands. -/
theorem add_ok (B p m : Nat) (v : Value) (ns : List Nd) (n : Nd) (w : World) (h : PileAt B w p m v ns) (hB : B ≤ w.heap.size) (hl : ns.length < 900000) (hn : lookN ns n.1 = none) :
    Calls Tryd.prog 29 #[.pointer (some ⟨p, 0, none⟩), .agg #[.string n.1, .int .i64 n.2.1, .string n.2.2]] w fun e w' => e = .returned (.tuple #[]) ∧ (∃ v', PileAt B w' p m v' (ns ++ [n])) ∧ Below B w w' := by
  obtain ⟨wa, hwa⟩ : ∃ wa, wa = w.alloc (.cells #[.string n.1, .int .i64 n.2.1, .string n.2.2] 37) := ⟨_, rfl⟩
  have hba : Below w.heap.size w wa := by rw [hwa]; exact below_alloc _ _
  have hpa := h.below hba
  have HPA := hide hpa
  have hk : Blk wa w.heap.size n := by rw [hwa]; exact Blk.made w n
  have HK := hide hk
  obtain ⟨⟨k1, k2, k3⟩, _, k4⟩ := hk.facts
  obtain ⟨c1, c2, c3, c4⟩ := hpa.cells
  have HN := hide hn
  have HB := hide hB
  have HBA := hide hba
  have HWA := hide hwa
  have HBW := hide (Nat.le_trans hB hba.size)
  have HGP : Hid (w.heap.size ≠ p) := fun e => by have := h.lt; omega
  have HGV : Hid (some w.heap.size ≠ v.ownBlock) := fun e => by have := (h.own.lt _ e.symm).2; omega
  clear h hn hB hba hpa hk hwa
  go_enter Tryd.func29, Tryd.ntmps29
  go_wp2
  rw [← HWA.out]
  have HOX : Hid (OwnN B (wa.drew.alloc (.cells #[.string n.1, .int .i64 n.2.1, .string n.2.2] 37)) v ns) := OwnN.alloc (OwnN.below HPA.out.own (Below.refl _ _).drew) _
  have HRX := hide ((Run.one wa.drew n).arg (c := 1) (by simp))
  have HPX : Hid (PileAt B (wa.drew.alloc (.cells #[.string n.1, .int .i64 n.2.1, .string n.2.2] 37)) p m v ns) := HPA.out.below ((Below.refl _ _).drew.alloc (Nat.le_refl _) _)
  have c5 : (wa.alloc (.cells #[.string n.1, .int .i64 n.2.1, .string n.2.2] 37)).cell? ⟨p, 0, none⟩ = some v := HPX.out.cells.1
  go_region_law (refine step_append_grown rfl (.tmp 8) (.tmp 10) rfl B v ns rfl HOX.out _ _ _ [n] rfl HRX.out (by simp; omega) (by simp; have := HB.out; have := HBA.out.size; omega) ?_; intro b5 c6 w2 ho hg; have hb2 := (hg.block p HPX.out.lt HPX.out.apart.2.1).trans HPX.out.blk; have q1 := cell_of_row w2 p 0 _ _ (0, 0) hb2; have q2 := frozen_of_row w2 p 0 _ _ hb2; clear hb2)
  all_goals
    obtain ⟨w3, hw3⟩ : ∃ w3, w3 = w2.setCell ⟨p, 0, none⟩ (.slice b5 (ns.length + 1) c6) := ⟨_, rfl⟩
    have HKX : Hid (Blk (wa.drew.alloc (.cells #[.string n.1, .int .i64 n.2.1, .string n.2.2] 37)) w.heap.size n) := HK.out.below ((Below.refl _ _).drew.alloc (Nat.le_refl _) _)
    have HMK := hide (add_mid HPX.out HKX.out HGV.out HGP.out ho hg hw3)
    have HB3 : Hid (Below B w w3) := by
      show Below B w w3
      rw [hw3]
      exact ((HBA.out.mono HB.out).trans ((((Below.refl B wa).drew.alloc HBW.out _).trans (HOX.out.grownBelow hg (Nat.le_trans HBW.out ((Below.refl wa.heap.size wa).drew.alloc (Nat.le_refl _) _).size))).trans ((Below.refl B w2).setCell (p := ⟨p, 0, none⟩) HPX.out.hp _)))
    have HW3 := hide hw3
    obtain ⟨⟨x1, x2, x3⟩, _, x4⟩ := HMK.out.2.1.facts
    have x5 := HMK.out.1.cells
    clear hw3 ho hg q1 q2 c5 c1 c2 c3 c4 k1 k2 k3 k4
    go_wp2
    rw [← HW3.out]
    obtain ⟨w4, hr4, hm4, hg4⟩ := map_store (w := w3.drew) HMK.out.1.map n HN.out
    unfold nagg at hr4
    have HM4 := hide hm4
    have HG4 := hide hg4
    clear hm4 hg4
    go_region
    all_goals
      go_wp2
      go_end0
      exact ⟨rfl, ⟨_, HMK.out.1.drew.done HM4.out HG4.out⟩, HB3.out.trans ((Below.refl B w3).drew.grown HG4.out (Nat.le_trans HB.out HB3.out.size) (fun k hk => by cases hk; exact HMK.out.1.hm))⟩

theorem field_kind (f : Nd) (w : World) : (Instr.field 37 (.agg #[.string f.1, .int .i64 f.2.1, .string f.2.2]) 1).run Tryd.prog w = .ok (.int .i64 f.2.1) w := by kernel_rfl
set_option maxRecDepth 100000 in
set_option maxHeartbeats 2000000 in
/-- pile.houses: is there a Dir at the node's Parent? -/
theorem houses_ok (B p m : Nat) (v : Value) (ns : List Nd) (n : Nd) (b : Bool) (w0 w : World) (ok : Ok w0 w) (h : PileAt B w p m v ns) (hz : n.1.size < 999999) (hb : housesB n ns = b) :
    Calls Tryd.prog 38 #[.pointer (some ⟨p, 0, none⟩), .agg #[.string n.1, .int .i64 n.2.1, .string n.2.2]] w fun e w' => e = .returned (.bool b) ∧ Ok w0 w' ∧ Below w.heap.size w w' := by
  obtain ⟨wa, hwa⟩ : ∃ wa, wa = w.alloc (.cells #[.string n.1, .int .i64 n.2.1, .string n.2.2] 37) := ⟨_, rfl⟩
  have hba : Below w.heap.size w wa := by rw [hwa]; exact below_alloc _ _
  have oka := ok.next hba
  have HPA := hide (h.below hba)
  have hk : Blk wa w.heap.size n := by rw [hwa]; exact Blk.made w n
  obtain ⟨⟨k1, k2, k3⟩, _, k4⟩ := hk.facts
  obtain ⟨q, hq⟩ : ∃ q, Hog.parentL n.1.data.toList = q := ⟨_, rfl⟩
  obtain ⟨x, hx⟩ : ∃ x, Hog.parentOk n.1.data.toList = x := ⟨_, rfl⟩
  obtain ⟨f, hf⟩ : ∃ f, atN ns (Hog.mk q) = f := ⟨_, rfl⟩
  have HE : Hid ((x && decide (f.2.1 = 1)) = b) := by
    show _ = _
    rw [← hb]
    unfold housesB parentP key
    rw [hq, hx, hf]
  have HQ := hide hq
  have HX := hide hx
  have HF := hide hf
  have HWA := hide hwa
  have HBA := hide hba
  clear h hk hb hq hx hf hwa hba ok
  go_enter Tryd.func38, Tryd.ntmps38
  go_wp2_with fail
  rw [← HWA.out]
  go_wp2_with fail
  refine (parent_ok n.1 q x w0 wa oka hz HQ.out HX.out).mono ?_
  rintro e w1 ⟨rfl, ok1, hb1⟩
  have HP1 := hide (HPA.out.below hb1)
  obtain ⟨c1, c2, c3, c4⟩ := HP1.out.cells
  have hl := map_look HP1.out.map (Hog.mk q) false
  rw [HF.out] at hl
  simp only [nagg, if_false, Bool.false_eq_true] at hl
  have hfk := field_kind f w1
  have HB1 := hide (HBA.out.trans (hb1.mono HBA.out.size))
  clear hb1 c1 c3 c4
  cases x with
  | false =>
    go_wp2
    go_ret
    exact ⟨ret_bool (by rw [← HE.out]; rfl), ok1, HB1.out⟩
  | true =>
    go_wp2
    go_ret
    exact ⟨ret_bool (by rw [← HE.out, Bool.true_and]; rfl), ok1, HB1.out⟩
end Go.Proofs.YteablfekfijnhaaDoor
