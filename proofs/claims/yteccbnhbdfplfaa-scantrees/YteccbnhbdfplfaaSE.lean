/- The walks of slices.AppendSeq, slices.Collect over the iterator of package scan; Places, Has. -/
import Derived.Test.YteccbnhbdfplfaaSD
namespace Go.Proofs.Yteccbnhbdfplfaa
open Go.RowKit Go.Shelf

attribute [local go_sem] Oper.semAt_some

theorem wpListIn_append_where {F : Fence} {n : Nat} {P : Program} (w : World) {ops : Array Oper} {rest : List Oper} {o : Oper} {a : Act} {Q : Exit → Act → World → Prop}
    (hg : o.guard = none) (s x : Operand) (t : TypeId) (hop : o.op = Op.call { callee := Callee.builtin Builtin.append, args := #[s, x], argTypes := #[t, t] })
    (base : Nat) (e : TypeId) (i : TypeInfo) (z : Value) (size bytes : Nat) (h1 : P.underlying t = some (.slice e)) (h2 : P.info? e = some i) (h3 : i.zero = some z) (h4 : i.size = size) (h5 : i.bytes = bytes) (h6 : z.cells.size = size) (h7 : 0 < size)
    (v : Value) (k : Nat) (xs : List Value) (hs : a.eval s = v) (hown : w.ownsRow base e size v k xs) (ad : Addr) (m c : Nat) (news : List Value) (hx : a.eval x = .slice (some ad) m c) (hn : news.length = m * size)
    (hc : ∀ j u, news[j]? = some u → w.cell? (ad.add j) = some u) (h1c : ∀ u ∈ news, u.oneCell' = true) (b1 : k + m ≤ maxLen) (b2 : (k + m) * bytes ≤ 140737488355328) (b3 : base ≤ w.heap.size)
    (hK : ∀ v' w', w'.ownsRow base e size v' (k + m) (xs ++ news) → w.grownBy w' v.ownBlock → Stays w v v' → wpListIn F n P ops Q rest (a.put o.dst v') w') :
    wpListIn F n P ops Q (o :: rest) a w := by
  refine wpListIn_plain hg fun K hK' => ?_
  obtain ⟨v', w', hrun, r1, r2, r3⟩ := run_append_where (P := P) w base t o.type e i z size bytes h1 h2 h3 h4 h5 h6 h7 v k xs hown ad m c news hn hc h1c b1 b2 b3
  unfold Oper.wpIn
  refine ⟨?_, ?_⟩
  · simp [Oper.about, hop, resolve, Target.leads, Sem.run_pure]
  · rw [Oper.semAt_plain F _ _ (by rw [hop]; intro c hc'; cases hc')]
    simp [execOp, hop, resolve, invoke, builtin, hs, hx, hrun, Result.andThen]
    exact hK' _ _ (hK v' w' r1 r2 r3)

theorem rowAt_box {w : World} {B : Nat} {t : TypeId} {v : Value} (h : Boxed w B t v) : rowAt w B = v.ownBlock := by
  unfold rowAt
  rw [h.cell]
  rfl
theorem KpZ.appended {W w1 : World} {B : Nat} {t : TypeId} {v v' : Value} {tmp : Obj} (hv : Boxed W B t v) (hv2 : Boxed (w1.setCell ⟨B, 0, none⟩ v') B t v') (hgrow : (W.alloc tmp).grownBy w1 v.ownBlock) (hst : Stays (W.alloc tmp) v v') :
    KpZ B W (w1.setCell ⟨B, 0, none⟩ v') := by
  have hg2 := grownBy_setCell' w1 B v'
  have hs0 : (W.alloc tmp).heap.size = W.heap.size + 1 := by simp
  refine ⟨?_, fun k o hk hc hB hr => ?_, ?_⟩
  · have h1 := hgrow.size
    have h2 := hg2.size
    omega
  · have hlt := (Array.getElem?_eq_some_iff.1 hk).1
    rw [rowAt_box hv] at hr
    have h1 := hgrow.size
    rw [hg2.block k (by omega) (fun e => hB (by cases e; rfl)), hgrow.block k (by omega) hr, Below.heap_alloc _ _ k hlt]
    exact hk
  · rw [rowAt_box hv2, rowAt_box hv]
    rcases hst with e | ⟨k, e, hk⟩
    · exact .inl e
    · exact .inr ⟨k, e, by omega⟩

/-- The places, as numbers in memory. -/
def nums (l : List Nat) : List Int := List.map (fun x : Nat => (x : Int)) l

theorem places_stops (n : Nat) (hn : 1 ≤ n) (Bx Bw Bs : Nat) (p s : ByteArray) (hp : p.size < 1000000) (hs : s.size < 1000000) (w : World) (hw : Boxed w Bw 9 (.string p)) (hb : Boxed w Bs 9 (.string s))
    (hxw : Bw ≠ Bx) (hxs : Bs ≠ Bx) (hxr : rowAt w Bx = none) (hxl : Bx < w.heap.size) :
    SeqStopsK Fence.wide n Try.prog 35 #[.pointer (some ⟨Bw, 0, none⟩), .pointer (some ⟨Bs, 0, none⟩)] (fun x : Nat => #[Value.int .i64 x]) (KpZ Bx)
      (fun ys => ys = Hog.placesL p.data.toList s.data.toList) (fun pre => pre <+: Hog.placesL p.data.toList s.data.toList ∧ pre ≠ []) (s.size + 1) w := fun l J Jx W hW hJ _ hY h0 =>
  places1_in n hn l Bx Bw Bs p s hp hs J Jx W hJ hY (Boxed.belowB hw hW) (Boxed.belowB hb hW) hxw hxs (by rw [rowAt_below hW hxl]; exact hxr) (Nat.lt_of_lt_of_le hxl hW.size) h0

set_option maxRecDepth 100000 in
set_option maxHeartbeats 2000000 in
theorem appendSeq_ok (Bw Bs : Nat) (p s : ByteArray) (w : World) (hp : p.size < 1000000) (hs : s.size < 1000000) (hw : Boxed w Bw 9 (.string p)) (hb : Boxed w Bs 9 (.string s)) :
    Calls Try.prog 34 #[.slice none 0 0, .func (.func 35) #[] #[.pointer (some ⟨Bw, 0, none⟩), .pointer (some ⟨Bs, 0, none⟩)]] w fun e w' => ∃ v, e = .returned v ∧ OwnZ w.heap.size w' v (nums (Hog.placesL p.data.toList s.data.toList)) ∧ Below w.heap.size w w' := by
  refine (callsIn_wide (n := 3)).1 ?_
  obtain ⟨i0, hi, hz0, hz1, hz2⟩ := info_parts A3
  refine callsIn_of_wp_marks Try.func34 rfl trivial ?_ rfl
  simp only [Try.ntmps34, List.size_toArray, List.length_cons, List.length_nil, Nat.reduceAdd, Nat.reduceSub, Array.replicate_succ, Array.replicate_zero, List.push_toArray, List.append_toArray, List.nil_append, List.cons_append]
  gi_wp2
  have bO := Boxed.new w 28 (.slice none 0 0)
  have hB0 : Below w.heap.size w (w.alloc (.cells #[.slice none 0 0] 28)) := (Below.refl _ w).alloc (Nat.le_refl _) _
  have hlw := hw.lt
  have hls := hb.lt
  refine wpIn_rangeFunc_ownF rfl (by omega) (gf := 35) (lb := #[.pointer (some ⟨Bw, 0, none⟩), .pointer (some ⟨Bs, 0, none⟩)]) rfl trivial (enters_of Try.func35 (by kernel_rfl) rfl)
    (places_stops (3 - 1) (by omega) w.heap.size Bw Bs p s hp hs _ (hw.alloc _) (hb.alloc _) (by omega) (by omega) (by rw [rowAt_box bO]; rfl) (by simp)) KpZ.trans (KpZ.book (by simp)) (Below.refl _ _) (fun _ => rfl)
    (fun pre W => (∃ v, Boxed W w.heap.size 28 v ∧ W.ownsRow w.heap.size 3 1 v pre.length ((nums pre).map (Value.int .i64)) ∧ True) ∧ Below w.heap.size w W)
    (fun _ _ _ => False)
    (OwnFrom.and (Own.from (holdsRow_own w.heap.size w.heap.size 28 3 1 (fun pre => pre.length) (fun pre => (nums pre).map (Value.int .i64)) (fun _ _ => True)) _) (ownFrom_below (Nat.le_refl _) (by simp)))
    (fun _ _ _ _ _ hs _ _ => hs)
    ⟨⟨_, bO, World.ownsRow_nil _ _ _ _, trivial⟩, hB0⟩
    (fun x => { tmps := #[.slice none 0 0, .func (.func 35) #[] #[.pointer (some ⟨Bw, 0, none⟩), .pointer (some ⟨Bs, 0, none⟩)], .pointer (some ⟨w.heap.size, 0, none⟩), undef, .slice none 0 0, .int .i64 x, .func (.func 35) #[] #[.pointer (some ⟨Bw, 0, none⟩), .pointer (some ⟨Bs, 0, none⟩)], .int .i64 x, undef, undef, undef, undef, undef], defers := [] }) ?assign ?body ?done ?stop
  case assign =>
    intro l x W K hK
    gi_wp2
    exact hK
  case body =>
    rintro l pre x W ⟨⟨v, hv, hrow, _⟩, hB⟩ hlt
    have hc := hv.cell
    gi_wp2_with (gi_at_builtin; refine wpListIn_append_where _ rfl _ _ 28 rfl w.heap.size 3 i0 (.int .i64 0) 1 8 Try.underlying28 hi hz0 hz1 hz2 rfl (by decide) _ _ _ rfl (hrow.alloc _) ⟨W.heap.size, 0, none⟩ 1 1 [.int .i64 x] rfl rfl (cell_one_new _ _ _) (by simp [Value.oneCell']) (by unfold maxLen; omega) (by omega) (by have := hB.size; simp; omega) ?_; intro v' w1 hown' hgrow hst; obtain ⟨g', cap', rfl⟩ := ownsRow_succ hown'; obtain ⟨hv1, hv2, hr2, hk2, hb2⟩ := hv.appended (by decide) hrow hB.size (Nat.le_refl _) hown' hgrow; have hc1 := hv1.cell; have hf1 := hv1.frozen)
    refine ⟨hk2, KpZ.appended hv hv2 hgrow hst, ⟨_, hv2, ?_, trivial⟩, hB.trans hb2⟩
    simpa [nums] using hr2
  case done =>
    rintro D ys W hD rfl ⟨⟨v, hv, hrow, _⟩, hB⟩ hK
    have hc := hv.cell
    gi_wp2
    refine ⟨by simp, .inl ⟨_, _, rfl, run_takeDeferred hK, ?_⟩⟩
    refine ⟨_, results_tmp rfl _ _ _, v, rfl, ?_, hB.trans (belowK_b (w := w) (Nat.le_refl _) W D _ _ (by simp at hD; omega) hK rfl rfl)⟩
    have h1 := ownsRow_putObj hrow (.deferred none) hK rfl
    unfold OwnZ
    rw [show (nums (Hog.placesL p.data.toList s.data.toList)).length = (Hog.placesL p.data.toList s.data.toList).length by simp [nums]]
    exact h1
  case stop =>
    rintro D c pre W _ _ h _
    exact h.elim
end Go.Proofs.Yteccbnhbdfplfaa
