/- The walks of package scan: Places, Has. -/
import Derived.Test.YteccbnhbdfplfaaSE
namespace Go.Proofs.Yteccbnhbdfplfaa
open Go.RowKit Go.Shelf

attribute [local go_sem] Oper.semAt_some

set_option maxHeartbeats 400000 in
theorem collect_ok (Bw Bs : Nat) (p s : ByteArray) (w : World) (hp : p.size < 1000000) (hs : s.size < 1000000) (hw : Boxed w Bw 9 (.string p)) (hb : Boxed w Bs 9 (.string s)) :
    Calls Try.prog 25 #[.func (.func 35) #[] #[.pointer (some ⟨Bw, 0, none⟩), .pointer (some ⟨Bs, 0, none⟩)]] w fun e w' => ∃ v, e = .returned v ∧ OwnZ w.heap.size w' v (nums (Hog.placesL p.data.toList s.data.toList)) ∧ Below w.heap.size w w' := by
  have HC := hide (appendSeq_ok Bw Bs p s w hp hs hw hb)
  clear hw hb
  go_enter Try.func25, Try.ntmps25
  go_wp2_with fail
  refine HC.out.mono ?_
  rintro e w1 ⟨v, rfl, ho, hb1⟩
  have HO := hide ho
  have HB := hide hb1
  clear ho hb1 HC
  go_wp2
  go_ret
  exact ⟨v, rfl, HO.out, HB.out⟩

set_option maxHeartbeats 400000 in
theorem maker_ok (s p : ByteArray) (w : World) :
    Calls Try.prog 26 #[.string s, .string p] w fun e w' => e = .returned (.func (.func 35) #[] #[.pointer (some ⟨w.heap.size + 1, 0, none⟩), .pointer (some ⟨w.heap.size, 0, none⟩)]) ∧ w' = (w.alloc (.cells #[.string s] 9)).alloc (.cells #[.string p] 9) := by
  go_enter Try.func26, Try.ntmps26
  go_wp2
  go_ret
  exact ⟨rfl, rfl⟩

theorem two_boxes (s p : ByteArray) (w : World) : Boxed ((w.alloc (.cells #[.string s] 9)).alloc (.cells #[.string p] 9)) (w.heap.size + 1) 9 (.string p) ∧ Boxed ((w.alloc (.cells #[.string s] 9)).alloc (.cells #[.string p] 9)) w.heap.size 9 (.string s) ∧ Below w.heap.size w ((w.alloc (.cells #[.string s] 9)).alloc (.cells #[.string p] 9)) := by
  refine ⟨?_, (Boxed.new w 9 (.string s)).alloc _, ((Below.refl _ w).alloc (Nat.le_refl _) _).alloc (by simp) _⟩
  have h := Boxed.new (w.alloc (.cells #[.string s] 9)) 9 (.string p)
  rwa [World.size_alloc] at h

set_option maxHeartbeats 400000 in
theorem places_ok (s p : ByteArray) (L : List Nat) (w : World) (hp : p.size < 1000000) (hs : s.size < 1000000) (hL : Hog.placesL p.data.toList s.data.toList = L) :
    Calls Try.prog 11 #[.string s, .string p] w fun e w' => ∃ a c, e = .returned (.slice a L.length c) ∧ OwnZ w.heap.size w' (.slice a L.length c) (nums L) ∧ Below w.heap.size w w' := by
  have HL := hide hL
  clear hL
  go_enter Try.func11, Try.ntmps11
  go_wp2_with fail
  refine (maker_ok s p w).mono ?_
  rintro e w1 ⟨rfl, hw1⟩
  have HT : Hid (Boxed w1 (w.heap.size + 1) 9 (.string p) ∧ Boxed w1 w.heap.size 9 (.string s) ∧ Below w.heap.size w w1) := by rw [hw1]; exact two_boxes s p w
  clear hw1
  go_wp2_with fail
  refine (collect_ok (w.heap.size + 1) w.heap.size p s w1 hp hs HT.out.1 HT.out.2.1).mono ?_
  rintro e w2 ⟨v, rfl, ho, hb⟩
  have hb2 := below_two HT.out.2.2 hb
  rw [HL.out] at ho
  have ho2 : OwnZ w.heap.size w2 v (nums L) := by
    refine ⟨ho.1, ?_⟩
    rcases ho.2 with h2 | ⟨g, cap, cur, e, hbs, r⟩
    · exact .inl h2
    · exact .inr ⟨g, cap, cur, e, Nat.le_trans HT.out.2.2.size hbs, r⟩
  obtain ⟨a, c, e⟩ := ho2.form
  rw [show (nums L).length = L.length by simp [nums]] at e
  subst e
  have HO := hide ho2
  have HB := hide hb2
  clear ho ho2 hb hb2 HT
  go_wp2
  go_ret
  exact ⟨a, c, rfl, HO.out, HB.out⟩

set_option maxRecDepth 100000 in
set_option maxHeartbeats 2000000 in
theorem has_any (s p : ByteArray) (w : World) (hp : p.size < 1000000) (hs : s.size < 1000000) :
    Calls Try.prog 19 #[.string s, .string p] w fun e w' => e = .returned (.bool (Hog.hasL p.data.toList s.data.toList)) ∧ Below w.heap.size w w' := by
  refine (callsIn_wide (n := 3)).1 ?_
  refine callsIn_of_wp_marks Try.func19 rfl trivial ?_ rfl
  simp only [Try.ntmps19, List.size_toArray, List.length_cons, List.length_nil, Nat.reduceAdd, Nat.reduceSub, Array.replicate_succ, Array.replicate_zero, List.push_toArray, List.append_toArray, List.nil_append, List.cons_append]
  gi_wp2_with (refine ⟨trivial, ?_⟩; gi_at_call 26; refine (callsIn_wide.2 (maker_ok s p _)).mono ?_; rintro e w1 ⟨rfl, rfl⟩)
  have hT := two_boxes s p (w.alloc (.cells #[.bool false] 4))
  rw [World.size_alloc] at hT
  obtain ⟨W0, hW0⟩ : ∃ W0, ((w.alloc (.cells #[.bool false] 4)).alloc (.cells #[.string s] 9)).alloc (.cells #[.string p] 9) = W0 := ⟨_, rfl⟩
  have bR : Boxed W0 w.heap.size 4 (.bool false) := by rw [← hW0]; exact ((Boxed.new w 4 (.bool false)).alloc _).alloc _
  have hB0 : Below w.heap.size w W0 := by
    rw [← hW0]; exact (((Below.refl _ w).alloc (Nat.le_refl _) _).alloc (by simp) _).alloc (by simp; omega) _
  have hs0 : W0.heap.size = w.heap.size + 3 := by rw [← hW0]; simp
  rw [hW0] at hT ⊢
  clear hW0
  refine wpIn_rangeFunc_ownF rfl (by omega) (gf := 35) (lb := #[.pointer (some ⟨w.heap.size + 1 + 1, 0, none⟩), .pointer (some ⟨w.heap.size + 1, 0, none⟩)]) rfl trivial (enters_of Try.func35 (by kernel_rfl) rfl)
    (places_stops (3 - 1) (by omega) w.heap.size (w.heap.size + 1 + 1) (w.heap.size + 1) p s hp hs _ hT.1 hT.2.1 (by omega) (by omega) (by rw [rowAt_box bR]; rfl) (by omega)) KpZ.trans (KpZ.book (by omega)) (Below.refl _ _) (fun _ => rfl)
    (fun pre W => (pre = [] ∧ Boxed W w.heap.size 4 (.bool false)) ∧ Below w.heap.size w W)
    (fun c pre W => (c = .ret ∧ Boxed W w.heap.size 4 (.bool true)) ∧ Below w.heap.size w W)
    (OwnFrom.and (Own.from (fun s A B row hs hg hr => ⟨hs.1, boxed_own w.heap.size 4 (fun _ => .bool false) s A B row hs.2 hg hr⟩) _) (ownFrom_below (Nat.le_refl _) (by omega)))
    (fun c => OwnFrom.and (Own.from (fun s A B row hs hg hr => ⟨hs.1, boxed_own w.heap.size 4 (fun _ => .bool true) s A B row hs.2 hg hr⟩) _) (ownFrom_below (Nat.le_refl _) (by omega)))
    ⟨⟨rfl, bR⟩, hB0⟩
    (fun x => { tmps := #[.string s, .string p, undef, undef, .pointer (some ⟨w.heap.size, 0, none⟩), .string s, .string p, .func (.func 35) #[] #[.pointer (some ⟨w.heap.size + 1 + 1, 0, none⟩), .pointer (some ⟨w.heap.size + 1, 0, none⟩)], .int .i64 x], defers := [] }) ?assign ?body ?done ?stop
  case assign =>
    intro l x W K hK
    gi_wp2
    simpa using hK
  case body =>
    rintro l pre x W ⟨⟨_, hR⟩, hB⟩ _
    have hc := hR.cell
    have hf := hR.frozen
    gi_wp2
    exact ⟨KeepsOthers.setCell _ _ _, ⟨rfl, hR.set _⟩, hB.setCell (p := ⟨w.heap.size, 0, none⟩) (Nat.le_refl _) _⟩
  case done =>
    rintro D ys W hD hys ⟨⟨hy0, hR⟩, hB⟩ hK
    have hc := hR.cell
    have hf := hR.frozen
    gi_wp2
    have hK' := (KeepsOthers.setCell W ⟨w.heap.size, 0, none⟩ (.bool false)).same D _ hK rfl
    refine ⟨by simp, .inl ⟨_, _, rfl, run_takeDeferred hK', ?_⟩⟩
    have hc5 := cell_kept (hR.set (.bool false)).cell (grownBy_putObj' _ D (.deferred none)) (fun r e => by cases e; exact ⟨_, hK', rfl⟩)
    refine ⟨.bool false, ?_, ?_, (hB.setCell (p := ⟨w.heap.size, 0, none⟩) (Nat.le_refl _) _).trans (belowK_b (w := w) (Nat.le_refl _) _ D _ _ (by omega) hK' rfl rfl)⟩
    · simp [results, Try.f19, go_sem, hc5]
    · exact ret_bool (Hog.hasL_not (by rw [← hys, hy0])).symm
  case stop =>
    rintro D c pre W hD ⟨hpre, hne⟩ ⟨⟨rfl, hR⟩, hB⟩ hK
    gi_wp2
    refine ⟨by simp, .inl ⟨_, _, rfl, run_takeDeferred hK, ?_⟩⟩
    have hc5 := cell_kept hR.cell (grownBy_putObj' _ D (.deferred none)) (fun r e => by cases e; exact ⟨_, hK, rfl⟩)
    refine ⟨.bool true, ?_, ?_, hB.trans (belowK_b (w := w) (Nat.le_refl _) W D _ _ (by omega) hK rfl rfl)⟩
    · simp [results, Try.f19, go_sem, hc5]
    · exact ret_bool (Hog.hasL_is (fun e => hne (by rw [e] at hpre; exact List.prefix_nil.1 hpre))).symm
theorem has_ok (s p : ByteArray) (b : Bool) (w : World) (hp : p.size < 1000000) (hs : s.size < 1000000) (hb : Hog.hasL p.data.toList s.data.toList = b) :
    Calls Try.prog 19 #[.string s, .string p] w fun e w' => e = .returned (.bool b) ∧ Below w.heap.size w w' := by
  subst hb
  exact has_any s p w hp hs
end Go.Proofs.Yteccbnhbdfplfaa
