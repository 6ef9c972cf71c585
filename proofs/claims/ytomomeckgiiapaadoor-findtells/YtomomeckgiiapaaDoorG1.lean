/- slices.SortFunc over nodes of find's own type, by the library's contract. -/
import Derived.Test.YtomomeckgiiapaaDoorF2
import Derived.Test.YtomomeckgiiapaaDoorPlainS
import Derived.Test.YtomomeckgiiapaaDoorShelf2
namespace Go.Proofs.YtomomeckgiiapaaDoor
open Go.RowKit

theorem ltOf_cmpN (x y : Nd) : ltOf cmpN x y = ltN x y := by
  unfold ltOf
  rw [Bool.eq_iff_iff, decide_eq_true_eq]
  exact cmpN_neg x y
theorem swo_cmpN : Sort.SWO (ltOf cmpN) where
  irrefl x := by rw [ltOf_cmpN]; exact ltN_irr x
  trans x y z h1 h2 := by rw [ltOf_cmpN] at *; exact ltN_trans h1 h2
  ntrans x y z h1 h2 := by rw [ltOf_cmpN] at *; exact leN_trans h2 h1
set_option maxHeartbeats 400000 in
theorem compare_grow (x y : Nd) (w : World) :
    Calls Tryd.prog 31 #[.agg #[.string x.1, .int .i64 x.2.1, .string x.2.2], .agg #[.string y.1, .int .i64 y.2.1, .string y.2.2]] w fun e w' => e = .returned (.int .i64 (cmpN x y)) ∧ ∃ q os, w' = Sort.grow (w.drewN q) os := by
  go_enter Tryd.func31, Tryd.ntmps31
  go_wp2_with (go_at_call 50; refine (Tryd.strings_Compare _ _ _).mono ?_; rintro e w' ⟨rfl, rfl⟩)
  go_ret
  exact ⟨rfl, 0, _, by rw [Sort.alloc_eq_grow, Sort.alloc_eq_grow, Sort.grow_grow]; rfl⟩
theorem cmpLays (blk off size : Nat) (w : World) : CmpLays Tryd.prog 31 #[] ncells 3 cmpN blk off size w :=
  fun _ _ _ _ x y => compare_grow x y _

theorem ncells_at (n : Nd) : (ncells n)[0]! = .string n.1 ∧ (ncells n)[1]! = .int .i64 n.2.1 ∧ (ncells n)[2]! = .string n.2.2 := ⟨rfl, rfl, rfl⟩
theorem holds_run {w : World} {g : Nat} {ns : List Nd} (h : Run w g 0 ns) (hf : ∀ j, w.frozen? ⟨g, j, none⟩ = false) : Sort.HoldsK ncells 3 w g 0 ns.toArray := by
  intro j hj
  rw [Sort.size_flatK] at hj
  refine ⟨?_, by rw [Nat.zero_add]; exact hf j⟩
  rw [Sort.get_flatK _ _ _ _ hj]
  have hj' : j < ns.length * 3 := by simpa using hj
  have hq : j / 3 < ns.length := by omega
  have hn : ns[j / 3]? = some ns[j / 3] := List.getElem?_eq_getElem hq
  have hn2 : ns.toArray[j / 3]! = ns[j / 3] := by simp [hq]
  obtain ⟨g1, g2, g3⟩ := h.2 _ _ hn
  rw [hn2, Nat.zero_add, id]
  obtain ⟨c1, c2, c3⟩ := ncells_at ns[j / 3]
  have hr : j % 3 = 0 ∨ j % 3 = 1 ∨ j % 3 = 2 := by omega
  rcases hr with hr | hr | hr
  · rw [hr, c1, show (⟨g, j, none⟩ : Addr) = ⟨g, 0 + j / 3 * 3, none⟩ by congr 1; omega]; exact g1
  · rw [hr, c2, show (⟨g, j, none⟩ : Addr) = ⟨g, 0 + j / 3 * 3 + 1, none⟩ by congr 1; omega]; exact g2
  · rw [hr, c3, show (⟨g, j, none⟩ : Addr) = ⟨g, 0 + j / 3 * 3 + 2, none⟩ by congr 1; omega]; exact g3
theorem run_holds {w : World} {g : Nat} {d : Array Nd} (hb : g < w.heap.size) (h : Sort.HoldsK ncells 3 w g 0 d) : Run w g 0 d.toList := by
  refine ⟨hb, fun j n hn => ?_⟩
  have hj := (List.getElem?_eq_some_iff.1 hn).1
  have hjd : j < d.size := by simpa using hj
  have hnd : d[j]! = n := by
    obtain ⟨_, e⟩ := List.getElem?_eq_some_iff.1 hn
    rw [getElem!_pos d j hjd]; simpa using e
  have key : ∀ i, i < 3 → w.cell? ⟨g, 0 + j * 3 + i, none⟩ = some (ncells n)[i]! := fun i hi => by
    have hlt : j * 3 + i < d.size * 3 := by omega
    have h1 := (h (j * 3 + i) (by rw [Sort.size_flatK]; exact hlt)).1
    rw [Sort.get_flatK _ _ _ _ hlt, show (j * 3 + i) / 3 = j by omega, show (j * 3 + i) % 3 = i by omega, hnd, id] at h1
    rw [show 0 + j * 3 + i = 0 + (j * 3 + i) by omega]
    exact h1
  obtain ⟨c1, c2, c3⟩ := ncells_at n
  exact ⟨by have := key 0 (by omega); rwa [c1] at this, by have := key 1 (by omega); rwa [c2] at this, by have := key 2 (by omega); rwa [c3] at this⟩
theorem grownBy_sortedN {w : World} {g n : Nat} {os : Array Obj} (d : Array Value) : w.grownBy (Sort.grow (Sort.putRow id (Sort.ahead w n) g 0 d) os) (some g) := by
  refine ⟨rfl, rfl, rfl, by simp, fun k hk hne => ?_⟩
  rw [Sort.heap_grow_old _ _ (by simpa using hk)]
  have : g ≠ k := fun e => hne (by rw [e])
  simp [Sort.putRow, Sort.mapBlock, Sort.ahead, Array.getElem?_modify, this]

theorem enters_fcompare : ∀ args w, (callFunc 31 args).run Tryd.prog w = .ok (.enter 31 args) w := enters_of Tryd.func31 (by kernel_rfl) rfl
theorem fsort_any (base g cap n : Nat) (ns : List Nd) (w : World) (h : OwnT 54 base w (.slice (some ⟨g, 0, none⟩) n cap) ns) (hn : ns.length = n) (hl : n < 1000000) :
    Calls Tryd.prog 40 #[.slice (some ⟨g, 0, none⟩) n cap, .func (.func 31) #[] #[]] w fun e w' => e = .returned (.tuple #[]) ∧ ∃ es, Run w' g 0 es ∧ es.Perm ns ∧ Srtd es ∧ Below g w w' := by
  subst hn
  have hg : g < w.heap.size := (h.lt g rfl).2
  have hr : Run w g 0 ns := by
    rcases h.nods with ⟨e, _⟩ | ⟨b, o, c, e, _, hr⟩
    · rw [e]; exact ⟨hg, fun j n hn => by simp at hn⟩
    · simp only [Value.slice.injEq, Option.some.injEq, Addr.mk.injEq, and_true] at e
      obtain ⟨⟨rfl, rfl⟩, _⟩ := e
      exact hr
  have hH := holds_run hr (fun j => World.ownsRow.frozenAt h j)
  have hcon := AnyQ.slices_SortFunc Tryd.laysSort 3 Tryd.isAgg54 Tryd.sizeOf54 ncells (fun _ => rfl) (fun x v hv => by simp [ncells] at hv; rcases hv with rfl | rfl | rfl <;> rfl) cmpN swo_cmpN 31 #[] g 0 cap ns.toArray w enters_fcompare (cmpLays g 0 _ w) hH hg (by simp; omega)
  change Calls Tryd.prog 40 _ _ _ at hcon
  refine hcon.mono ?_
  rintro e w' ⟨rfl, d', m, os, hp, hs, rfl⟩
  have hsz : d'.size = ns.length := by simpa using hp.1
  have hG : w.grownBy (sortWorldK ncells 3 w g 0 m d' os) (some g) := grownBy_sortedN _
  refine ⟨rfl, d'.toList, ?_, ?_, ?_, (Below.refl _ w).grown hG (Nat.le_of_lt hg) (fun k hk => by cases hk; exact Nat.le_refl _)⟩
  · refine run_holds (Nat.lt_of_lt_of_le hg hG.size) ?_
    refine Sort.holds_grow id _ os g 0 _ (by unfold Sort.putRowK; simpa using hg) ?_
    exact Sort.holds_putRow id (Sort.ahead w m) g 0 (Sort.flatK ncells 3 ns.toArray) (Sort.flatK ncells 3 d') hH (by simp [hsz])
  · have h2 := hp.2.2
    simp only [List.size_toArray] at h2
    have e1 : d'.extract 0 ns.length = d' := by rw [← hsz]; simp
    have e2 : ns.toArray.extract 0 ns.length = ns.toArray := by simp
    rw [e1, e2] at h2
    simpa using h2
  · rw [srtd_get]
    intro i j x y hij hx hy
    obtain ⟨hi, rfl⟩ := List.getElem?_eq_some_iff.1 hx
    obtain ⟨hj, rfl⟩ := List.getElem?_eq_some_iff.1 hy
    have h1 := hs i j (Nat.zero_le _) hij (by simp at hj ⊢; omega)
    rw [ltOf_cmpN, getElem!_pos d' j (by simpa using hj), getElem!_pos d' i (by simpa using hi)] at h1
    simpa using h1
end Go.Proofs.YtomomeckgiiapaaDoor
