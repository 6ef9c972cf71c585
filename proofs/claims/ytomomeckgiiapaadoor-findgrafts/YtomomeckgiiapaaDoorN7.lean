/- The walks of package tree: stands. -/
import Derived.Test.YtomomeckgiiapaaDoorN6
namespace Go.Proofs.YtomomeckgiiapaaDoor
open Go.RowKit

/-- Is there a directory at the path p among nodes? -/
def dirAt (ns : List Nd) (p : ByteArray) : Bool := ns.any fun m => decide (m.1 = p) && decide (m.2.1 = 1)
def parentP (p : ByteArray) : ByteArray := Hog.mk (Hog.parentL p.data.toList)
def standsB (n : Nd) (ns : List Nd) : Bool := Hog.parentOk n.1.data.toList && dirAt ns (parentP n.1)
theorem dirAt_found {ns : List Nd} {x : Nd} {i : Nat} {p : ByteArray} (hs : Rising ns) (hi : ns[i]? = some x) (he : x.1 = p) : dirAt ns p = decide (x.2.1 = 1) := by
  unfold dirAt
  rw [Bool.eq_iff_iff, List.any_eq_true]
  simp only [Bool.and_eq_true, decide_eq_true_eq]
  constructor
  · rintro ⟨m, hm, h1, h2⟩
    obtain ⟨j, hj⟩ := List.mem_iff_getElem?.1 hm
    have irr : ∀ a b : Nd, a.1 = b.1 → ltN a b = true → False := fun a b e h => by
      unfold ltN at h
      rw [e, Hog.less_irr] at h
      cases h
    rcases Nat.lt_trichotomy i j with h | h | h
    · exact (irr x m (he.trans h1.symm) (hs i j x m h hi hj)).elim
    · subst h
      rw [hi] at hj
      cases hj
      exact h2
    · exact (irr m x (h1.trans he.symm) (hs j i m x h hj hi)).elim
  · intro h
    exact ⟨x, List.mem_of_getElem? hi, he, h⟩
theorem dirAt_none {ns : List Nd} {p : ByteArray} (h : ∀ x ∈ ns, x.1 ≠ p) : dirAt ns p = false := by
  unfold dirAt
  rw [List.any_eq_false]
  intro x hx
  simp [h x hx]

set_option maxRecDepth 100000 in
set_option maxHeartbeats 1000000 in
theorem stands_ok (n : Nd) (b o c : Nat) (ns : List Nd) (v : Bool) (w0 w : World) (h : Ok w0 w) (hp : n.1.size < 999999) (hr : Run w b o ns) (hs : Rising ns) (hl : ns.length < 1000000) (hv : standsB n ns = v) :
    Calls Tryd.prog 83 #[.agg #[.string n.1, .int .i64 n.2.1, .string n.2.2], .slice (some ⟨b, o, none⟩) ns.length c] w fun e w' => e = .returned (.bool v) ∧ Ok w0 w' ∧ Below w.heap.size w w' := by
  have HR := hide hr
  have HS := hide hs
  have HV := hide hv
  clear hr hs hv
  obtain ⟨l, hn⟩ : ∃ l, l = ns.length := ⟨_, rfl⟩
  have HN := hide hn
  rw [← hn] at hl ⊢
  clear hn
  go_enter Tryd.func83, Tryd.ntmps83
  go_wp2_with fail
  cases hpo : Hog.parentOk n.1.data.toList with
  | false =>
    have HPO := hide hpo
    clear hpo
    refine (parent_ok n.1 _ false w0 _ (h.alloc _) hp rfl HPO.out).mono ?_
    rintro e w1 ⟨rfl, ok1, hb1⟩
    have HB1 := hide (below_two (below_box w (.cells #[.string n.1, .int .i64 n.2.1, .string n.2.2] 27)) hb1)
    clear hb1
    go_wp2_with fail
    rw [HN.out]
    refine (search_some b o c ns (Hog.mk (Hog.parentL n.1.data.toList), 0, ByteArray.empty) w1 (HR.out.below HB1.out HR.out.1) HS.out (by rw [← HN.out]; exact hl)).mono ?_
    rintro e w2 ⟨i, f, rfl, hfound, hb2⟩
    go_wp2_with fail
    go_ret
    refine ⟨ret_bool ?_, ok1.next hb2, below_two HB1.out hb2⟩
    rw [← HV.out]
    unfold standsB
    rw [HPO.out]
    rfl
  | true =>
    have HPO := hide hpo
    clear hpo
    refine (parent_ok n.1 _ true w0 _ (h.alloc _) hp rfl HPO.out).mono ?_
    rintro e w1 ⟨rfl, ok1, hb1⟩
    have HB1 := hide (below_two (below_box w (.cells #[.string n.1, .int .i64 n.2.1, .string n.2.2] 27)) hb1)
    clear hb1
    go_wp2_with fail
    rw [HN.out]
    refine (search_some b o c ns (Hog.mk (Hog.parentL n.1.data.toList), 0, ByteArray.empty) w1 (HR.out.below HB1.out HR.out.1) HS.out (by rw [← HN.out]; exact hl)).mono ?_
    rintro e w2 ⟨i, f, rfl, hfound, hb2⟩
    obtain ⟨hi, hft, hff⟩ := hfound
    have HB2 := hide (below_two HB1.out hb2)
    have ok2 := ok1.next hb2
    clear hb2
    cases f with
    | false =>
      have HD := hide (dirAt_none (hff rfl))
      clear hft hff
      go_wp2_with fail
      go_ret
      refine ⟨ret_bool ?_, ok2, HB2.out⟩
      rw [← HV.out]
      unfold standsB parentP
      rw [HD.out, Bool.and_false]
    | true =>
      obtain ⟨x, hx, hxe⟩ := hft rfl
      obtain ⟨g1, g2, g3⟩ := (HR.out.2 i x hx).below HB2.out HR.out.1
      have HD := hide (dirAt_found HS.out hx hxe)
      have hil : i < l := by have := (List.getElem?_eq_some_iff.1 hx).1; rw [HN.out]; exact this
      have hil' : (i : Int) < (ns.length : Int) := by rw [← HN.out]; omega
      clear hft hff hx hxe hi
      go_wp2_with fail
      go_ret
      refine ⟨ret_bool ?_, ok2, HB2.out⟩
      rw [← HV.out]
      unfold standsB parentP
      rw [HD.out, HPO.out]
      rw [Bool.eq_iff_iff]
      simp
end Go.Proofs.YtomomeckgiiapaaDoor
