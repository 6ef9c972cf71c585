/- The walks of the document's own Parent, Base, Under. -/
import Derived.Test.YtdgchinfanialaaDoorR4
namespace Go.Proofs.YtdgchinfanialaaDoor
open Go.RowKit

/-- A text that is no path, or the root: it has no parts, no parent, no base. -/
theorem none_facts {p : List UInt8} (h : p = [] ∨ Hog.mayL p = false) : Hog.splitL p = [] ∧ Hog.parentL p = [] ∧ Hog.parentOk p = false ∧ Hog.baseL p = [] := by
  have ho : Hog.parentOk p = false := by
    unfold Hog.parentOk
    rcases h with h | h
    · rw [h]; rfl
    · rw [h, Bool.and_false]
  refine ⟨?_, by unfold Hog.parentL; rw [if_neg (by rw [ho]; decide)], ho, ?_⟩
  · rcases h with h | h
    · rw [h]; decide
    · unfold Hog.splitL; rw [if_neg (by rw [h]; decide)]
  · rcases h with h | h
    · rw [h]; decide
    · unfold Hog.baseL; rw [if_neg (by rw [h]; decide)]

theorem Own.snocAt {base : Nat} {w : World} {v : Value} {l : List (List UInt8)} {x : List UInt8} (h : Own base w v ((l ++ [x]).map Hog.mk)) :
    ∃ b c, v = .slice (some ⟨b, 0, none⟩) (l.length + 1) c ∧ l.length + 1 ≤ c ∧ b < w.heap.size ∧ w.cell? ⟨b, l.length, none⟩ = some (.string (Hog.mk x)) ∧ Txt w (.slice (some ⟨b, 0, none⟩) l.length c) (l.map Hog.mk) := by
  obtain ⟨_, h2⟩ := id h
  rcases h2 with ⟨_, h0⟩ | ⟨g, cap, cur, hv, hb, hg, hn, hm, hs, ht⟩
  · simp at h0
  · have hlt : g < w.heap.size := (Array.getElem?_eq_some_iff.1 hg).1
    have hcell : ∀ (j : Nat) y, (l ++ [x])[j]? = some y → w.cell? ⟨g, j, none⟩ = some (.string (Hog.mk y)) := by
      intro j y hy
      have hj : (((l ++ [x]).map Hog.mk).map Value.string)[j]? = some (.string (Hog.mk y)) := by rw [List.getElem?_map, List.getElem?_map, hy]; rfl
      rw [← ht, List.getElem?_take] at hj
      split at hj
      · rw [World.cell?, hg]; simpa using hj
      · cases hj
    refine ⟨g, cap, by simpa using hv, by simpa using hn, hlt, hcell _ x (by simp), .inr ⟨g, 0, cap, by simp, by simp at hn ⊢; omega, hlt, fun j z hz => ?_⟩⟩
    obtain ⟨y, hy, rfl⟩ : ∃ y, l[j]? = some y ∧ Hog.mk y = z := by simpa using hz
    rw [Nat.zero_add]
    exact hcell j y (by rw [List.getElem?_append_left (List.getElem?_eq_some_iff.1 hy).1]; exact hy)

theorem joinV_split {q : List UInt8} (h : Hog.mayL q = true) : joinV (Hog.splitL q) = q ∧ Hog.joinOk (Hog.splitL q) = true := by
  have sq : Hog.splitL q = Hog.cutC q := by unfold Hog.splitL; rw [if_pos h]
  have hj := Hog.joinOk_cut h
  rw [sq]
  exact ⟨by unfold joinV; rw [if_pos hj, Hog.join_cutC], hj⟩

set_option maxHeartbeats 800000 in
theorem rparent_ok (p : ByteArray) (q : List UInt8) (b : Bool) (w0 w : World) (h : Ok w0 w) (hp : p.size < 900000) (hv : Hog.parentL p.data.toList = q) (hb : Hog.parentOk p.data.toList = b) :
    Calls Tryd.prog 37 #[.string p] w fun e w' => e = .returned (.tuple #[.string (Hog.mk q), .bool b]) ∧ Ok w0 w' ∧ Below w.heap.size w w' := by
  by_cases hn : p.data.toList = [] ∨ Hog.mayL p.data.toList = false
  · obtain ⟨f1, f2, f3, _⟩ := none_facts hn
    have F1 := hide f1
    have hq : q = [] := by rw [← hv, f2]
    have hb' : b = false := by rw [← hb, f3]
    subst hq
    subst hb'
    clear f1 f2 f3 hv hb hn
    go_enter Tryd.func37, Tryd.ntmps37
    go_wp2_with fail
    refine (rsplit_ok p [] w0 w h hp F1.out).mono ?_
    rintro e w1 ⟨a, c, rfl, _, ok1, hb1⟩
    go_wp2_with fail
    go_ret2
    exact ⟨rfl, ok1, hb1⟩
  · have hne : p.data.toList ≠ [] := fun e => hn (.inl e)
    have hm : Hog.mayL p.data.toList = true := by
      cases hm : Hog.mayL p.data.toList with
      | true => rfl
      | false => exact absurd (.inr hm) hn
    obtain ⟨q', x, e1, e2, _, e4, _, e6, _, _, _, _, _, _, _, _, hlq, hys⟩ := back_facts hne hm
    have hq : q = q' := by rw [← hv, e1]
    subst hq
    have hb' : b = true := by rw [← hb, e2]
    subst hb'
    obtain ⟨j1, j2⟩ := joinV_split e4
    obtain ⟨lq, hlq'⟩ : ∃ lq, lq = Hog.splitL q := ⟨_, rfl⟩
    rw [← hlq'] at e6 hlq j1 j2
    have HZ := hide (show ∀ y ∈ lq, y.length ≤ 60 by intro y hy; exact hys y (by rw [e6]; simp [hy]))
    have E6 := hide e6
    have J1 := hide j1
    have J2 := hide j2
    rename_i g1 g2 g3 g4 g5 g6 g7 g8 g9
    clear e1 e2 e4 e6 hm hne hn hv hb hlq' j1 j2 hys g1 g2 g3 g4 g5 g6 g7 g8 g9
    go_enter Tryd.func37, Tryd.ntmps37
    go_wp2_with fail
    refine (rsplit_ok p (lq ++ [x]) w0 w h hp E6.out).mono ?_
    rintro e w1 ⟨a, c, rfl, ho, ok1, hb1⟩
    obtain ⟨b, c', hv, hc, hbk, _, htxt⟩ := ho.snocAt
    rw [hv]
    have hlen : ((lq.length : Int) + 1 == 0) = false := by rw [beq_eq_false_iff_ne]; omega
    have HT := hide htxt
    have HB1 := hide hb1
    clear ho hv htxt hb1
    go_wp2_with fail
    refine (rjoin_ok _ lq q true w0 w1 ok1 HT.out (by omega) (fun y hy => by have := HZ.out y hy; omega) J1.out J2.out).mono ?_
    rintro e w2 ⟨rfl, ok2, hb2⟩
    go_wp2_with fail
    go_ret2
    exact ⟨rfl, ok2, below_two HB1.out hb2⟩

end Go.Proofs.YtdgchinfanialaaDoor
