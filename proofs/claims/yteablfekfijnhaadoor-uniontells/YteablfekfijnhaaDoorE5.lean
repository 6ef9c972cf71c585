/- The walk of the statement UnionTells: of whatever policy and trees it answers true. -/
import Derived.Test.YteablfekfijnhaaDoorE2
import Derived.Test.YteablfekfijnhaaDoorQ2
namespace Go.Proofs.YteablfekfijnhaaDoor
open Go.RowKit

theorem union_one {policy : Int} {ts : List (List Nd)} {es fs : List Nd} {e f : Int} (h : UnionIs policy ts es e) (k : UnionIs policy ts fs f) (hl : ts.flatten.length < 400) : es = fs ∧ e = f := by
  by_cases hp : policy ≠ 0 ∧ policy ≠ 1
  · unfold UnionIs at h k
    rw [if_pos hp] at h k
    exact ⟨h.1.trans k.1.symm, h.2.trans k.2.symm⟩
  · have hp' : policy = 0 ∨ policy = 1 := by omega
    rcases union_cases hp' h hl with ⟨r1, rfl, rfl⟩ | ⟨r1, p1, c1, rfl, rfl⟩ | ⟨r1, c1, s1, rfl⟩
    · rcases union_cases hp' k hl with ⟨_, rfl, rfl⟩ | ⟨r2, _⟩ | ⟨r2, _⟩
      · exact ⟨rfl, rfl⟩
      · rw [r1] at r2; cases r2
      · rw [r1] at r2; cases r2
    · rcases union_cases hp' k hl with ⟨r2, _⟩ | ⟨_, _, _, rfl, rfl⟩ | ⟨_, c2, _⟩
      · rw [r1] at r2; cases r2
      · exact ⟨rfl, rfl⟩
      · rw [c2 p1] at c1; cases c1
    · rcases union_cases hp' k hl with ⟨r2, _⟩ | ⟨_, p2, c2, _⟩ | ⟨_, _, s2, rfl⟩
      · rw [r1] at r2; cases r2
      · rw [c1 p2] at c2; cases c2
      · exact ⟨s1.eq s2 (rooted_pil r1) (rooted_pil r1) fun x => Iff.rfl, rfl⟩
theorem union_len {policy : Int} {ts : List (List Nd)} {es : List Nd} {e : Int} (h : UnionIs policy ts es e) (hl : ts.flatten.length < 400) : es.length ≤ 401 := by
  by_cases hp : policy ≠ 0 ∧ policy ≠ 1
  · unfold UnionIs at h
    rw [if_pos hp] at h
    rw [h.1]; simp
  · have hp' : policy = 0 ∨ policy = 1 := by omega
    rcases union_cases hp' h hl with ⟨_, rfl, _⟩ | ⟨_, _, _, rfl, _⟩ | ⟨_, _, s1, _⟩
    · simp
    · simp
    · rw [← (alike_perm s1.alike).length_eq]
      have := layAll_len [ndRoot] true ts.flatten
      simp only [List.length_singleton] at this
      omega

theorem num_any (x : Int) (w : World) : Calls Tryd.prog 12 #[.int .i64 x] w fun e w' => e = .returned (.int .i64 x) ∧ w' = w := by
  go_enter Tryd.func12, Tryd.ntmps12
  go_wp2
  go_ret
  exact ⟨rfl, rfl⟩

set_option maxRecDepth 100000 in
set_option maxHeartbeats 4000000 in
theorem tells_walk (policy : Int) (v : Value) (ts : List (List Nd)) (w : World) (hsh : w.ShapedOpen Tryd.prog) (hT : Trs w v ts) (hm : ∀ t ∈ ts, t.length ≤ maxLen) :
    Calls Tryd.prog 3 #[.int .i64 policy, v] w fun e w' => e = .returned (.bool true) ∧ Below w.heap.size w w' := by
  obtain ⟨ao, c, rfl⟩ := hT.form
  obtain ⟨n, hn⟩ : ∃ n, n = ts.length := ⟨_, rfl⟩
  rw [← hn] at hT ⊢
  have HN := hide hn
  have HT := hide hT
  have HM := hide hm
  have ok0 : Ok w w := Ok.start hsh
  clear hT hm hn
  go_enter Tryd.func3, Tryd.ntmps3
  go_wp2_with fail
  refine (great_ok _ ts w HT.out HM.out).mono ?_
  rintro e w1 ⟨g, rfl, hg, rfl⟩
  cases g with
  | true =>
    go_wp2_with fail
    refine (awake4_ok w1 w1 ok0).mono ?_
    rintro e w2 ⟨rfl, ok2, hb2⟩
    go_wp2
    go_ret
    exact ⟨rfl, hb2⟩
  | false =>
    have HS := hide (hg rfl)
    have HFL : Hid (ts.flatten.length < 400) := by have := HS.out.flat; show _ < _; omega
    clear hg
    go_wp2_with fail
    refine (of_ok policy _ ts w1 w1 ok0 HT.out HS.out.size (by have := HS.out.1; omega) (by have := HS.out.flat; omega)).mono ?_
    rintro e w2 ⟨va, a, e1, rfl, hoa, hua, ok2, hb2⟩
    have HOA := hide hoa
    have HUA := hide hua
    have HT2 := hide (HT.out.below hb2)
    clear hoa hua hb2
    go_wp2_with fail
    refine (rof_ok policy _ ts w1 w2 ok2 HT2.out (fun t ht => ⟨by have := (HS.out.2 t ht).1; omega, fun n hn => by have := (HS.out.2 t ht).2 n hn; omega⟩) (by have := HS.out.1; omega) (by have := HS.out.flat; omega)).mono ?_
    rintro e w3 ⟨vb, bs, f1, rfl, hob, hub, ok3, hb3⟩
    obtain ⟨rfl, rfl⟩ := union_one HUA.out hub HFL.out
    have hal := union_len HUA.out HFL.out
    have HTW := hide (two_bases HOA.out hob (Nat.le_refl _))
    have HOA3 := hide (HOA.out.below hb3)
    have HOB3 := hide hob
    have hsz2 := ok2.size
    clear hob hub hb3 HOA HT2
    go_wp2_with fail
    refine (sameN_any va vb a a w3 HOA3.out.nods HOB3.out.nods (by omega)).mono ?_
    rintro e w4 ⟨rfl, hb4⟩
    rw [show decide (a = a) = true from by simp]
    have ok4 := ok3.next hb4
    have HOA4 := hide (HOA3.out.below hb4)
    have HOB4 := hide (HOB3.out.below hb4)
    clear hb4 HOA3 HOB3
    go_wp2_with fail
    refine (num_any e1 w4).mono ?_
    rintro e w5 ⟨rfl, rfl⟩
    go_wp2_with fail
    refine (overN_ok va a w1.heap.size w5 HOA4.out ok4.size (by omega)).mono ?_
    rintro e w6 ⟨rfl, hg6⟩
    have HOB6 := hide (Two.kept HTW.out hg6 HOB4.out)
    have ok6 := ok4.step (HOA4.out.grownBelow hg6 ok4.size)
    have HT6 := hide (HT.out.below ok6.2)
    clear hg6 HOA4 HOB4
    go_wp2_with fail
    refine (of_ok policy _ ts w1 w6 ok6 HT6.out HS.out.size (by have := HS.out.1; omega) (by have := HS.out.flat; omega)).mono ?_
    rintro e w7 ⟨vc, cs, g1, rfl, hoc, huc, ok7, hb7⟩
    obtain ⟨rfl, rfl⟩ := union_one HUA.out huc HFL.out
    have HOC := hide hoc
    have HOB7 := hide (HOB6.out.below hb7)
    clear hoc huc hb7 HOB6 HT6
    go_wp2_with fail
    refine (sameN_any vc vb a a w7 HOC.out.nods HOB7.out.nods (by omega)).mono ?_
    rintro e w8 ⟨rfl, hb8⟩
    rw [show decide (a = a) = true from by simp]
    have ok8 := ok7.next hb8
    clear hb8
    go_wp2_with fail
    refine (awake4_ok w1 w8 ok8).mono ?_
    rintro e w9 ⟨rfl, ok9, hb9⟩
    go_wp2
    go_ret
    exact ⟨rfl, ok9.2⟩
end Go.Proofs.YteablfekfijnhaaDoor
