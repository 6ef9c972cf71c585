/- The walk of the statement HeadReads: for every bytes it answers true. -/
import Derived.Test.YtddbcldgppgpgaaHL
namespace Go.Proofs.Ytddbcldgppgpgaa
open Go.RowKit Hog

set_option maxHeartbeats 4000000 in
theorem reads_walk (ao : Option Addr) (n c : Nat) (l : List UInt8) (w : World) (h : ArgB w ao n c l) :
    Calls Try.prog 5 #[.slice ao n c] w fun e w' => e = .returned (.bool true) ∧ Below w.heap.size w w' := by
  have HA := hide h
  by_cases hn : n > 600
  · have c1 : (n : Int) > 600 := by omega
    clear h hn
    go_enter Try.func5, Try.ntmps5
    go_wp2_with fail
    refine (awake12_ok w w (Ok.start w)).mono ?_
    rintro e w1 ⟨rfl, ok1, _⟩
    go_wp2_with fail
    go_ret
    exact ⟨rfl, ok1⟩
  · have c1 : ¬ ((n : Int) > 600) := by omega
    have HN := hide (show n ≤ 100000 by omega)
    obtain ⟨r, hr⟩ : ∃ r, readH l = r := ⟨_, rfl⟩
    have HR := hide hr
    have hlen := hide h.len
    clear h hn hr
    go_enter Try.func5, Try.ntmps5
    go_wp2_with fail
    refine (lendB_any ao n c l w HA.out HN.out).mono ?_
    rintro e w1 ⟨rfl, hl1, hb1⟩
    have HL1 := hide hl1
    have HA1 := hide (HA.out.below hb1)
    have ok1 : Ok w w1 := hb1
    clear hl1 hb1
    obtain ⟨G, hG⟩ : ∃ G, w.heap.size = G := ⟨_, rfl⟩
    rw [hG] at HL1 ⊢
    clear hG
    go_wp2_with fail
    refine (read_ok _ n (n + 3) l r w w1 ok1 (HL1.out.arg hlen.out.symm) HR.out).mono ?_
    rintro e w2 ⟨he, ok2, hb2⟩
    have HL2 := hide (HL1.out.below hb2 HL1.out.lt)
    have HA2 := hide (HA1.out.below hb2)
    clear hb2 HL1 HA1 ok1
    rcases r with _ | ⟨nm, k, sz, lk⟩
    all_goals
      simp only [outR] at he
      subst he
      go_wp2_with fail
      refine (rread_ok _ n c l _ w w2 ok2 HA2.out HR.out).mono ?_
      rintro e w3 ⟨he, ok3, hb3⟩
      simp only [outR] at he
      subst he
      have HL3 := hide (HL2.out.below hb3 HL2.out.lt)
      have HA3 := hide (HA2.out.below hb3)
      clear hb3 HL2 HA2 ok2
      go_wp2_with fail
      refine (keptB_any ao G n c l w w3 ok3 HL3.out HA3.out HN.out).mono ?_
      rintro e w4 ⟨rfl, ok4, hb4⟩
      go_wp2_with fail
      refine (awake12_ok w w4 ok4).mono ?_
      rintro e w5 ⟨rfl, ok5, _⟩
      go_wp2_with fail
      go_ret
      exact ⟨rfl, ok5⟩
end Go.Proofs.Ytddbcldgppgpgaa
