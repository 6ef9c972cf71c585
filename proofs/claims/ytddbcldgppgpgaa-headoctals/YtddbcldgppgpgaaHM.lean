/- The walk of the statement HeadOctals: for every two numbers and every text it answers true. -/
import Derived.Test.YtddbcldgppgpgaaHL
namespace Go.Proofs.Ytddbcldgppgpgaa
open Go.RowKit Hog

set_option maxHeartbeats 2000000 in
theorem octals_walk (n d : Int) (s : ByteArray) (w : World) (hn : n < 9223372036854775808) :
    Calls Try.prog 3 #[.int .i64 n, .int .i64 d, .string s] w fun e w' => e = .returned (.bool true) ∧ Below w.heap.size w w' := by
  by_cases hs : s.size > 20
  · have c1 : (s.size : Int) > 20 := by omega
    clear hs
    go_enter Try.func3, Try.ntmps3
    go_wp2_with fail
    refine (awake12_ok w w (Ok.start w)).mono ?_
    rintro e w1 ⟨rfl, ok1, _⟩
    go_wp2_with fail
    go_ret
    exact ⟨rfl, ok1⟩
  · have c1 : ¬ ((s.size : Int) > 20) := by omega
    obtain ⟨x, hx⟩ : ∃ x, octT n d = x := ⟨_, rfl⟩
    obtain ⟨b, hb⟩ : ∃ b, octR n d = b := ⟨_, rfl⟩
    obtain ⟨m, hm⟩ : ∃ m, ofT s.data.toList = m := ⟨_, rfl⟩
    obtain ⟨f, hf⟩ : ∃ f, ofR s.data.toList = f := ⟨_, rfl⟩
    have HX := hide hx
    have HB := hide hb
    have HM := hide hm
    have HF := hide hf
    have HO : Hid (b = true → ofR x = true ∧ (ofT x : Int) = n ∧ (x.length : Int) = d) := by
      rw [← hx, ← hb]
      exact hide fun h => of_oct h
    clear hs hx hb hm hf
    go_enter Try.func3, Try.ntmps3
    go_wp2_with fail
    refine (octal_ok n d x b w w (Ok.start w) hn HX.out HB.out).mono ?_
    rintro e w1 ⟨rfl, ok1, _⟩
    go_wp2_with fail
    refine (roctal_ok n d x b w w1 ok1 hn HX.out HB.out).mono ?_
    rintro e w2 ⟨rfl, ok2, _⟩
    go_wp2_with fail
    refine (ofoctal_ok s _ m f w2 rfl HM.out HF.out).mono ?_
    rintro e w3 ⟨rfl, rfl⟩
    go_wp2_with fail
    refine (rofoctal_ok s _ m f w3 rfl HM.out HF.out).mono ?_
    rintro e w4 ⟨rfl, rfl⟩
    cases b
    · clear HO
      go_wp2_with fail
      refine (awake12_ok w w4 ok2).mono ?_
      rintro e w5 ⟨rfl, ok5, _⟩
      go_wp2_with fail
      go_ret
      exact ⟨rfl, ok5⟩
    · obtain ⟨h1, h2, h3⟩ := HO.out rfl
      obtain ⟨q, hq⟩ : ∃ q, ofT x = q := ⟨_, rfl⟩
      have HQ := hide hq
      have H1 := hide h1
      have c2 : ((q : Int) == n) = true := by rw [← hq, h2]; simp
      have c3 : (((mk x).size : Int) == d) = true := by rw [mk_size, h3]; simp
      clear h1 h2 h3 hq HO
      go_wp2_with fail
      refine (ofoctal_ok (mk x) x q true w4 (mk_data x) HQ.out H1.out).mono ?_
      rintro e w5 ⟨rfl, rfl⟩
      go_wp2_with fail
      refine (awake12_ok w w5 ok2).mono ?_
      rintro e w6 ⟨rfl, ok6, _⟩
      go_wp2_with fail
      go_ret
      exact ⟨rfl, ok6⟩
end Go.Proofs.Ytddbcldgppgpgaa
