/- The walk of the statement PathJoins: for every list of texts it answers true. -/
import Derived.Test.YtphjllnpabpohaaDoorR9
namespace Go.Proofs.YtphjllnpabpohaaDoor
open Go.RowKit

theorem great_not {l : List (List UInt8)} (h : greatV (l.map Hog.mk) = false) : l.length ≤ 14 ∧ ∀ y ∈ l, y.length ≤ 100 := by
  unfold greatV at h
  rw [Bool.or_eq_false_iff, decide_eq_false_iff_not, List.any_eq_false] at h
  refine ⟨by have := h.1; rw [List.length_map] at this; omega, fun y hy => ?_⟩
  have h2 := h.2 (Hog.mk y) (List.mem_map.2 ⟨y, hy, rfl⟩)
  simp only [decide_eq_true_eq, Hog.mk_size] at h2
  omega
theorem texts_mk (xs : List ByteArray) : ∃ l : List (List UInt8), xs = l.map Hog.mk := by
  refine ⟨parts xs, ?_⟩
  unfold parts
  rw [List.map_map]
  conv => lhs; rw [← List.map_id xs]
  exact List.map_congr_left fun x _ => (Hog.data_mk x).symm

set_option maxRecDepth 100000 in
set_option maxHeartbeats 1000000 in
theorem joins_walk (ao : Option Addr) (n c : Nat) (xs : List ByteArray) (w : World) (hsh : w.ShapedOpen Tryd.prog) (ha : Arg w ao n c xs) (hm : n ≤ maxLen) :
    Calls Tryd.prog 4 #[.slice ao n c] w fun e w' => e = .returned (.bool true) ∧ Below w.heap.size w w' := by
  have h0 : Ok w w := Ok.start hsh
  obtain ⟨l, rfl⟩ := texts_mk xs
  have HA := hide ha
  have HM := hide hm
  have hln : n = l.length := by have := ha.len; rw [List.length_map] at this; exact this.symm
  have HN := hide hln
  clear ha hm hln
  cases hg : greatV (l.map Hog.mk) with
  | true =>
    have HG := hide hg
    clear hg
    go_enter Tryd.func4, Tryd.ntmps4
    go_wp2_with fail
    refine (great_ok ao n c _ true w HA.out HM.out HG.out).mono ?_
    rintro e w1 ⟨rfl, rfl⟩
    go_wp2_with fail
    refine (awake_ok _ _ h0).mono ?_
    rintro e w2 ⟨rfl, ok2, _⟩
    go_wp2_with fail
    go_ret
    exact ⟨rfl, ok2.2⟩
  | false =>
    have HG := hide hg
    obtain ⟨h14, h100⟩ := great_not hg
    have HZ := hide h100
    have hn14 : n ≤ 14 := by rw [HN.out]; exact h14
    have hml := Hog.mk_toList
    clear hg h14 h100
    obtain ⟨s, hs⟩ : ∃ s, joinV l = s := ⟨_, rfl⟩
    obtain ⟨b, hb⟩ : ∃ b, Hog.joinOk l = b := ⟨_, rfl⟩
    have HS := hide hs
    have HB := hide hb
    clear hs hb
    go_enter Tryd.func4, Tryd.ntmps4
    go_wp2_with fail
    refine (great_ok ao n c _ false w HA.out HM.out HG.out).mono ?_
    rintro e w1 ⟨he, hw1⟩
    subst he
    subst hw1
    go_wp2_with fail
    refine (lend_any ao n c _ _ HA.out hn14).mono ?_
    rintro e w2 ⟨rfl, hl2, hb2⟩
    have ok2 := h0.next hb2
    have HL2 := hide hl2
    have HA2 := hide (HA.out.below hb2)
    have HT2 := hide hl2.txt
    rw [List.length_map, ← HN.out] at HT2
    clear hl2 hb2
    go_wp2_with fail
    refine (join_ok _ l s b _ w2 ok2 HT2.out (by have := HN.out; omega) (fun y hy => by have := HZ.out y hy; omega) HS.out HB.out).mono ?_
    rintro e w3 ⟨rfl, ok3, bl3⟩
    have HL3 := hide (HL2.out.below bl3)
    have HA3 := hide (HA2.out.below bl3)
    clear bl3
    go_wp2_with fail
    refine (rjoin_ok _ l s b _ w3 ok3 HA3.out.txt (by have := HN.out; omega) (fun y hy => by have := HZ.out y hy; omega) HS.out HB.out).mono ?_
    rintro e w4 ⟨rfl, ok4, bl4⟩
    have HL4 := hide (HL3.out.below bl4)
    have HA4 := hide (HA3.out.below bl4)
    clear bl4
    go_wp2_with fail
    refine (kept_ok ao _ n c _ _ w4 ok4 HL4.out HA4.out hn14).mono ?_
    rintro e w5 ⟨rfl, ok5⟩
    go_wp2_with fail
    refine (awake_ok _ w5 ok5).mono ?_
    rintro e w6 ⟨rfl, ok6, _⟩
    go_wp2_with fail
    go_ret
    exact ⟨rfl, ok6.2⟩

end Go.Proofs.YtphjllnpabpohaaDoor
