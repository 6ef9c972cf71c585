/- The walks of the document's own answer, chapter 7: Names, Own, May. -/
import Derived.Test.YtinjbijigjfdfaaGreatDoorXD
import Derived.Test.YtinjbijigjfdfaaGreatDoorJ5
namespace Go.Proofs.YtinjbijigjfdfaaGreatDoor
open Go.RowKit

set_option maxHeartbeats 400000 in
theorem rown_many (a : Option Addr) (n c : Nat) (w : World) (h : 24 < n) (hm : n ≤ maxLen) :
    Calls Tryz.prog 34 #[.slice a n c] w fun e w' => e = .returned (.bool false) ∧ w' = w := by
  unfold maxLen at hm
  have h' : (24 : Int) < (n : Int) := by omega
  go_enter Tryz.func34, Tryz.ntmps34
  go_wp2
  go_ret
  exact ⟨rfl, rfl⟩
set_option maxHeartbeats 400000 in
theorem rown_not (a : Option Addr) (n c : Nat) (ns : List Nd) (w0 w : World) (hn : n = ns.length) (hok : Ok w0 w) (h : n ≤ 24) (hv : Nods w (.slice a n c) ns) (hp : ∀ x ∈ ns, x.1.size < 900000 ∧ x.2.2.size < 900000) (hm : mayN ns = false) :
    Calls Tryz.prog 34 #[.slice a n c] w fun e w' => e = .returned (.bool false) ∧ Ok w0 w' ∧ Below w.heap.size w w' := by
  have h' : (n : Int) ≤ 24 := by omega
  have HV := hide hv
  have HN := hide hn
  have HP := hide hp
  have HM := hide hm
  clear hv hn hp hm
  go_enter Tryz.func34, Tryz.ntmps34
  go_wp2_with fail
  refine (rmayT_ok _ ns false w0 w hok HP.out HV.out (by have := HN.out; omega) HM.out).mono ?_
  rintro e w1 ⟨rfl, ok1, hb1⟩
  go_wp2
  go_ret
  exact ⟨rfl, ok1, hb1⟩
set_option maxRecDepth 100000 in
set_option maxHeartbeats 1000000 in
theorem rown_some (b o c n : Nat) (ns : List Nd) (w0 w : World) (hok : Ok w0 w) (hn : n = ns.length) (h24 : n ≤ 24) (hcap : n ≤ c) (hr : Run w b o ns) (hp : ∀ x ∈ ns, x.1.size < 900000 ∧ x.2.2.size < 900000) (hm : mayN ns = true) :
    Calls Tryz.prog 34 #[.slice (some ⟨b, o, none⟩) n c] w fun e w' => e = .returned (.bool (ownB ns)) ∧ Ok w0 w' ∧ Below w.heap.size w w' := by
  have h' : (n : Int) ≤ 24 := by omega
  have HR := hide hr
  have HN := hide hn
  have HP := hide hp
  have HM := hide hm
  clear hr hn hp hm
  go_enter Tryz.func34, Tryz.ntmps34
  go_wp2_with fail
  refine (rmayT_ok _ ns true w0 w hok HP.out (.inr ⟨b, o, c, by rw [HN.out], by rw [← HN.out]; exact hcap, HR.out⟩) (by have := HN.out; omega) HM.out).mono ?_
  rintro e w1 ⟨rfl, ok1, hb1⟩
  have HB1 := hide hb1
  clear hb1
  go_wp2
  go_loopw [3] (fun i wr => ∃ k : Nat, k ≤ n ∧ i = .int .i64 k ∧ Hid ((ns.take k).all innerB = true) ∧ Hid (Ok w0 wr) ∧ Hid (Below w.heap.size w wr)) (fun i _ => n - (intOf i).toNat)
  case atStart => exact ⟨0, Nat.zero_le _, rfl, rfl, ok1, HB1⟩
  case round =>
    obtain ⟨k, hk, rfl, hall, OKR, HBR⟩ := hrel
    by_cases hlt : k < n
    · obtain ⟨x, hx⟩ : ∃ x, ns[k]? = some x := ⟨ns[k]'(by have := HN.out; omega), List.getElem?_eq_some_iff.2 ⟨_, rfl⟩⟩
      obtain ⟨g1, g2, g3⟩ := (HR.out.2 k x hx).below HBR.out HR.out.1
      have hxz := (HP.out x (List.mem_of_getElem? hx)).1
      have hki : (k : Int) < (n : Int) := by omega
      have HX := hide hx
      clear hx
      by_cases h120 : 120 < x.1.size
      · have hq : (120 : Int) < (x.1.size : Int) := by omega
        go_wp2
        go_ret
        exact ⟨ret_bool (own_fall HX.out (by unfold innerB; rw [decide_eq_false (by omega)]; rfl)).symm, OKR.out, HBR.out⟩
      · have hq : (x.1.size : Int) ≤ 120 := by omega
        obtain ⟨l, hl⟩ : ∃ l, Hog.splitL x.1.data.toList = l := ⟨_, rfl⟩
        have HL := hide hl
        clear hl
        by_cases hl8 : 8 < l.length
        · have hl8' : (8 : Int) < (l.length : Int) := by omega
          go_wp2_with fail
          refine (rsplit_ok x.1 l w0 _ OKR.out hxz HL.out).mono ?_
          rintro e w2 ⟨a2, c2, rfl, _, ok2, hb2⟩
          have HB2 := hide (below_two HBR.out hb2)
          clear hb2
          go_wp2
          go_ret
          exact ⟨ret_bool (own_fall HX.out (by unfold innerB; rw [HL.out, decide_eq_false (show ¬ l.length ≤ 8 by omega)]; simp)).symm, ok2, HB2.out⟩
        · have hl8' : (l.length : Int) ≤ 8 := by omega
          go_wp2_with fail
          refine (rsplit_ok x.1 l w0 _ OKR.out hxz HL.out).mono ?_
          rintro e w2 ⟨a2, c2, rfl, _, ok2, hb2⟩
          have HB2 := hide (below_two HBR.out hb2)
          clear hb2
          go_wp2
          go_roundw
          case rel => exact ⟨k + 1, by omega, by go_num, inner_step HX.out (by unfold innerB; rw [HL.out, decide_eq_true (show l.length ≤ 8 by omega), decide_eq_true (show x.1.size ≤ 120 by omega)]; rfl) hall.out, ok2, HB2⟩
          case measure => simp [intOf]; omega
    · go_wp2
      go_ret
      refine ⟨ret_bool ?_, OKR.out, HBR.out⟩
      have e : k = ns.length := by have := HN.out; omega
      have h1 := hall.out
      rw [e, List.take_length] at h1
      exact (own_full (by rw [← HN.out]; exact h24) HM.out h1).symm
theorem rown_ok (v : Value) (ns : List Nd) (r : Bool) (w0 w : World) (hok : Ok w0 w) (h : Nods w v ns) (hm : ns.length ≤ maxLen) (hp : ∀ x ∈ ns, x.1.size < 900000 ∧ x.2.2.size < 900000) (hv : ownB ns = r) :
    Calls Tryz.prog 34 #[v] w fun e w' => e = .returned (.bool r) ∧ Ok w0 w' ∧ Below w.heap.size w w' := by
  subst hv
  by_cases h24 : 24 < ns.length
  · obtain ⟨a, c, rfl⟩ := h.form
    rw [own_many h24]
    refine (rown_many a ns.length c w h24 hm).mono ?_
    rintro e w' ⟨rfl, rfl⟩
    exact ⟨rfl, hok, Below.refl _ _⟩
  · cases hb : mayN ns with
    | false =>
      obtain ⟨a, c, rfl⟩ := h.form
      rw [own_not hb]
      exact rown_not a ns.length c ns w0 w rfl hok (by omega) h hp hb
    | true =>
      rcases h with ⟨rfl, a, c, rfl⟩ | ⟨b, o, c, rfl, hc, hr⟩
      · rw [may_nil] at hb; cases hb
      · exact rown_some b o c ns.length ns w0 w hok rfl (by omega) hc hr hp hb

end Go.Proofs.YtinjbijigjfdfaaGreatDoor
