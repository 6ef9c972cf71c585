/- The walk of item's own mayStand. -/
import Derived.Test.YtinjbijigjfdfaaDoorX3
import Derived.Test.YtinjbijigjfdfaaDoorJ6
namespace Go.Proofs.YtinjbijigjfdfaaDoor
open Go.RowKit

/-- May the node stand within an item? -/
def innerB (n : Nd) : Bool := decide (n.1.size ≤ 120) && decide ((Hog.splitL n.1.data.toList).length ≤ 8)
/-- May these nodes be an item's tree? -/
def ownB (ns : List Nd) : Bool := decide (ns.length ≤ 24) && mayN ns && ns.all innerB
theorem own_many {ns : List Nd} (h : 24 < ns.length) : ownB ns = false := by unfold ownB; rw [decide_eq_false (by omega)]; rfl
theorem own_not {ns : List Nd} (h : mayN ns = false) : ownB ns = false := by unfold ownB; rw [h]; simp
theorem own_fall {ns : List Nd} {k : Nat} {n : Nd} (hn : ns[k]? = some n) (h : innerB n = false) : ownB ns = false := by
  unfold ownB
  rw [Bool.and_eq_false_iff]
  exact .inr (List.all_eq_false.2 ⟨n, List.mem_of_getElem? hn, by simp [h]⟩)
theorem inner_step {ns : List Nd} {k : Nat} {n : Nd} (hn : ns[k]? = some n) (h : innerB n = true) (ha : (ns.take k).all innerB = true) : (ns.take (k + 1)).all innerB = true := by
  obtain ⟨hk, rfl⟩ := List.getElem?_eq_some_iff.1 hn
  rw [List.take_succ_eq_append_getElem hk, List.all_append, ha]
  simpa using h
theorem own_full {ns : List Nd} (h : ns.length ≤ 24) (hm : mayN ns = true) (ha : ns.all innerB = true) : ownB ns = true := by
  unfold ownB; rw [decide_eq_true h, hm, ha]; rfl

set_option maxHeartbeats 400000 in
theorem stand_many (a : Option Addr) (n c : Nat) (w : World) (h : 24 < n) (hm : n ≤ maxLen) :
    Calls Tryd.prog 28 #[.slice a n c] w fun e w' => e = .returned (.bool false) ∧ w' = w := by
  unfold maxLen at hm
  have h' : (24 : Int) < (n : Int) := by omega
  go_enter Tryd.func28, Tryd.ntmps28
  go_wp2
  go_ret
  exact ⟨rfl, rfl⟩
set_option maxHeartbeats 400000 in
theorem stand_not (a : Option Addr) (n c : Nat) (ns : List Nd) (w0 w : World) (hn : n = ns.length) (hok : Ok w0 w) (h : n ≤ 24) (hv : Nods w (.slice a n c) ns) (hp : ∀ x ∈ ns, x.1.size < 900000) (hm : mayN ns = false) :
    Calls Tryd.prog 28 #[.slice a n c] w fun e w' => e = .returned (.bool false) ∧ Ok w0 w' ∧ Below w.heap.size w w' := by
  have h' : (n : Int) ≤ 24 := by omega
  have HV := hide hv
  have HN := hide hn
  have HP := hide hp
  have HM := hide hm
  clear hv hn hp hm
  go_enter Tryd.func28, Tryd.ntmps28
  go_wp2_with fail
  refine (mayT_ok _ ns false w0 w hok (fun x hx => by have := HP.out x hx; omega) HV.out (by have := HN.out; omega) HM.out).mono ?_
  rintro e w1 ⟨rfl, ok1, hb1⟩
  go_wp2
  go_ret
  exact ⟨rfl, ok1, hb1⟩
set_option maxRecDepth 100000 in
set_option maxHeartbeats 1000000 in
theorem stand_some (b o c n : Nat) (ns : List Nd) (w0 w : World) (hok : Ok w0 w) (hn : n = ns.length) (h24 : n ≤ 24) (hcap : n ≤ c) (hr : Run w b o ns) (hp : ∀ x ∈ ns, x.1.size < 900000) (hm : mayN ns = true) :
    Calls Tryd.prog 28 #[.slice (some ⟨b, o, none⟩) n c] w fun e w' => e = .returned (.bool (ownB ns)) ∧ Ok w0 w' ∧ Below w.heap.size w w' := by
  have h' : (n : Int) ≤ 24 := by omega
  have HR := hide hr
  have HN := hide hn
  have HP := hide hp
  have HM := hide hm
  clear hr hn hp hm
  go_enter Tryd.func28, Tryd.ntmps28
  go_wp2_with fail
  refine (mayT_ok _ ns true w0 w hok (fun x hx => by have := HP.out x hx; omega) (.inr ⟨b, o, c, by rw [HN.out], by rw [← HN.out]; exact hcap, HR.out⟩) (by have := HN.out; omega) HM.out).mono ?_
  rintro e w1 ⟨rfl, ok1, hb1⟩
  have HB1 := hide hb1
  clear hb1
  go_wp2
  go_loopw [4, 15] (fun _ i wr => ∃ k : Nat, k ≤ n ∧ i = .int .i64 k ∧ Hid ((ns.take k).all innerB = true) ∧ Hid (Ok w0 wr) ∧ Hid (Below w.heap.size w wr)) (fun _ i _ => n - (intOf i).toNat)
  case atStart => exact ⟨0, Nat.zero_le _, rfl, rfl, ok1, HB1⟩
  case round =>
    obtain ⟨k, hk, rfl, hall, OKR, HBR⟩ := hrel
    by_cases hlt : k < n
    · obtain ⟨x, hx⟩ : ∃ x, ns[k]? = some x := ⟨ns[k]'(by have := HN.out; omega), List.getElem?_eq_some_iff.2 ⟨_, rfl⟩⟩
      obtain ⟨g1, g2, g3⟩ := (HR.out.2 k x hx).below HBR.out HR.out.1
      have hxz := HP.out x (List.mem_of_getElem? hx)
      have hki : (k : Int) < (n : Int) := by omega
      have HX := hide hx
      clear hx
      have OKA := hide (OKR.out.alloc (.cells #[.string x.1, .int .i64 x.2.1, .string x.2.2] 57))
      have HBA := hide (below_two HBR.out (below_box wr (.cells #[.string x.1, .int .i64 x.2.1, .string x.2.2] 57)))
      by_cases h120 : 120 < x.1.size
      · have hq : (120 : Int) < (x.1.size : Int) := by omega
        go_wp2
        go_ret
        exact ⟨ret_bool (own_fall HX.out (by unfold innerB; rw [decide_eq_false (by omega)]; rfl)).symm, OKA.out, HBA.out⟩
      · have hq : (x.1.size : Int) ≤ 120 := by omega
        obtain ⟨l, hl⟩ : ∃ l, Hog.splitL x.1.data.toList = l := ⟨_, rfl⟩
        have HL := hide hl
        clear hl
        by_cases hl8 : 8 < l.length
        · have hl8' : (8 : Int) < (l.length : Int) := by omega
          go_wp2_with fail
          refine (split_ok x.1 l w0 _ OKA.out (by omega) HL.out).mono ?_
          rintro e w2 ⟨a2, c2, rfl, _, ok2, hb2⟩
          have HB2 := hide (below_two HBA.out hb2)
          clear hb2
          go_wp2
          go_ret
          exact ⟨ret_bool (own_fall HX.out (by unfold innerB; rw [HL.out, decide_eq_false (show ¬ l.length ≤ 8 by omega)]; simp)).symm, ok2, HB2.out⟩
        · have hl8' : (l.length : Int) ≤ 8 := by omega
          go_wp2_with fail
          refine (split_ok x.1 l w0 _ OKA.out (by omega) HL.out).mono ?_
          rintro e w2 ⟨a2, c2, rfl, _, ok2, hb2⟩
          have HB2 := hide (below_two HBA.out hb2)
          clear hb2
          go_wp2
          go_roundw
          case rel => exact ⟨k + 1, by omega, by go_num, inner_step HX.out (by unfold innerB; rw [HL.out, decide_eq_true (show l.length ≤ 8 by omega), decide_eq_true (show x.1.size ≤ 120 by omega)]; rfl) hall.out, ok2, HB2⟩
          case measure => simp [intOf]; omega
    · go_wp2
      go_ret
      refine ⟨ret_bool ?_, OKR.out, HBR.out⟩
      have e : k = ns.length := by have := HN.out; omega
      have h1 := hall.out
      rw [e, List.take_length] at h1
      exact (own_full (by rw [← HN.out]; exact h24) HM.out h1).symm

theorem may_nil : mayN [] = false := by decide
theorem stand_ok (v : Value) (ns : List Nd) (r : Bool) (w0 w : World) (hok : Ok w0 w) (h : Nods w v ns) (hm : ns.length ≤ maxLen) (hp : ∀ x ∈ ns, x.1.size < 900000) (hv : ownB ns = r) :
    Calls Tryd.prog 28 #[v] w fun e w' => e = .returned (.bool r) ∧ Ok w0 w' ∧ Below w.heap.size w w' := by
  subst hv
  by_cases h24 : 24 < ns.length
  · obtain ⟨a, c, rfl⟩ := h.form
    rw [own_many h24]
    refine (stand_many a ns.length c w h24 hm).mono ?_
    rintro e w' ⟨rfl, rfl⟩
    exact ⟨rfl, hok, Below.refl _ _⟩
  · cases hb : mayN ns with
    | false =>
      obtain ⟨a, c, rfl⟩ := h.form
      rw [own_not hb]
      exact stand_not a ns.length c ns w0 w rfl hok (by omega) h hp hb
    | true =>
      rcases h with ⟨rfl, a, c, rfl⟩ | ⟨b, o, c, rfl, hc, hr⟩
      · rw [may_nil] at hb; cases hb
      · exact stand_some b o c ns.length ns w0 w hok rfl (by omega) hc hr hp hb
end Go.Proofs.YtinjbijigjfdfaaDoor
