/- The walks of package tree: Bad, May. -/
import Derived.Test.YtomomeckgiiapaaDoorN8
namespace Go.Proofs.YtomomeckgiiapaaDoor
open Go.RowKit

/-- The place of the first node that is refused, the ones ahead of it given; or -1. -/
def badFrom (ahead : List Nd) : List Nd → Int
  | [] => -1
  | n :: r => if refusesB ahead n = true then (ahead.length : Int) else badFrom (ahead ++ [n]) r
def badN (t : List Nd) : Int := if t.isEmpty then 0 else badFrom [] t
def mayN (t : List Nd) : Bool := decide (badN t < 0)

theorem badFrom_at {t : List Nd} {k : Nat} {n : Nd} (hn : t[k]? = some n) (hr : refusesB (t.take k) n = true) : badFrom (t.take k) (t.drop k) = k := by
  obtain ⟨hk, rfl⟩ := List.getElem?_eq_some_iff.1 hn
  rw [List.drop_eq_getElem_cons hk, badFrom, if_pos hr, List.length_take]
  omega
theorem badFrom_on {t : List Nd} {k : Nat} {n : Nd} (hn : t[k]? = some n) (hr : refusesB (t.take k) n = false) : badFrom (t.take k) (t.drop k) = badFrom (t.take (k + 1)) (t.drop (k + 1)) := by
  obtain ⟨hk, rfl⟩ := List.getElem?_eq_some_iff.1 hn
  rw [List.drop_eq_getElem_cons hk, badFrom, if_neg (by rw [hr]; decide), List.take_succ_eq_append_getElem hk]
theorem badFrom_end (t : List Nd) : badFrom (t.take t.length) (t.drop t.length) = -1 := by
  rw [List.drop_length, badFrom]
theorem rising_nil : Rising [] := fun i j x y _ h => by simp at h
theorem rising_step {t : List Nd} {k : Nat} {n : Nd} (hn : t[k]? = some n) (hr : refusesB (t.take k) n = false) (hs : Rising (t.take k)) : Rising (t.take (k + 1)) := by
  obtain ⟨hk, rfl⟩ := List.getElem?_eq_some_iff.1 hn
  rw [List.take_succ_eq_append_getElem hk]
  intro i j x y hij hx hy
  have hlen : (t.take k).length = k := by rw [List.length_take]; omega
  have hjl := (List.getElem?_eq_some_iff.1 hy).1
  rw [List.length_append, hlen, List.length_singleton] at hjl
  rw [List.getElem?_append_left (by omega)] at hx
  by_cases hjk : j < k
  · rw [List.getElem?_append_left (by omega)] at hy
    exact hs i j x y hij hx hy
  · have hjk' : j = k := by omega
    subst hjk'
    rw [List.getElem?_append_right (by omega), hlen, Nat.sub_self] at hy
    simp at hy
    subst hy
    obtain ⟨q, rfl⟩ : ∃ q, j = q + 1 := ⟨j - 1, by omega⟩
    have hq : t[q]? = some t[q] := List.getElem?_eq_getElem (by omega)
    have hg : goodB t[q + 1] = true := by
      cases h : goodB t[q + 1] with
      | true => rfl
      | false => rw [refusesB_bad h] at hr; cases hr
    have hl : (t.take (q + 1)).length ≠ 400 := fun h => by rw [refusesB_full h] at hr; cases hr
    rw [refusesB_next hg hl (take_last hq), Bool.or_eq_false_iff] at hr
    have hlt : ltN t[q] t[q + 1] = true := by simpa using hr.1
    by_cases hiq : i = q
    · subst hiq
      rw [List.getElem?_take_of_lt (by omega), hq] at hx
      cases hx
      exact hlt
    · exact ltN_trans (hs i q x t[q] (by omega) hx (by rw [List.getElem?_take_of_lt (by omega)]; exact hq)) hlt

theorem enters_refuses : ∀ args w, (callFunc 59 args).run Tryd.prog w = .ok (.enter 59 args) w := enters_of Tryd.func59 (by kernel_rfl) rfl

set_option maxRecDepth 100000 in
set_option maxHeartbeats 1000000 in
theorem indexf_ok (g b o c : Nat) (t : List Nd) (w0 w : World) (h : Ok w0 w) (hg : w0.heap.size ≤ g) (hp : ∀ n ∈ t, n.1.size < 999999) (hw : WalkAt w g (.slice (some ⟨b, o, none⟩) t.length c) 0) (hr : Run w b o t) (hbg : b < g)
    (hm : t.length < 1000000) (hmc : t.length ≤ c) :
    Calls Tryd.prog 58 #[.slice (some ⟨b, o, none⟩) t.length c, .func (.func 59) #[.pointer (some ⟨g, 0, none⟩)] #[]] w
      fun e w' => e = .returned (.int .i64 (badFrom [] t)) ∧ Ok w0 w' ∧ Below g w w' := by
  obtain ⟨m, hmt⟩ : ∃ m, m = t.length := ⟨_, rfl⟩
  have HMT := hide hmt
  have HR := hide hr
  have HP := hide hp
  have HWA := hide hw
  have hm' : m < 1000000 := by omega
  rw [← hmt]
  clear hmt hr hp hw
  go_enter Tryd.func58, Tryd.ntmps58
  go_wp2
  go_loopw [5, 8] (fun _ i wr => ∃ k : Nat, k ≤ m ∧ i = .int .i64 k ∧ Hid (badFrom (t.take k) (t.drop k) = badFrom [] t) ∧ Hid (Rising (t.take k)) ∧ Hid (WalkAt wr g (.slice (some ⟨b, o, none⟩) t.length c) k) ∧ Hid (Below g w wr)) (fun _ i _ => m - (intOf i).toNat)
  case atStart => exact ⟨0, Nat.zero_le _, rfl, by simp [Hid], rising_nil, HWA, Below.refl _ _⟩
  case round =>
    obtain ⟨k, hk, rfl, HBF, HRI, HWK, HB⟩ := hrel
    by_cases hlt : k < m
    · obtain ⟨n, hn⟩ : ∃ n, t[k]? = some n := ⟨t[k]'(by have := HMT.out; omega), List.getElem?_eq_some_iff.2 ⟨_, rfl⟩⟩
      obtain ⟨g1, g2, g3⟩ := (HR.out.2 k n hn).below HB.out hbg
      have HN := hide hn
      have hkt : k < t.length := by rw [← HMT.out]; exact hlt
      clear hn
      have okr : Ok w0 wr := h.step (HB.out.mono hg)
      cases hrf : refusesB (t.take k) n with
      | true =>
        have HRF := hide hrf
        clear hrf
        go_wp2_with fail
        refine (refuses_ok n g b o c k t true w0 wr okr hg (HP.out n (List.mem_of_getElem? HN.out)) HWK.out (HR.out.below HB.out hbg) hbg HRI.out hm hkt hmc HRF.out).mono ?_
        rintro e w1 ⟨rfl, hwa1, ok1, hb1⟩
        have HB1 := hide (HB.out.trans hb1)
        clear hwa1 hb1
        go_wp2
        go_ret
        exact ⟨ret_int (by rw [← HBF.out, badFrom_at HN.out HRF.out]), ok1, HB1.out⟩
      | false =>
        have HRF := hide hrf
        clear hrf
        go_wp2_with fail
        refine (refuses_ok n g b o c k t false w0 wr okr hg (HP.out n (List.mem_of_getElem? HN.out)) HWK.out (HR.out.below HB.out hbg) hbg HRI.out hm hkt hmc HRF.out).mono ?_
        rintro e w1 ⟨rfl, hwa1, ok1, hb1⟩
        have HB1 := hide (HB.out.trans hb1)
        have HWA1 := hide hwa1
        clear hwa1 hb1
        go_wp2
        go_roundw
        case rel => exact ⟨k + 1, by omega, by go_num, hide ((badFrom_on HN.out HRF.out).symm.trans HBF.out), hide (rising_step HN.out HRF.out HRI.out), HWA1, HB1⟩
        case measure => simp [intOf]; omega
    · go_wp2
      go_ret
      refine ⟨ret_int ?_, h.step (HB.out.mono hg), HB.out⟩
      have e : k = t.length := by have := HMT.out; omega
      rw [← HBF.out, e, badFrom_end]

set_option maxHeartbeats 800000 in
theorem bad_none (a : Option Addr) (c : Nat) (w : World) :
    Calls Tryd.prog 44 #[.slice a 0 c] w fun e w' => e = .returned (.int .i64 0) ∧ w' = w := by
  go_enter Tryd.func44, Tryd.ntmps44
  go_wp2
  go_ret
  exact ⟨rfl, rfl⟩
set_option maxHeartbeats 800000 in
theorem bad_some (b o c : Nat) (t : List Nd) (w0 w : World) (h : Ok w0 w) (hp : ∀ n ∈ t, n.1.size < 999999) (hr : Run w b o t) (hne : t ≠ []) (hm : t.length < 1000000) (hmc : t.length ≤ c) :
    Calls Tryd.prog 44 #[.slice (some ⟨b, o, none⟩) t.length c] w fun e w' => e = .returned (.int .i64 (badFrom [] t)) ∧ Ok w0 w' ∧ Below w.heap.size w w' := by
  have hz : ((t.length : Int) == 0) = false := by
    have := List.length_pos_iff.2 hne
    rw [beq_eq_false_iff_ne]; omega
  have HR := hide hr
  have HP := hide hp
  clear hr hp hne
  go_enter Tryd.func44, Tryd.ntmps44
  go_wp2_with fail
  refine (indexf_ok w.heap.size b o c t w0 _ (h.alloc _) h.size HP.out (by unfold WalkAt; exact heap_alloc_new w _) (HR.out.below (below_box _ _) HR.out.1) HR.out.1 hm hmc).mono ?_
  rintro e w1 ⟨rfl, ok1, hb1⟩
  go_wp2
  go_ret
  exact ⟨rfl, ok1, (below_box _ _).trans hb1⟩

theorem bad_ok (v : Value) (t : List Nd) (r : Int) (w0 w : World) (h : Ok w0 w) (hp : ∀ n ∈ t, n.1.size < 999999) (hn : Nods w v t) (hm : t.length < 1000000) (hv : badN t = r) :
    Calls Tryd.prog 44 #[v] w fun e w' => e = .returned (.int .i64 r) ∧ Ok w0 w' ∧ Below w.heap.size w w' := by
  subst hv
  cases t with
  | nil =>
    obtain ⟨a, c, rfl⟩ := hn.form
    refine (bad_none a c w).mono ?_
    rintro e w' ⟨rfl, rfl⟩
    exact ⟨rfl, h, Below.refl _ _⟩
  | cons x r =>
    rcases hn with ⟨e, _⟩ | ⟨b, o, c, rfl, hc, hr⟩
    · cases e
    · exact bad_some b o c (x :: r) w0 w h hp hr (by simp) hm hc

set_option maxHeartbeats 800000 in
theorem mayT_ok (v : Value) (t : List Nd) (b : Bool) (w0 w : World) (h : Ok w0 w) (hp : ∀ n ∈ t, n.1.size < 999999) (hn : Nods w v t) (hm : t.length < 1000000) (hv : mayN t = b) :
    Calls Tryd.prog 23 #[v] w fun e w' => e = .returned (.bool b) ∧ Ok w0 w' ∧ Below w.heap.size w w' := by
  have HP := hide hp
  have HN := hide hn
  have HV := hide hv
  obtain ⟨r, hr⟩ : ∃ r, r = badN t := ⟨_, rfl⟩
  have HR := hide hr
  clear hp hn hv hr
  go_enter Tryd.func23, Tryd.ntmps23
  go_wp2_with fail
  refine (bad_ok v t r w0 w h HP.out HN.out hm HR.out.symm).mono ?_
  rintro e w1 ⟨rfl, ok1, hb1⟩
  go_wp2
  go_ret
  exact ⟨ret_bool (by rw [← HV.out, HR.out]; rfl), ok1, hb1⟩
end Go.Proofs.YtomomeckgiiapaaDoor
