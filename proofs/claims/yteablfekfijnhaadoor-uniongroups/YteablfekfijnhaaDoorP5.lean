/- union.Of. -/
import Derived.Test.YteablfekfijnhaaDoorP4
import Derived.Test.YteablfekfijnhaaDoorS8
namespace Go.Proofs.YteablfekfijnhaaDoor
open Go.RowKit

theorem all_take {ts : List (List Nd)} {k : Nat} {t : List Nd} (h : ∀ x ∈ ts.take k, rootedB x = true) (ht : ts[k]? = some t) (hr : rootedB t = true) : ∀ x ∈ ts.take (k + 1), rootedB x = true := by
  obtain ⟨hk, rfl⟩ := List.getElem?_eq_some_iff.1 ht
  intro x hx
  rw [List.take_succ_eq_append_getElem hk, List.mem_append, List.mem_singleton] at hx
  rcases hx with hx | rfl
  · exact h x hx
  · exact hr
theorem flat_mem_len {ts : List (List Nd)} {k : Nat} {t : List Nd} (h : ts[k]? = some t) : t.length ≤ ts.flatten.length := by
  have h2 := flat_le h t.length
  rw [List.take_length, List.length_append] at h2
  omega
theorem union_arg {policy : Int} {ts : List (List Nd)} (h : policy ≠ 0 ∧ policy ≠ 1) : UnionIs policy ts [] 2 := by unfold UnionIs; rw [if_pos h]; exact ⟨rfl, rfl⟩
theorem union_no {policy : Int} {ts : List (List Nd)} (hp : policy = 0 ∨ policy = 1) {t : List Nd} (ht : t ∈ ts) (hr : rootedB t = false) : UnionIs policy ts [] 7 := by
  unfold UnionIs
  rw [if_neg (by omega), if_pos]
  · exact ⟨rfl, rfl⟩
  · rw [Bool.eq_false_iff]
    intro h
    rw [List.all_eq_true] at h
    rw [h t ht] at hr
    cases hr
theorem union_go {policy : Int} {ts : List (List Nd)} {es : List Nd} {err : Int} (hp : policy = 0 ∨ policy = 1) (hr : ∀ x ∈ ts, rootedB x = true)
    (h : if policy = 0 ∧ (layAll [ndRoot] true ts.flatten).2 = false then es = [] ∧ err = 9 else if 400 < (layAll [ndRoot] true ts.flatten).1.length then es = [] ∧ err = 3 else Sorted (layAll [ndRoot] true ts.flatten).1 es ∧ err = 0) : UnionIs policy ts es err := by
  unfold UnionIs
  have h2 : ts.all rootedB = true := List.all_eq_true.2 hr
  rw [if_neg (by omega), if_neg (by rw [h2]; decide)]
  exact h
theorem union_clash {ts : List (List Nd)} {P : List Nd} (hr : ∀ x ∈ ts, rootedB x = true) (h : layAll [ndRoot] true ts.flatten = (P, false)) : UnionIs 0 ts [] 9 := by
  refine union_go (.inl rfl) hr ?_
  rw [h, if_pos ⟨rfl, rfl⟩]
  exact ⟨rfl, rfl⟩
theorem union_full {policy : Int} {ts : List (List Nd)} {P : List Nd} {a : Bool} (hp : policy = 0 ∨ policy = 1) (hr : ∀ x ∈ ts, rootedB x = true) (h : layAll [ndRoot] true ts.flatten = (P, a)) (ha : ¬ (policy = 0 ∧ a = false)) (hl : 400 < P.length) : UnionIs policy ts [] 3 := by
  refine union_go hp hr ?_
  rw [h, if_neg ha, if_pos hl]
  exact ⟨rfl, rfl⟩
theorem union_done {policy : Int} {ts : List (List Nd)} {P es : List Nd} {a : Bool} (hp : policy = 0 ∨ policy = 1) (hr : ∀ x ∈ ts, rootedB x = true) (h : layAll [ndRoot] true ts.flatten = (P, a)) (ha : ¬ (policy = 0 ∧ a = false)) (hl : ¬ 400 < P.length) (hs : Sorted P es) : UnionIs policy ts es 0 := by
  refine union_go hp hr ?_
  rw [h, if_neg ha, if_neg hl]
  exact ⟨hs, rfl⟩

/-- The answer of union.Of. -/
def OfPost (policy : Int) (ts : List (List Nd)) (w0 w : World) (e : Ending) (w' : World) : Prop :=
  ∃ u es err, e = .returned (.tuple #[u, .int .i64 err]) ∧ OwnN w.heap.size w' u es ∧ UnionIs policy ts es err ∧ Ok w0 w' ∧ Below w.heap.size w w'

set_option maxRecDepth 100000 in
set_option maxHeartbeats 1000000 in
theorem of_arg (policy : Int) (v : Value) (ts : List (List Nd)) (w0 w : World) (ok : Ok w0 w) (hp : policy ≠ 0 ∧ policy ≠ 1) : Calls Tryd.prog 9 #[.int .i64 policy, v] w (OfPost policy ts w0 w) := by
  obtain ⟨h0, h1⟩ := hp
  have d0 : (policy != 0) = true := by simpa using h0
  have d1 : (policy != 1) = true := by simpa using h1
  have H01 := hide (And.intro h0 h1)
  clear h0 h1
  go_enter Tryd.func9, Tryd.ntmps9
  go_wp2
  go_ret2
  exact ⟨_, [], 2, rfl, OwnN.nil _ _, union_arg H01.out, ok, Below.refl _ _⟩

set_option maxRecDepth 100000 in
set_option maxHeartbeats 4000000 in
theorem of_first (v : Value) (ts : List (List Nd)) (w0 w : World) (ok : Ok w0 w) (hT : Trs w v ts) (hz : ∀ t ∈ ts, ∀ n ∈ t, n.1.size < 999999) (hl : ts.length < 1000) (hf : ts.flatten.length < 400000) :
    Calls Tryd.prog 9 #[.int .i64 1, v] w (OfPost 1 ts w0 w) := by
  obtain ⟨ao, c, rfl, hA⟩ := hT.open
  obtain ⟨n, hn⟩ : ∃ n, n = ts.length := ⟨_, rfl⟩
  rw [← hn] at hl hT ⊢
  have HT := hide hT
  have HN := hide hn
  have HA := hide hA
  have HZ := hide hz
  have HSH := hide ok.shape
  have HOK0 := hide ok
  clear hT hA hz hn ok
  go_enter Tryd.func9, Tryd.ntmps9
  go_wp2
  go_loopw [7, 18] (fun _ i wr => ∃ k : Nat, k ≤ n ∧ i = .int .i64 k ∧ Hid (∀ x ∈ ts.take k, rootedB x = true) ∧ Hid (Ok w wr)) (fun _ i _ => n - (intOf i).toNat)
  case atStart => exact ⟨0, Nat.zero_le _, rfl, fun x hx => by simp at hx, Ok.start HSH.out⟩
  case round =>
    obtain ⟨k, hk, rfl, HR, HOK⟩ := hrel
    by_cases hlt : k < n
    · obtain ⟨t, ht⟩ : ∃ t, ts[k]? = some t := ⟨ts[k]'(by have := HN.out; omega), List.getElem?_eq_some_iff.2 ⟨_, rfl⟩⟩
      obtain ⟨b, o, u, rfl, hbs, hcell, hnods⟩ := HA.out k t ht
      have hc1 := (HOK.out.2.cell (p := ⟨b, o + k, none⟩) hbs).trans hcell
      have HN1 := hide (hnods.below HOK.out.2)
      have HTK := hide ht
      obtain ⟨y, hy⟩ : ∃ y, rootedB t = y := ⟨_, rfl⟩
      have HY := hide hy
      clear hcell hnods ht hy
      go_wp2_with fail
      refine (rooted_ok u t y w wr HOK.out (HZ.out t (List.mem_of_getElem? HTK.out)) HN1.out (by have := flat_mem_len HTK.out; omega) HY.out).mono ?_
      rintro e w1 ⟨rfl, ok1, hb1⟩
      clear hb1
      cases y with
      | false =>
        go_wp2
        go_ret2
        exact ⟨_, [], 7, rfl, OwnN.nil _ _, union_no (by decide) (List.mem_of_getElem? HTK.out) HY.out, HOK0.out.next ok1.2, ok1.2⟩
      | true =>
        go_wp2
        go_roundw
        case rel => exact ⟨k + 1, by omega, by go_num, all_take HR.out HTK.out HY.out, ok1⟩
        case measure => simp [intOf]; omega
    · have hkn : k = n := by omega
      have HRA : Hid (∀ x ∈ ts, rootedB x = true) := by
        have h1 := HR.out
        rw [hkn, HN.out, List.take_length] at h1
        exact h1
      have HT1 : Hid (Trs wr (.slice ao n c) ts) := HT.out.below HOK.out.2
      clear HR
      go_wp2_with fail
      refine (laid_ok _ ts wr HOK.out.shape HT1.out HZ.out (by have := HN.out; omega) hf).mono ?_
      rintro e w1 ⟨u, rfl, ho, ok1⟩
      obtain ⟨P, a, hla⟩ : ∃ P a, layAll [ndRoot] true ts.flatten = (P, a) := ⟨_, _, rfl⟩
      rw [hla] at ho ⊢
      have okw : Ok w w1 := HOK.out.next ok1.2
      have HO : Hid (OwnN wr.heap.size w1 u P) := ho
      have HLA := hide hla
      obtain ⟨a3, c3, e3⟩ := HO.out.form
      subst e3
      obtain ⟨m, hm⟩ : ∃ m, m = P.length := ⟨_, rfl⟩
      have HM := hide hm
      rw [← hm] at HO ⊢
      clear ho hla hm ok1
      by_cases h400 : 400 < m
      · have hi : (400 : Int) < (m : Int) := by omega
        go_wp2
        go_ret2
        exact ⟨_, [], 3, rfl, OwnN.nil _ _, union_full (by decide) HRA.out HLA.out (by simp) (by have := HM.out; omega), HOK0.out.next okw.2, okw.2⟩
      · have HAR : Hid (ArgN w1 a3 m c3 P) := by
          obtain ⟨ao4, c4, e4, harg⟩ := HO.out.arg
          simp only [Value.slice.injEq] at e4
          obtain ⟨r1, _, r3⟩ := e4
          rw [← HM.out, ← r1, ← r3] at harg
          exact harg
        have hi : (m : Int) ≤ (400 : Int) := by omega
        go_wp2_with fail
        refine (sort_ok a3 m c3 P w1 HAR.out (by omega)).mono ?_
        rintro e w2 ⟨v5, es, rfl, ho5, hs5, hal5, hb5⟩
        have HO5 := hide ho5
        have HS5 := hide (Sorted.mk hs5 hal5)
        have ok2 := okw.next hb5
        clear ho5 hs5 hal5 hb5
        go_wp2
        go_ret2
        exact ⟨_, es, 0, rfl, HO5.out.base okw.size, union_done (by decide) HRA.out HLA.out (by simp) (by have := HM.out; omega) HS5.out, HOK0.out.next ok2.2, ok2.2⟩

set_option maxRecDepth 100000 in
set_option maxHeartbeats 4000000 in
theorem of_refuse (v : Value) (ts : List (List Nd)) (w0 w : World) (ok : Ok w0 w) (hT : Trs w v ts) (hz : ∀ t ∈ ts, ∀ n ∈ t, n.1.size < 999999) (hl : ts.length < 1000) (hf : ts.flatten.length < 400000) :
    Calls Tryd.prog 9 #[.int .i64 0, v] w (OfPost 0 ts w0 w) := by
  obtain ⟨ao, c, rfl, hA⟩ := hT.open
  obtain ⟨n, hn⟩ : ∃ n, n = ts.length := ⟨_, rfl⟩
  rw [← hn] at hl hT ⊢
  have HT := hide hT
  have HN := hide hn
  have HA := hide hA
  have HZ := hide hz
  have HSH := hide ok.shape
  have HOK0 := hide ok
  clear hT hA hz hn ok
  go_enter Tryd.func9, Tryd.ntmps9
  go_wp2
  go_loopw [7, 18] (fun _ i wr => ∃ k : Nat, k ≤ n ∧ i = .int .i64 k ∧ Hid (∀ x ∈ ts.take k, rootedB x = true) ∧ Hid (Ok w wr)) (fun _ i _ => n - (intOf i).toNat)
  case atStart => exact ⟨0, Nat.zero_le _, rfl, fun x hx => by simp at hx, Ok.start HSH.out⟩
  case round =>
    obtain ⟨k, hk, rfl, HR, HOK⟩ := hrel
    by_cases hlt : k < n
    · obtain ⟨t, ht⟩ : ∃ t, ts[k]? = some t := ⟨ts[k]'(by have := HN.out; omega), List.getElem?_eq_some_iff.2 ⟨_, rfl⟩⟩
      obtain ⟨b, o, u, rfl, hbs, hcell, hnods⟩ := HA.out k t ht
      have hc1 := (HOK.out.2.cell (p := ⟨b, o + k, none⟩) hbs).trans hcell
      have HN1 := hide (hnods.below HOK.out.2)
      have HTK := hide ht
      obtain ⟨y, hy⟩ : ∃ y, rootedB t = y := ⟨_, rfl⟩
      have HY := hide hy
      clear hcell hnods ht hy
      go_wp2_with fail
      refine (rooted_ok u t y w wr HOK.out (HZ.out t (List.mem_of_getElem? HTK.out)) HN1.out (by have := flat_mem_len HTK.out; omega) HY.out).mono ?_
      rintro e w1 ⟨rfl, ok1, hb1⟩
      clear hb1
      cases y with
      | false =>
        go_wp2
        go_ret2
        exact ⟨_, [], 7, rfl, OwnN.nil _ _, union_no (by decide) (List.mem_of_getElem? HTK.out) HY.out, HOK0.out.next ok1.2, ok1.2⟩
      | true =>
        go_wp2
        go_roundw
        case rel => exact ⟨k + 1, by omega, by go_num, all_take HR.out HTK.out HY.out, ok1⟩
        case measure => simp [intOf]; omega
    · have hkn : k = n := by omega
      have HRA : Hid (∀ x ∈ ts, rootedB x = true) := by
        have h1 := HR.out
        rw [hkn, HN.out, List.take_length] at h1
        exact h1
      have HT1 : Hid (Trs wr (.slice ao n c) ts) := HT.out.below HOK.out.2
      clear HR
      go_wp2_with fail
      refine (laid_ok _ ts wr HOK.out.shape HT1.out HZ.out (by have := HN.out; omega) hf).mono ?_
      rintro e w1 ⟨u, rfl, ho, ok1⟩
      obtain ⟨P, a, hla⟩ : ∃ P a, layAll [ndRoot] true ts.flatten = (P, a) := ⟨_, _, rfl⟩
      rw [hla] at ho ⊢
      have okw : Ok w w1 := HOK.out.next ok1.2
      have HO : Hid (OwnN wr.heap.size w1 u P) := ho
      have HLA := hide hla
      obtain ⟨a3, c3, e3⟩ := HO.out.form
      subst e3
      obtain ⟨m, hm⟩ : ∃ m, m = P.length := ⟨_, rfl⟩
      have HM := hide hm
      rw [← hm] at HO ⊢
      clear ho hla hm ok1
      cases a with
      | false =>
        go_wp2
        go_ret2
        exact ⟨_, [], 9, rfl, OwnN.nil _ _, union_clash HRA.out HLA.out, HOK0.out.next okw.2, okw.2⟩
      | true =>
        by_cases h400 : 400 < m
        · have hi : (400 : Int) < (m : Int) := by omega
          go_wp2
          go_ret2
          exact ⟨_, [], 3, rfl, OwnN.nil _ _, union_full (by decide) HRA.out HLA.out (by simp) (by have := HM.out; omega), HOK0.out.next okw.2, okw.2⟩
        · have HAR : Hid (ArgN w1 a3 m c3 P) := by
            obtain ⟨ao4, c4, e4, harg⟩ := HO.out.arg
            simp only [Value.slice.injEq] at e4
            obtain ⟨r1, _, r3⟩ := e4
            rw [← HM.out, ← r1, ← r3] at harg
            exact harg
          have hi : (m : Int) ≤ (400 : Int) := by omega
          go_wp2_with fail
          refine (sort_ok a3 m c3 P w1 HAR.out (by omega)).mono ?_
          rintro e w2 ⟨v5, es, rfl, ho5, hs5, hal5, hb5⟩
          have HO5 := hide ho5
          have HS5 := hide (Sorted.mk hs5 hal5)
          have ok2 := okw.next hb5
          clear ho5 hs5 hal5 hb5
          go_wp2
          go_ret2
          exact ⟨_, es, 0, rfl, HO5.out.base okw.size, union_done (by decide) HRA.out HLA.out (by simp) (by have := HM.out; omega) HS5.out, HOK0.out.next ok2.2, ok2.2⟩

theorem of_ok (policy : Int) (v : Value) (ts : List (List Nd)) (w0 w : World) (ok : Ok w0 w) (hT : Trs w v ts) (hz : ∀ t ∈ ts, ∀ n ∈ t, n.1.size < 999999) (hl : ts.length < 1000) (hf : ts.flatten.length < 400000) :
    Calls Tryd.prog 9 #[.int .i64 policy, v] w (OfPost policy ts w0 w) := by
  by_cases h0 : policy = 0
  · rw [h0]
    exact of_refuse v ts w0 w ok hT hz hl hf
  · by_cases h1 : policy = 1
    · rw [h1]
      exact of_first v ts w0 w ok hT hz hl hf
    · exact of_arg policy v ts w0 w ok ⟨h0, h1⟩
end Go.Proofs.YteablfekfijnhaaDoor
