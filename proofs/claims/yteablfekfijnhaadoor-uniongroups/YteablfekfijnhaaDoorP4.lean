/- laid: all nodes of all trees, laid onto the root. -/
import Derived.Test.YteablfekfijnhaaDoorP3
namespace Go.Proofs.YteablfekfijnhaaDoor
open Go.RowKit

theorem Trs.open {w : World} {v : Value} {ts : List (List Nd)} (h : Trs w v ts) : ∃ ao c, v = .slice ao ts.length c ∧ ∀ (j : Nat) t, ts[j]? = some t → ∃ b o u, ao = some ⟨b, o, none⟩ ∧ b < w.heap.size ∧ w.cell? ⟨b, o + j, none⟩ = some u ∧ Nods w u t := by
  rcases h with ⟨rfl, a, c, rfl⟩ | ⟨b, o, c, rfl, hc, hl, hr⟩
  · exact ⟨a, c, rfl, fun j t h => by simp at h⟩
  · refine ⟨_, c, rfl, fun j t ht => ?_⟩
    obtain ⟨u, h1, h2⟩ := hr j t ht
    exact ⟨b, o, u, rfl, hl, h1, h2⟩
theorem Nods.open {w : World} {v : Value} {t : List Nd} (h : Nods w v t) : ∃ ao c, v = .slice ao t.length c ∧ ∀ (j : Nat) n, t[j]? = some n → ∃ b o, ao = some ⟨b, o, none⟩ ∧ b < w.heap.size ∧ At w b (o + j * 3) n := by
  rcases h with ⟨rfl, a, c, rfl⟩ | ⟨b, o, c, rfl, hc, hl, hr⟩
  · exact ⟨a, c, rfl, fun j n h => by simp at h⟩
  · exact ⟨_, c, rfl, fun j n hn => ⟨b, o, rfl, hl, hr j n hn⟩⟩

theorem PileAt.start (w : World) : PileAt w.heap.size ((w.alloc (.map #[] 0)).alloc (.cells #[.slice none 0 0, .map (some w.heap.size)] 60)) (w.heap.size + 1) w.heap.size (.slice none 0 0) [] := by
  have e : (w.alloc (.map #[] 0)).heap.size = w.heap.size + 1 := by simp
  refine ⟨by omega, ?_, Nat.le_refl _, (MapOf.made w).below (below_alloc _ _), OwnN.nil _ _⟩
  rw [← e]
  exact heap_alloc_new _ _
theorem flat_step {ts : List (List Nd)} {k : Nat} {t : List Nd} (h : ts[k]? = some t) : (ts.take (k + 1)).flatten = (ts.take k).flatten ++ t := by
  obtain ⟨hk, rfl⟩ := List.getElem?_eq_some_iff.1 h
  rw [List.take_succ_eq_append_getElem hk, List.flatten_append, List.flatten_cons, List.flatten_nil, List.append_nil]
theorem flat_le {ts : List (List Nd)} {k : Nat} {t : List Nd} (h : ts[k]? = some t) (j : Nat) : ((ts.take k).flatten ++ t.take j).length ≤ ts.flatten.length := by
  obtain ⟨hk, rfl⟩ := List.getElem?_eq_some_iff.1 h
  have e : ts.flatten = (ts.take k).flatten ++ (ts[k] ++ (ts.drop (k + 1)).flatten) := by
    rw [← List.flatten_cons, ← List.drop_eq_getElem_cons hk, ← List.flatten_append, List.take_append_drop]
  rw [e, List.length_append, List.length_append, List.length_append, List.length_take]
  omega
theorem lay_next {P : List Nd} {a : Bool} {xs : List Nd} {n : Nd} {Q : List Nd} {b : Bool} (h : layAll [ndRoot] true xs = (P, a)) (k : layN P n = (Q, b)) : layAll [ndRoot] true (xs ++ [n]) = (Q, b && a) := by
  rw [layAll_app, h]
  show layAll (layN P n).1 ((layN P n).2 && a) [] = _
  rw [k]
  rfl

set_option maxRecDepth 100000 in
set_option maxHeartbeats 4000000 in
theorem laid_ok (v : Value) (ts : List (List Nd)) (w : World) (hsh : w.ShapedOpen Tryd.prog) (hT : Trs w v ts) (hz : ∀ t ∈ ts, ∀ n ∈ t, n.1.size < 999999) (hl : ts.length < 1000) (hf : ts.flatten.length < 400000) :
    Calls Tryd.prog 19 #[v] w fun e w' => ∃ u, e = .returned (.tuple #[u, .bool (layAll [ndRoot] true ts.flatten).2]) ∧ OwnN w.heap.size w' u (layAll [ndRoot] true ts.flatten).1 ∧ Ok w w' := by
  obtain ⟨ao, c, rfl, hA⟩ := hT.open
  obtain ⟨n, hn⟩ : ∃ n, n = ts.length := ⟨_, rfl⟩
  rw [← hn] at hl ⊢
  have HN := hide hn
  have HA := hide hA
  have HZ := hide hz
  clear hT hA hz hn
  have ok0 : Ok w w := Ok.start hsh
  have HPS := hide (PileAt.start w)
  have hmm := @run_makeMap Tryd.prog
  go_enter Tryd.func19, Tryd.ntmps19
  obtain ⟨wa, hwa⟩ : ∃ wa, wa = (w.alloc (.map #[] 0)).alloc (.cells #[.slice none 0 0, .map (some w.heap.size)] 60) := ⟨_, rfl⟩
  have HWA := hide hwa
  clear hwa
  go_wp2_with fail
  rw [← HWA.out]
  have HPA : Hid (PileAt w.heap.size wa (w.heap.size + 1) w.heap.size (.slice none 0 0) []) := by
    show PileAt _ _ _ _ _ _
    rw [HWA.out]
    exact HPS.out
  have hba : Below w.heap.size w wa := by rw [HWA.out]; exact (below_alloc _ _).alloc (by simp) _
  have oka := ok0.step hba
  refine (add_ok w.heap.size (w.heap.size + 1) w.heap.size _ [] ndRoot wa HPA.out hba.size (by simp) rfl).mono ?_
  rintro e w1 ⟨rfl, ⟨v1, hp1⟩, hb1⟩
  have HP1 : Hid (PileAt w.heap.size w1 (w.heap.size + 1) w.heap.size v1 [ndRoot]) := hp1
  have ok1 := oka.step hb1
  clear hp1 hb1 hba HPA HPS HWA oka
  go_wp2
  go_loopw [5, 7, 9, 18, 24] (fun g _ _ i _ wr => ∃ (k : Nat) (a : Bool), k ≤ n ∧ i = .int .i64 k ∧ g = .bool a ∧ Hid (∃ P v', layAll [ndRoot] true (ts.take k).flatten = (P, a) ∧ PileAt w.heap.size wr (w.heap.size + 1) w.heap.size v' P) ∧ Hid (Ok w wr)) (fun _ _ _ i _ _ => n - (intOf i).toNat)
  case atStart => exact ⟨0, true, Nat.zero_le _, rfl, rfl, ⟨[ndRoot], v1, rfl, HP1.out⟩, ok1⟩
  case round =>
    obtain ⟨k, a, hk, rfl, rfl, HI, HOK⟩ := hrel
    by_cases hlt : k < n
    · obtain ⟨t, ht⟩ : ∃ t, ts[k]? = some t := ⟨ts[k]'(by have := HN.out; omega), List.getElem?_eq_some_iff.2 ⟨_, rfl⟩⟩
      obtain ⟨b, o, u, rfl, hbs, hcell, hnods⟩ := HA.out k t ht
      obtain ⟨a2, c2, rfl, hB⟩ := hnods.open
      have hc1 := (HOK.out.2.cell (p := ⟨b, o + k, none⟩) hbs).trans hcell
      obtain ⟨q, hq⟩ : ∃ q, q = t.length := ⟨_, rfl⟩
      have HQ := hide hq
      have HT := hide ht
      have HBB := hide hB
      rw [← hq] at hc1
      have hq4 : q < 400000 := by
        have h2 := flat_le ht t.length
        rw [List.take_length, List.length_append] at h2
        omega
      clear hcell hnods hq ht hB
      go_wp2
      go_loopw [5, 9, 24] (fun g _ i wq => ∃ (j : Nat) (a' : Bool), j ≤ q ∧ i = .int .i64 j ∧ g = .bool a' ∧ Hid (∃ P v', layAll [ndRoot] true ((ts.take k).flatten ++ t.take j) = (P, a') ∧ PileAt w.heap.size wq (w.heap.size + 1) w.heap.size v' P) ∧ Hid (Ok w wq)) (fun _ _ i _ => q - (intOf i).toNat)
      case atStart => exact ⟨0, a, Nat.zero_le _, rfl, rfl, by rw [List.take_zero, List.append_nil]; exact HI, HOK⟩
      case round =>
        obtain ⟨j, a', hj, rfl, rfl, HJ, HOJ⟩ := hrel
        by_cases hjl : j < q
        · obtain ⟨x, hx⟩ : ∃ x, t[j]? = some x := ⟨t[j]'(by have := HQ.out; omega), List.getElem?_eq_some_iff.2 ⟨_, rfl⟩⟩
          obtain ⟨b2, o2, rfl, hb2, hat⟩ := HBB.out j x hx
          obtain ⟨g1, g2, g3⟩ := hat.below HOJ.out.2 hb2
          obtain ⟨P, v', hlay, hpile⟩ := HJ.out
          obtain ⟨ms, bb, hms⟩ : ∃ ms bb, layN P x = (ms, bb) := ⟨_, _, rfl⟩
          have HLN : Hid (layAll [ndRoot] true ((ts.take k).flatten ++ t.take (j + 1)) = (ms, bb && a')) := by
            show _ = _
            rw [takeN_step hx, ← List.append_assoc]
            exact lay_next hlay hms
          have hP : P.length < 900000 := by
            have h1 := layAll_len [ndRoot] true ((ts.take k).flatten ++ t.take j)
            rw [hlay] at h1
            have h2 := flat_le HT.out j
            simp only [List.length_singleton] at h1
            omega
          have hxz : x.1.size < 999999 := HZ.out t (List.mem_of_getElem? HT.out) x (List.mem_of_getElem? hx)
          have HMS := hide hms
          have HPL := hide (hpile.below (below_alloc wr (.cells #[.string x.1, .int .i64 x.2.1, .string x.2.2] 37)))
          have okq := HOJ.out.alloc (.cells #[.string x.1, .int .i64 x.2.1, .string x.2.2] 37)
          clear hat hlay hpile hms hx
          go_wp2_with fail
          refine (lay_ok _ _ v' P x w _ okq HPL.out hxz hP bb ms HMS.out).mono ?_
          rintro e w2 ⟨rfl, ⟨v2, hp2⟩, ok2⟩
          have HP2 := hide hp2
          clear hp2
          cases bb with
          | true =>
            go_wp2
            go_roundw
            case rel => exact ⟨j + 1, a', by omega, by go_num, rfl, ⟨ms, v2, by rw [HLN.out, Bool.true_and], HP2.out⟩, ok2⟩
            case measure => simp [intOf]; omega
          | false =>
            go_wp2
            go_roundw
            case rel => exact ⟨j + 1, false, by omega, by go_num, rfl, ⟨ms, v2, by rw [HLN.out, Bool.false_and], HP2.out⟩, ok2⟩
            case measure => simp [intOf]; omega
        · have hjq : j = q := by omega
          go_wp2
          go_roundw
          case rel =>
            refine ⟨k + 1, a', by omega, by go_num, rfl, ?_, HOJ⟩
            have h1 := HJ.out
            rw [hjq, HQ.out, List.take_length, ← flat_step HT.out] at h1
            exact h1
          case measure => simp [intOf]; omega
    · have hkn : k = n := by omega
      obtain ⟨P, v', hlay, hpile⟩ := HI.out
      obtain ⟨c1, c2, _, _⟩ := hpile.cells
      have HLY := hide hlay
      have HPL := hide hpile
      clear hlay hpile
      go_wp2
      go_ret2
      have h1 := HLY.out
      rw [hkn, HN.out, List.take_length] at h1
      exact ⟨v', by rw [h1]; rfl, by rw [h1]; exact HPL.out.own, HOK.out⟩
end Go.Proofs.YteablfekfijnhaaDoor
