/- The walk of the document's own records, chapter 14. -/
import Derived.Test.YtecjkkipglldlaaGreatDoorJ21
import Derived.Test.YtecjkkipglldlaaGreatDoorJ2
namespace Go.Proofs.YtecjkkipglldlaaGreatDoor
open Go.RowKit

theorem extr_list (s : ByteArray) (i j : Nat) : (s.extract i j).data.toList = (s.data.toList.drop i).take (j - i) := by rw [Lib.extract_eq]
theorem extr_to {s : ByteArray} (j : Nat) : (s.extract 0 j).toList = s.data.toList.take j := by rw [Lib.toList_data, extr_list]; simp
theorem str_atU {s : ByteArray} {j : Nat} (h : j < s.size) : s.data.toList[j]? = some s[j] := by
  have h2 : j < s.data.toList.length := by rw [← Hog.size_len]; exact h
  rw [List.getElem?_eq_getElem h2]
  rfl
theorem digEnd_some {l : List UInt8} {j : Nat} (h1 : ∀ c ∈ l.take j, 48 ≤ c.toNat ∧ c.toNat ≤ 57) (h2 : j ≤ 6) (h3 : j ≤ l.length) (h4 : j = l.length ∨ j = 6 ∨ ∃ c, l[j]? = some c ∧ ¬ (48 ≤ c.toNat ∧ c.toNat ≤ 57)) : Hog.DigEnd l j := ⟨h1, h2, h3, h4⟩
theorem valD_small {l : List UInt8} {j : Nat} (h1 : ∀ c ∈ l.take j, 48 ≤ c.toNat ∧ c.toNat ≤ 57) (h2 : j ≤ 6) : Hog.valD (l.take j) < 1000000 := by
  have h := Hog.valD_lt (l.take j) (fun c hc => (h1 c hc).2)
  have h3 : (l.take j).length ≤ 6 := by rw [List.length_take]; omega
  have h4 := Nat.pow_le_pow_right (n := 10) (by decide) h3
  omega
theorem dig_take {l : List UInt8} {j : Nat} {x : UInt8} (h1 : ∀ c ∈ l.take j, 48 ≤ c.toNat ∧ c.toNat ≤ 57) (hx : l[j]? = some x) (h : 48 ≤ x.toNat ∧ x.toNat ≤ 57) : ∀ c ∈ l.take (j + 1), 48 ≤ c.toNat ∧ c.toNat ≤ 57 := by
  obtain ⟨hj, rfl⟩ := List.getElem?_eq_some_iff.1 hx
  intro c hc
  rw [List.take_succ_eq_append_getElem hj] at hc
  rcases List.mem_append.1 hc with hc | hc
  · exact h1 c hc
  · rw [List.mem_singleton.1 hc]; exact h
theorem byte_decU {x : UInt8} (h1 : 48 ≤ x.toNat) (h2 : x.toNat ≤ 57) : IntKind.u8.wrap ((x.toNat : Int) - 48) = ((x.toNat - 48 : Nat) : Int) := by
  rw [IntKind.wrap_u8]; omega
/-- What the records ahead have said, whatever they are. -/
def SaidU (l z : List UInt8) (a b : List UInt8) : Prop := ∀ rs, Hog.RecsIs rs l → ∃ rs', Hog.RecsIs rs' z ∧ Hog.putsP rs' (a, b) = Hog.putsP rs ([], [])
theorem SaidU.end {l z a b : List UInt8} (h : SaidU l z a b) (hz : z = []) : ∀ rs, Hog.RecsIs rs l → Hog.putsP rs ([], []) = (a, b) := fun rs hrs => by
  obtain ⟨rs', h1, h2⟩ := h rs hrs
  rw [← h2, Hog.recs_none h1 hz]; rfl
theorem SaidU.bad {l z a b : List UInt8} {j : Nat} (h : SaidU l z a b) (hz : z ≠ []) (hj : Hog.DigEnd z j) (hb : Hog.valD (z.take j) ≤ j + 1 ∨ Hog.valD (z.take j) > z.length) : ∀ rs, Hog.RecsIs rs l → Hog.putsP rs ([], []) = (a, b) := fun rs hrs => by
  exfalso
  obtain ⟨rs', h1, h2⟩ := h rs hrs
  cases rs' with
  | nil => exact hz h1.2
  | cons r rs' =>
    have h3 := h1.1 r (by simp)
    have h4 := h1.2
    rw [List.flatMap_cons] at h4
    have h5 := Hog.rec_apart h3.1 h3.2 h4 hj
    omega
theorem SaidU.step {l z a b : List UInt8} {j n : Nat} (h : SaidU l z a b) (hz : z ≠ []) (hj : Hog.DigEnd z j) (hn : Hog.valD (z.take j) = n) : SaidU l (z.drop n) (Hog.putR ((z.drop (j + 1)).take (n - 1 - (j + 1))) (a, b)).1 (Hog.putR ((z.drop (j + 1)).take (n - 1 - (j + 1))) (a, b)).2 := fun rs hrs => by
  obtain ⟨rs', h1, h2⟩ := h rs hrs
  cases rs' with
  | nil => exact absurd h1.2 hz
  | cons r rs' =>
    have h3 := h1.1 r (by simp)
    have h4 := h1.2
    rw [List.flatMap_cons] at h4
    obtain ⟨_, _, h5, h6⟩ := Hog.rec_apart h3.1 h3.2 h4 hj
    rw [hn] at h5 h6
    refine ⟨rs', ⟨fun x hx => h1.1 x (List.mem_cons_of_mem _ hx), h6⟩, ?_⟩
    rw [h5, Hog.putR_is h3.1, ← h2]
    rfl

set_option maxRecDepth 100000 in
set_option maxHeartbeats 4000000 in
theorem rrecords_ok (s : ByteArray) (l : List UInt8) (w : World) (hs : s.data.toList = l) :
    Calls Tryz.prog 24 #[.string s] w fun e w' => (∃ a b, e = .returned (.tuple #[.string (Hog.mk a), .string (Hog.mk b)]) ∧ a.length ≤ s.size ∧ b.length ≤ s.size ∧ ∀ rs, Hog.RecsIs rs l → Hog.putsP rs ([], []) = (a, b)) ∧ w' = w := by
  obtain ⟨N, hN⟩ : ∃ N, s.size = N := ⟨_, rfl⟩
  have HS : Hid (SaidU l s.data.toList [] []) := by rw [hs]; exact hide (fun rs hrs => ⟨rs, hrs, rfl⟩)
  rw [hN]
  have hsz : s.size ≤ N := by omega
  clear hs hN
  go_enter Tryz.func24, Tryz.ntmps24
  go_wp2
  go_loopw [0, 4, 5] (fun r p q wr => ∃ (z : ByteArray) (a b : List UInt8), r = .string z ∧ z.size ≤ N ∧ p = .string (Hog.mk a) ∧ q = .string (Hog.mk b) ∧ a.length ≤ N ∧ b.length ≤ N ∧ Hid (SaidU l z.data.toList a b) ∧ wr = w) (fun r _ _ _ => (match r with | .string b => b.size | _ => 0))
  case atStart => exact ⟨s, [], [], rfl, hsz, rfl, rfl, Nat.zero_le _, Nat.zero_le _, HS, rfl⟩
  case round =>
    obtain ⟨z, a, b, rfl, hzN, rfl, rfl, haN, hbN, HSR, rfl⟩ := hrel
    by_cases h0 : z.size = 0
    · have h0' : ¬ ((z.size : Int) > 0) := by omega
      have hzn : z.data.toList = [] := List.eq_nil_of_length_eq_zero (by rw [← Hog.size_len]; exact h0)
      have HEND := hide (HSR.out.end hzn)
      clear h0 hzn
      go_wp2
      go_ret2
      exact ⟨⟨a, b, rfl, haN, hbN, HEND.out⟩, rfl⟩
    · have h0' : (z.size : Int) > 0 := by omega
      have hzn : z.data.toList ≠ [] := fun e => h0 (by rw [Hog.size_len, e]; rfl)
      have HZN := hide hzn
      clear hzn h0
      go_wp2
      go_loopw [6, 7] (fun n i wr2 => ∃ j a0 : Nat, j ≤ 6 ∧ j ≤ z.size ∧ a0 < 1000000 ∧ i = .int .i64 j ∧ n = .int .i64 a0 ∧ Hid (a0 = Hog.valD (z.data.toList.take j)) ∧ Hid (∀ c ∈ z.data.toList.take j, 48 ≤ c.toNat ∧ c.toNat ≤ 57) ∧ wr2 = wr) (fun _ i _ => 10 - (intOf i).toNat)
      case atStart => exact ⟨0, 0, by omega, by omega, by omega, rfl, rfl, hide rfl, hide (fun c hc => by simp at hc), rfl⟩
      case round =>
        obtain ⟨j, a0, hj6, hjz, ha6, rfl, rfl, HA0, HDG, rfl⟩ := hrel
        by_cases h1 : j < z.size
        · have h1' : (j : Int) < (z.size : Int) := by omega
          obtain ⟨x, hx⟩ : ∃ x, z[j] = x := ⟨_, rfl⟩
          have hxl : z.data.toList[j]? = some x := by rw [str_atU h1, hx]
          by_cases h2 : j < 6
          · have h2' : (j : Int) < 6 := by omega
            by_cases h3 : 48 ≤ x.toNat
            · have h3' : (z[j].toNat : Int) ≥ 48 := by rw [hx]; omega
              by_cases h4 : x.toNat ≤ 57
              · have h4' : (z[j].toNat : Int) ≤ 57 := by rw [hx]; omega
                obtain ⟨d, hd⟩ : ∃ d, x.toNat - 48 = d := ⟨_, rfl⟩
                have hd9 : d ≤ 9 := by omega
                have hu : IntKind.u8.wrap ((z[j].toNat : Int) - 48) = (d : Int) := by rw [← hd, hx]; exact byte_decU h3 h4
                have HDG2 := hide (dig_take HDG.out hxl ⟨h3, h4⟩)
                have HA2 : Hid (a0 * 10 + d = Hog.valD (z.data.toList.take (j + 1))) := by rw [Hog.valD_step hxl, ← HA0.out, hd]; exact hide rfl
                have ha2 : a0 * 10 + d < 1000000 := by rw [HA2.out]; exact valD_small HDG2.out (by omega)
                clear hx hxl h3 h4 hd h2
                go_wp2
                go_roundw
                case rel => exact ⟨j + 1, a0 * 10 + d, by omega, by omega, ha2, by go_num, by go_num, HA2, HDG2, trivial⟩
                case measure => simp [intOf]; omega
              · have h4' : ¬ ((z[j].toNat : Int) ≤ 57) := by rw [hx]; omega
                have HDE := hide (digEnd_some HDG.out hj6 (by rw [← Hog.size_len]; omega) (.inr (.inr ⟨x, hxl, by omega⟩)))
                clear hx hxl h3 h4 h2
                by_cases hb1 : a0 ≤ j + 1
                · have hb1' : (a0 : Int) ≤ (j : Int) + 1 := by omega
                  have HEND := hide (HSR.out.bad HZN.out HDE.out (by rw [← HA0.out, ← Hog.size_len]; exact .inl hb1))
                  clear hb1
                  go_wp2
                  go_ret2
                  exact ⟨⟨a, b, rfl, haN, hbN, HEND.out⟩, rfl⟩
                by_cases hb2 : a0 > z.size
                · have hb2' : (a0 : Int) > (z.size : Int) := by omega
                  have hb1' : ¬ ((a0 : Int) ≤ (j : Int) + 1) := by omega
                  have HEND := hide (HSR.out.bad HZN.out HDE.out (by rw [← HA0.out, ← Hog.size_len]; exact .inr hb2))
                  clear hb1 hb2
                  go_wp2
                  go_ret2
                  exact ⟨⟨a, b, rfl, haN, hbN, HEND.out⟩, rfl⟩
                have hb1' : ¬ ((a0 : Int) ≤ (j : Int) + 1) := by omega
                have hb2' : ¬ ((a0 : Int) > (z.size : Int)) := by omega
                have g1 : (j : Int) + 1 ≤ (a0 : Int) - 1 := by omega
                have g2 : (a0 : Int) - 1 ≤ (z.size : Int) := by omega
                obtain ⟨rr, hrr⟩ : ∃ r, z.extract (j + 1) (a0 - 1) = r := ⟨_, rfl⟩
                have hrl : rr.data.toList = (z.data.toList.drop (j + 1)).take (a0 - 1 - (j + 1)) := by rw [← hrr, extr_list]
                have HSD := hide (HSR.out.step HZN.out HDE.out HA0.out.symm)
                rw [← hrl] at HSD
                have hzd : z.data.toList.drop a0 = (z.extract a0 z.size).data.toList := by rw [Lib.extract_to_end]
                rw [hzd] at HSD
                have HZS : Hid ((z.extract a0 z.size).size ≤ N) := by rw [Hog.size_len, ← hzd, List.length_drop, ← Hog.size_len]; exact hide (by omega)
                have HZM : Hid ((z.extract a0 z.size).size < z.size) := by rw [Hog.size_len (z.extract a0 z.size), ← hzd, List.length_drop, ← Hog.size_len]; exact hide (by omega)
                have hrN : rr.size ≤ N := by rw [Hog.size_len, hrl, List.length_take, List.length_drop, ← Hog.size_len]; omega
                obtain ⟨a5, ha5⟩ : ∃ x, rr.data.toList.drop 5 = x := ⟨_, rfl⟩
                obtain ⟨b9, hb9⟩ : ∃ x, rr.data.toList.drop 9 = x := ⟨_, rfl⟩
                have HE5 : Hid (rr.extract 5 rr.size = Hog.mk a5) := by rw [← ha5, ← Lib.extract_to_end, Hog.data_mk]; exact hide rfl
                have HE9 : Hid (rr.extract 9 rr.size = Hog.mk b9) := by rw [← hb9, ← Lib.extract_to_end, Hog.data_mk]; exact hide rfl
                have HL5 : Hid (a5.length ≤ N) := by rw [← ha5, List.length_drop, ← Hog.size_len]; exact hide (by omega)
                have HL9 : Hid (b9.length ≤ N) := by rw [← hb9, List.length_drop, ← Hog.size_len]; exact hide (by omega)
                have HA5 := hide ha5
                have HB9 := hide hb9
                clear hb1 hb2 hrl hzd ha5 hb9
                by_cases h5 : 5 ≤ rr.size
                · by_cases k5 : rr.data.toList.take 5 = Hog.path5
                  · have n9 : rr.data.toList.take 9 ≠ Hog.link9 := fun e => by
                      have h := congrArg (List.take 5) e
                      rw [List.take_take, show min 5 9 = 5 from rfl, k5] at h
                      exact absurd h (by decide)
                    by_cases h9 : 9 ≤ rr.size
                    · have k9 := n9
                      have c5 : ((rr.size : Int) ≥ 5) := by omega
                      have e5 : ((rr.extract 0 5).toList == [112, 97, 116, 104, 61]) = true := by rw [extr_to]; rw [beq_iff_eq]; exact k5
                      have c9 : ((rr.size : Int) ≥ 9) := by omega
                      have e9 : ((rr.extract 0 9).toList == [108, 105, 110, 107, 112, 97, 116, 104, 61]) = false := by rw [extr_to]; rw [beq_eq_false_iff_ne]; exact k9
                      have HSD2 : Hid (SaidU l (z.extract a0 z.size).data.toList a5 b) := by
                        have h := HSD.out
                        unfold Hog.putR at h
                        rw [if_pos (by rw [← Hog.size_len]; exact ⟨h5, k5⟩), if_neg (by rw [← Hog.size_len]; exact fun e => k9 e.2)] at h
                        rw [HA5.out] at h
                        skip
                        exact hide h
                      clear h5 k5 h9 k9
                      go_wp2
                      go_roundw
                      case rel => exact ⟨z.extract a0 z.size, a5, b, rfl, HZS.out, by rw [HE5.out], rfl, HL5.out, hbN, HSD2, trivial⟩
                      case measure => exact HZM.out
                    · have c5 : ((rr.size : Int) ≥ 5) := by omega
                      have e5 : ((rr.extract 0 5).toList == [112, 97, 116, 104, 61]) = true := by rw [extr_to]; rw [beq_iff_eq]; exact k5
                      have c9 : ¬ ((rr.size : Int) ≥ 9) := by omega
                      have HSD2 : Hid (SaidU l (z.extract a0 z.size).data.toList a5 b) := by
                        have h := HSD.out
                        unfold Hog.putR at h
                        rw [if_pos (by rw [← Hog.size_len]; exact ⟨h5, k5⟩), if_neg (by rw [← Hog.size_len]; exact fun e => absurd e.1 (by omega))] at h
                        rw [HA5.out] at h
                        skip
                        exact hide h
                      clear h5 k5 h9 
                      go_wp2
                      go_roundw
                      case rel => exact ⟨z.extract a0 z.size, a5, b, rfl, HZS.out, by rw [HE5.out], rfl, HL5.out, hbN, HSD2, trivial⟩
                      case measure => exact HZM.out
                  · by_cases h9 : 9 ≤ rr.size
                    · by_cases k9 : rr.data.toList.take 9 = Hog.link9
                      · have c5 : ((rr.size : Int) ≥ 5) := by omega
                        have e5 : ((rr.extract 0 5).toList == [112, 97, 116, 104, 61]) = false := by rw [extr_to]; rw [beq_eq_false_iff_ne]; exact k5
                        have c9 : ((rr.size : Int) ≥ 9) := by omega
                        have e9 : ((rr.extract 0 9).toList == [108, 105, 110, 107, 112, 97, 116, 104, 61]) = true := by rw [extr_to]; rw [beq_iff_eq]; exact k9
                        have HSD2 : Hid (SaidU l (z.extract a0 z.size).data.toList a b9) := by
                          have h := HSD.out
                          unfold Hog.putR at h
                          rw [if_neg (by rw [← Hog.size_len]; exact fun e => k5 e.2), if_pos (by rw [← Hog.size_len]; exact ⟨h9, k9⟩)] at h
                          skip
                          rw [HB9.out] at h
                          exact hide h
                        clear h5 k5 h9 k9
                        go_wp2
                        go_roundw
                        case rel => exact ⟨z.extract a0 z.size, a, b9, rfl, HZS.out, rfl, by rw [HE9.out], haN, HL9.out, HSD2, trivial⟩
                        case measure => exact HZM.out
                      · have c5 : ((rr.size : Int) ≥ 5) := by omega
                        have e5 : ((rr.extract 0 5).toList == [112, 97, 116, 104, 61]) = false := by rw [extr_to]; rw [beq_eq_false_iff_ne]; exact k5
                        have c9 : ((rr.size : Int) ≥ 9) := by omega
                        have e9 : ((rr.extract 0 9).toList == [108, 105, 110, 107, 112, 97, 116, 104, 61]) = false := by rw [extr_to]; rw [beq_eq_false_iff_ne]; exact k9
                        have HSD2 : Hid (SaidU l (z.extract a0 z.size).data.toList a b) := by
                          have h := HSD.out
                          unfold Hog.putR at h
                          rw [if_neg (by rw [← Hog.size_len]; exact fun e => k5 e.2), if_neg (by rw [← Hog.size_len]; exact fun e => k9 e.2)] at h
                          skip
                          skip
                          exact hide h
                        clear h5 k5 h9 k9
                        go_wp2
                        go_roundw
                        case rel => exact ⟨z.extract a0 z.size, a, b, rfl, HZS.out, rfl, rfl, haN, hbN, HSD2, trivial⟩
                        case measure => exact HZM.out
                    · have c5 : ((rr.size : Int) ≥ 5) := by omega
                      have e5 : ((rr.extract 0 5).toList == [112, 97, 116, 104, 61]) = false := by rw [extr_to]; rw [beq_eq_false_iff_ne]; exact k5
                      have c9 : ¬ ((rr.size : Int) ≥ 9) := by omega
                      have HSD2 : Hid (SaidU l (z.extract a0 z.size).data.toList a b) := by
                        have h := HSD.out
                        unfold Hog.putR at h
                        rw [if_neg (by rw [← Hog.size_len]; exact fun e => k5 e.2), if_neg (by rw [← Hog.size_len]; exact fun e => absurd e.1 (by omega))] at h
                        skip
                        skip
                        exact hide h
                      clear h5 k5 h9 
                      go_wp2
                      go_roundw
                      case rel => exact ⟨z.extract a0 z.size, a, b, rfl, HZS.out, rfl, rfl, haN, hbN, HSD2, trivial⟩
                      case measure => exact HZM.out
                · have c5 : ¬ ((rr.size : Int) ≥ 5) := by omega
                  have c9 : ¬ ((rr.size : Int) ≥ 9) := by omega
                  have HSD2 : Hid (SaidU l (z.extract a0 z.size).data.toList a b) := by
                    have h := HSD.out
                    unfold Hog.putR at h
                    rw [if_neg (by rw [← Hog.size_len]; exact fun e => h5 e.1), if_neg (by rw [← Hog.size_len]; exact fun e => absurd e.1 (by omega))] at h
                    skip
                    skip
                    exact hide h
                  clear h5 
                  go_wp2
                  go_roundw
                  case rel => exact ⟨z.extract a0 z.size, a, b, rfl, HZS.out, rfl, rfl, haN, hbN, HSD2, trivial⟩
                  case measure => exact HZM.out
            · have h3' : ¬ ((z[j].toNat : Int) ≥ 48) := by rw [hx]; omega
              have HDE := hide (digEnd_some HDG.out hj6 (by rw [← Hog.size_len]; omega) (.inr (.inr ⟨x, hxl, by omega⟩)))
              clear hx hxl h3 h2
              by_cases hb1 : a0 ≤ j + 1
              · have hb1' : (a0 : Int) ≤ (j : Int) + 1 := by omega
                have HEND := hide (HSR.out.bad HZN.out HDE.out (by rw [← HA0.out, ← Hog.size_len]; exact .inl hb1))
                clear hb1
                go_wp2
                go_ret2
                exact ⟨⟨a, b, rfl, haN, hbN, HEND.out⟩, rfl⟩
              by_cases hb2 : a0 > z.size
              · have hb2' : (a0 : Int) > (z.size : Int) := by omega
                have hb1' : ¬ ((a0 : Int) ≤ (j : Int) + 1) := by omega
                have HEND := hide (HSR.out.bad HZN.out HDE.out (by rw [← HA0.out, ← Hog.size_len]; exact .inr hb2))
                clear hb1 hb2
                go_wp2
                go_ret2
                exact ⟨⟨a, b, rfl, haN, hbN, HEND.out⟩, rfl⟩
              have hb1' : ¬ ((a0 : Int) ≤ (j : Int) + 1) := by omega
              have hb2' : ¬ ((a0 : Int) > (z.size : Int)) := by omega
              have g1 : (j : Int) + 1 ≤ (a0 : Int) - 1 := by omega
              have g2 : (a0 : Int) - 1 ≤ (z.size : Int) := by omega
              obtain ⟨rr, hrr⟩ : ∃ r, z.extract (j + 1) (a0 - 1) = r := ⟨_, rfl⟩
              have hrl : rr.data.toList = (z.data.toList.drop (j + 1)).take (a0 - 1 - (j + 1)) := by rw [← hrr, extr_list]
              have HSD := hide (HSR.out.step HZN.out HDE.out HA0.out.symm)
              rw [← hrl] at HSD
              have hzd : z.data.toList.drop a0 = (z.extract a0 z.size).data.toList := by rw [Lib.extract_to_end]
              rw [hzd] at HSD
              have HZS : Hid ((z.extract a0 z.size).size ≤ N) := by rw [Hog.size_len, ← hzd, List.length_drop, ← Hog.size_len]; exact hide (by omega)
              have HZM : Hid ((z.extract a0 z.size).size < z.size) := by rw [Hog.size_len (z.extract a0 z.size), ← hzd, List.length_drop, ← Hog.size_len]; exact hide (by omega)
              have hrN : rr.size ≤ N := by rw [Hog.size_len, hrl, List.length_take, List.length_drop, ← Hog.size_len]; omega
              obtain ⟨a5, ha5⟩ : ∃ x, rr.data.toList.drop 5 = x := ⟨_, rfl⟩
              obtain ⟨b9, hb9⟩ : ∃ x, rr.data.toList.drop 9 = x := ⟨_, rfl⟩
              have HE5 : Hid (rr.extract 5 rr.size = Hog.mk a5) := by rw [← ha5, ← Lib.extract_to_end, Hog.data_mk]; exact hide rfl
              have HE9 : Hid (rr.extract 9 rr.size = Hog.mk b9) := by rw [← hb9, ← Lib.extract_to_end, Hog.data_mk]; exact hide rfl
              have HL5 : Hid (a5.length ≤ N) := by rw [← ha5, List.length_drop, ← Hog.size_len]; exact hide (by omega)
              have HL9 : Hid (b9.length ≤ N) := by rw [← hb9, List.length_drop, ← Hog.size_len]; exact hide (by omega)
              have HA5 := hide ha5
              have HB9 := hide hb9
              clear hb1 hb2 hrl hzd ha5 hb9
              by_cases h5 : 5 ≤ rr.size
              · by_cases k5 : rr.data.toList.take 5 = Hog.path5
                · have n9 : rr.data.toList.take 9 ≠ Hog.link9 := fun e => by
                    have h := congrArg (List.take 5) e
                    rw [List.take_take, show min 5 9 = 5 from rfl, k5] at h
                    exact absurd h (by decide)
                  by_cases h9 : 9 ≤ rr.size
                  · have k9 := n9
                    have c5 : ((rr.size : Int) ≥ 5) := by omega
                    have e5 : ((rr.extract 0 5).toList == [112, 97, 116, 104, 61]) = true := by rw [extr_to]; rw [beq_iff_eq]; exact k5
                    have c9 : ((rr.size : Int) ≥ 9) := by omega
                    have e9 : ((rr.extract 0 9).toList == [108, 105, 110, 107, 112, 97, 116, 104, 61]) = false := by rw [extr_to]; rw [beq_eq_false_iff_ne]; exact k9
                    have HSD2 : Hid (SaidU l (z.extract a0 z.size).data.toList a5 b) := by
                      have h := HSD.out
                      unfold Hog.putR at h
                      rw [if_pos (by rw [← Hog.size_len]; exact ⟨h5, k5⟩), if_neg (by rw [← Hog.size_len]; exact fun e => k9 e.2)] at h
                      rw [HA5.out] at h
                      skip
                      exact hide h
                    clear h5 k5 h9 k9
                    go_wp2
                    go_roundw
                    case rel => exact ⟨z.extract a0 z.size, a5, b, rfl, HZS.out, by rw [HE5.out], rfl, HL5.out, hbN, HSD2, trivial⟩
                    case measure => exact HZM.out
                  · have c5 : ((rr.size : Int) ≥ 5) := by omega
                    have e5 : ((rr.extract 0 5).toList == [112, 97, 116, 104, 61]) = true := by rw [extr_to]; rw [beq_iff_eq]; exact k5
                    have c9 : ¬ ((rr.size : Int) ≥ 9) := by omega
                    have HSD2 : Hid (SaidU l (z.extract a0 z.size).data.toList a5 b) := by
                      have h := HSD.out
                      unfold Hog.putR at h
                      rw [if_pos (by rw [← Hog.size_len]; exact ⟨h5, k5⟩), if_neg (by rw [← Hog.size_len]; exact fun e => absurd e.1 (by omega))] at h
                      rw [HA5.out] at h
                      skip
                      exact hide h
                    clear h5 k5 h9 
                    go_wp2
                    go_roundw
                    case rel => exact ⟨z.extract a0 z.size, a5, b, rfl, HZS.out, by rw [HE5.out], rfl, HL5.out, hbN, HSD2, trivial⟩
                    case measure => exact HZM.out
                · by_cases h9 : 9 ≤ rr.size
                  · by_cases k9 : rr.data.toList.take 9 = Hog.link9
                    · have c5 : ((rr.size : Int) ≥ 5) := by omega
                      have e5 : ((rr.extract 0 5).toList == [112, 97, 116, 104, 61]) = false := by rw [extr_to]; rw [beq_eq_false_iff_ne]; exact k5
                      have c9 : ((rr.size : Int) ≥ 9) := by omega
                      have e9 : ((rr.extract 0 9).toList == [108, 105, 110, 107, 112, 97, 116, 104, 61]) = true := by rw [extr_to]; rw [beq_iff_eq]; exact k9
                      have HSD2 : Hid (SaidU l (z.extract a0 z.size).data.toList a b9) := by
                        have h := HSD.out
                        unfold Hog.putR at h
                        rw [if_neg (by rw [← Hog.size_len]; exact fun e => k5 e.2), if_pos (by rw [← Hog.size_len]; exact ⟨h9, k9⟩)] at h
                        skip
                        rw [HB9.out] at h
                        exact hide h
                      clear h5 k5 h9 k9
                      go_wp2
                      go_roundw
                      case rel => exact ⟨z.extract a0 z.size, a, b9, rfl, HZS.out, rfl, by rw [HE9.out], haN, HL9.out, HSD2, trivial⟩
                      case measure => exact HZM.out
                    · have c5 : ((rr.size : Int) ≥ 5) := by omega
                      have e5 : ((rr.extract 0 5).toList == [112, 97, 116, 104, 61]) = false := by rw [extr_to]; rw [beq_eq_false_iff_ne]; exact k5
                      have c9 : ((rr.size : Int) ≥ 9) := by omega
                      have e9 : ((rr.extract 0 9).toList == [108, 105, 110, 107, 112, 97, 116, 104, 61]) = false := by rw [extr_to]; rw [beq_eq_false_iff_ne]; exact k9
                      have HSD2 : Hid (SaidU l (z.extract a0 z.size).data.toList a b) := by
                        have h := HSD.out
                        unfold Hog.putR at h
                        rw [if_neg (by rw [← Hog.size_len]; exact fun e => k5 e.2), if_neg (by rw [← Hog.size_len]; exact fun e => k9 e.2)] at h
                        skip
                        skip
                        exact hide h
                      clear h5 k5 h9 k9
                      go_wp2
                      go_roundw
                      case rel => exact ⟨z.extract a0 z.size, a, b, rfl, HZS.out, rfl, rfl, haN, hbN, HSD2, trivial⟩
                      case measure => exact HZM.out
                  · have c5 : ((rr.size : Int) ≥ 5) := by omega
                    have e5 : ((rr.extract 0 5).toList == [112, 97, 116, 104, 61]) = false := by rw [extr_to]; rw [beq_eq_false_iff_ne]; exact k5
                    have c9 : ¬ ((rr.size : Int) ≥ 9) := by omega
                    have HSD2 : Hid (SaidU l (z.extract a0 z.size).data.toList a b) := by
                      have h := HSD.out
                      unfold Hog.putR at h
                      rw [if_neg (by rw [← Hog.size_len]; exact fun e => k5 e.2), if_neg (by rw [← Hog.size_len]; exact fun e => absurd e.1 (by omega))] at h
                      skip
                      skip
                      exact hide h
                    clear h5 k5 h9 
                    go_wp2
                    go_roundw
                    case rel => exact ⟨z.extract a0 z.size, a, b, rfl, HZS.out, rfl, rfl, haN, hbN, HSD2, trivial⟩
                    case measure => exact HZM.out
              · have c5 : ¬ ((rr.size : Int) ≥ 5) := by omega
                have c9 : ¬ ((rr.size : Int) ≥ 9) := by omega
                have HSD2 : Hid (SaidU l (z.extract a0 z.size).data.toList a b) := by
                  have h := HSD.out
                  unfold Hog.putR at h
                  rw [if_neg (by rw [← Hog.size_len]; exact fun e => h5 e.1), if_neg (by rw [← Hog.size_len]; exact fun e => absurd e.1 (by omega))] at h
                  skip
                  skip
                  exact hide h
                clear h5 
                go_wp2
                go_roundw
                case rel => exact ⟨z.extract a0 z.size, a, b, rfl, HZS.out, rfl, rfl, haN, hbN, HSD2, trivial⟩
                case measure => exact HZM.out
          · have h2' : ¬ ((j : Int) < 6) := by omega
            have HDE := hide (digEnd_some HDG.out hj6 (by rw [← Hog.size_len]; omega) (.inr (.inl (by omega))))
            clear hx hxl h2
            by_cases hb1 : a0 ≤ j + 1
            · have hb1' : (a0 : Int) ≤ (j : Int) + 1 := by omega
              have HEND := hide (HSR.out.bad HZN.out HDE.out (by rw [← HA0.out, ← Hog.size_len]; exact .inl hb1))
              clear hb1
              go_wp2
              go_ret2
              exact ⟨⟨a, b, rfl, haN, hbN, HEND.out⟩, rfl⟩
            by_cases hb2 : a0 > z.size
            · have hb2' : (a0 : Int) > (z.size : Int) := by omega
              have hb1' : ¬ ((a0 : Int) ≤ (j : Int) + 1) := by omega
              have HEND := hide (HSR.out.bad HZN.out HDE.out (by rw [← HA0.out, ← Hog.size_len]; exact .inr hb2))
              clear hb1 hb2
              go_wp2
              go_ret2
              exact ⟨⟨a, b, rfl, haN, hbN, HEND.out⟩, rfl⟩
            have hb1' : ¬ ((a0 : Int) ≤ (j : Int) + 1) := by omega
            have hb2' : ¬ ((a0 : Int) > (z.size : Int)) := by omega
            have g1 : (j : Int) + 1 ≤ (a0 : Int) - 1 := by omega
            have g2 : (a0 : Int) - 1 ≤ (z.size : Int) := by omega
            obtain ⟨rr, hrr⟩ : ∃ r, z.extract (j + 1) (a0 - 1) = r := ⟨_, rfl⟩
            have hrl : rr.data.toList = (z.data.toList.drop (j + 1)).take (a0 - 1 - (j + 1)) := by rw [← hrr, extr_list]
            have HSD := hide (HSR.out.step HZN.out HDE.out HA0.out.symm)
            rw [← hrl] at HSD
            have hzd : z.data.toList.drop a0 = (z.extract a0 z.size).data.toList := by rw [Lib.extract_to_end]
            rw [hzd] at HSD
            have HZS : Hid ((z.extract a0 z.size).size ≤ N) := by rw [Hog.size_len, ← hzd, List.length_drop, ← Hog.size_len]; exact hide (by omega)
            have HZM : Hid ((z.extract a0 z.size).size < z.size) := by rw [Hog.size_len (z.extract a0 z.size), ← hzd, List.length_drop, ← Hog.size_len]; exact hide (by omega)
            have hrN : rr.size ≤ N := by rw [Hog.size_len, hrl, List.length_take, List.length_drop, ← Hog.size_len]; omega
            obtain ⟨a5, ha5⟩ : ∃ x, rr.data.toList.drop 5 = x := ⟨_, rfl⟩
            obtain ⟨b9, hb9⟩ : ∃ x, rr.data.toList.drop 9 = x := ⟨_, rfl⟩
            have HE5 : Hid (rr.extract 5 rr.size = Hog.mk a5) := by rw [← ha5, ← Lib.extract_to_end, Hog.data_mk]; exact hide rfl
            have HE9 : Hid (rr.extract 9 rr.size = Hog.mk b9) := by rw [← hb9, ← Lib.extract_to_end, Hog.data_mk]; exact hide rfl
            have HL5 : Hid (a5.length ≤ N) := by rw [← ha5, List.length_drop, ← Hog.size_len]; exact hide (by omega)
            have HL9 : Hid (b9.length ≤ N) := by rw [← hb9, List.length_drop, ← Hog.size_len]; exact hide (by omega)
            have HA5 := hide ha5
            have HB9 := hide hb9
            clear hb1 hb2 hrl hzd ha5 hb9
            by_cases h5 : 5 ≤ rr.size
            · by_cases k5 : rr.data.toList.take 5 = Hog.path5
              · have n9 : rr.data.toList.take 9 ≠ Hog.link9 := fun e => by
                  have h := congrArg (List.take 5) e
                  rw [List.take_take, show min 5 9 = 5 from rfl, k5] at h
                  exact absurd h (by decide)
                by_cases h9 : 9 ≤ rr.size
                · have k9 := n9
                  have c5 : ((rr.size : Int) ≥ 5) := by omega
                  have e5 : ((rr.extract 0 5).toList == [112, 97, 116, 104, 61]) = true := by rw [extr_to]; rw [beq_iff_eq]; exact k5
                  have c9 : ((rr.size : Int) ≥ 9) := by omega
                  have e9 : ((rr.extract 0 9).toList == [108, 105, 110, 107, 112, 97, 116, 104, 61]) = false := by rw [extr_to]; rw [beq_eq_false_iff_ne]; exact k9
                  have HSD2 : Hid (SaidU l (z.extract a0 z.size).data.toList a5 b) := by
                    have h := HSD.out
                    unfold Hog.putR at h
                    rw [if_pos (by rw [← Hog.size_len]; exact ⟨h5, k5⟩), if_neg (by rw [← Hog.size_len]; exact fun e => k9 e.2)] at h
                    rw [HA5.out] at h
                    skip
                    exact hide h
                  clear h5 k5 h9 k9
                  go_wp2
                  go_roundw
                  case rel => exact ⟨z.extract a0 z.size, a5, b, rfl, HZS.out, by rw [HE5.out], rfl, HL5.out, hbN, HSD2, trivial⟩
                  case measure => exact HZM.out
                · have c5 : ((rr.size : Int) ≥ 5) := by omega
                  have e5 : ((rr.extract 0 5).toList == [112, 97, 116, 104, 61]) = true := by rw [extr_to]; rw [beq_iff_eq]; exact k5
                  have c9 : ¬ ((rr.size : Int) ≥ 9) := by omega
                  have HSD2 : Hid (SaidU l (z.extract a0 z.size).data.toList a5 b) := by
                    have h := HSD.out
                    unfold Hog.putR at h
                    rw [if_pos (by rw [← Hog.size_len]; exact ⟨h5, k5⟩), if_neg (by rw [← Hog.size_len]; exact fun e => absurd e.1 (by omega))] at h
                    rw [HA5.out] at h
                    skip
                    exact hide h
                  clear h5 k5 h9 
                  go_wp2
                  go_roundw
                  case rel => exact ⟨z.extract a0 z.size, a5, b, rfl, HZS.out, by rw [HE5.out], rfl, HL5.out, hbN, HSD2, trivial⟩
                  case measure => exact HZM.out
              · by_cases h9 : 9 ≤ rr.size
                · by_cases k9 : rr.data.toList.take 9 = Hog.link9
                  · have c5 : ((rr.size : Int) ≥ 5) := by omega
                    have e5 : ((rr.extract 0 5).toList == [112, 97, 116, 104, 61]) = false := by rw [extr_to]; rw [beq_eq_false_iff_ne]; exact k5
                    have c9 : ((rr.size : Int) ≥ 9) := by omega
                    have e9 : ((rr.extract 0 9).toList == [108, 105, 110, 107, 112, 97, 116, 104, 61]) = true := by rw [extr_to]; rw [beq_iff_eq]; exact k9
                    have HSD2 : Hid (SaidU l (z.extract a0 z.size).data.toList a b9) := by
                      have h := HSD.out
                      unfold Hog.putR at h
                      rw [if_neg (by rw [← Hog.size_len]; exact fun e => k5 e.2), if_pos (by rw [← Hog.size_len]; exact ⟨h9, k9⟩)] at h
                      skip
                      rw [HB9.out] at h
                      exact hide h
                    clear h5 k5 h9 k9
                    go_wp2
                    go_roundw
                    case rel => exact ⟨z.extract a0 z.size, a, b9, rfl, HZS.out, rfl, by rw [HE9.out], haN, HL9.out, HSD2, trivial⟩
                    case measure => exact HZM.out
                  · have c5 : ((rr.size : Int) ≥ 5) := by omega
                    have e5 : ((rr.extract 0 5).toList == [112, 97, 116, 104, 61]) = false := by rw [extr_to]; rw [beq_eq_false_iff_ne]; exact k5
                    have c9 : ((rr.size : Int) ≥ 9) := by omega
                    have e9 : ((rr.extract 0 9).toList == [108, 105, 110, 107, 112, 97, 116, 104, 61]) = false := by rw [extr_to]; rw [beq_eq_false_iff_ne]; exact k9
                    have HSD2 : Hid (SaidU l (z.extract a0 z.size).data.toList a b) := by
                      have h := HSD.out
                      unfold Hog.putR at h
                      rw [if_neg (by rw [← Hog.size_len]; exact fun e => k5 e.2), if_neg (by rw [← Hog.size_len]; exact fun e => k9 e.2)] at h
                      skip
                      skip
                      exact hide h
                    clear h5 k5 h9 k9
                    go_wp2
                    go_roundw
                    case rel => exact ⟨z.extract a0 z.size, a, b, rfl, HZS.out, rfl, rfl, haN, hbN, HSD2, trivial⟩
                    case measure => exact HZM.out
                · have c5 : ((rr.size : Int) ≥ 5) := by omega
                  have e5 : ((rr.extract 0 5).toList == [112, 97, 116, 104, 61]) = false := by rw [extr_to]; rw [beq_eq_false_iff_ne]; exact k5
                  have c9 : ¬ ((rr.size : Int) ≥ 9) := by omega
                  have HSD2 : Hid (SaidU l (z.extract a0 z.size).data.toList a b) := by
                    have h := HSD.out
                    unfold Hog.putR at h
                    rw [if_neg (by rw [← Hog.size_len]; exact fun e => k5 e.2), if_neg (by rw [← Hog.size_len]; exact fun e => absurd e.1 (by omega))] at h
                    skip
                    skip
                    exact hide h
                  clear h5 k5 h9 
                  go_wp2
                  go_roundw
                  case rel => exact ⟨z.extract a0 z.size, a, b, rfl, HZS.out, rfl, rfl, haN, hbN, HSD2, trivial⟩
                  case measure => exact HZM.out
            · have c5 : ¬ ((rr.size : Int) ≥ 5) := by omega
              have c9 : ¬ ((rr.size : Int) ≥ 9) := by omega
              have HSD2 : Hid (SaidU l (z.extract a0 z.size).data.toList a b) := by
                have h := HSD.out
                unfold Hog.putR at h
                rw [if_neg (by rw [← Hog.size_len]; exact fun e => h5 e.1), if_neg (by rw [← Hog.size_len]; exact fun e => absurd e.1 (by omega))] at h
                skip
                skip
                exact hide h
              clear h5 
              go_wp2
              go_roundw
              case rel => exact ⟨z.extract a0 z.size, a, b, rfl, HZS.out, rfl, rfl, haN, hbN, HSD2, trivial⟩
              case measure => exact HZM.out
        · have h1' : ¬ ((j : Int) < (z.size : Int)) := by omega
          have HDE := hide (digEnd_some HDG.out hj6 (by rw [← Hog.size_len]; omega) (.inl (by rw [← Hog.size_len]; omega)))
          clear h1
          by_cases hb1 : a0 ≤ j + 1
          · have hb1' : (a0 : Int) ≤ (j : Int) + 1 := by omega
            have HEND := hide (HSR.out.bad HZN.out HDE.out (by rw [← HA0.out, ← Hog.size_len]; exact .inl hb1))
            clear hb1
            go_wp2
            go_ret2
            exact ⟨⟨a, b, rfl, haN, hbN, HEND.out⟩, rfl⟩
          by_cases hb2 : a0 > z.size
          · have hb2' : (a0 : Int) > (z.size : Int) := by omega
            have hb1' : ¬ ((a0 : Int) ≤ (j : Int) + 1) := by omega
            have HEND := hide (HSR.out.bad HZN.out HDE.out (by rw [← HA0.out, ← Hog.size_len]; exact .inr hb2))
            clear hb1 hb2
            go_wp2
            go_ret2
            exact ⟨⟨a, b, rfl, haN, hbN, HEND.out⟩, rfl⟩
          have hb1' : ¬ ((a0 : Int) ≤ (j : Int) + 1) := by omega
          have hb2' : ¬ ((a0 : Int) > (z.size : Int)) := by omega
          have g1 : (j : Int) + 1 ≤ (a0 : Int) - 1 := by omega
          have g2 : (a0 : Int) - 1 ≤ (z.size : Int) := by omega
          obtain ⟨rr, hrr⟩ : ∃ r, z.extract (j + 1) (a0 - 1) = r := ⟨_, rfl⟩
          have hrl : rr.data.toList = (z.data.toList.drop (j + 1)).take (a0 - 1 - (j + 1)) := by rw [← hrr, extr_list]
          have HSD := hide (HSR.out.step HZN.out HDE.out HA0.out.symm)
          rw [← hrl] at HSD
          have hzd : z.data.toList.drop a0 = (z.extract a0 z.size).data.toList := by rw [Lib.extract_to_end]
          rw [hzd] at HSD
          have HZS : Hid ((z.extract a0 z.size).size ≤ N) := by rw [Hog.size_len, ← hzd, List.length_drop, ← Hog.size_len]; exact hide (by omega)
          have HZM : Hid ((z.extract a0 z.size).size < z.size) := by rw [Hog.size_len (z.extract a0 z.size), ← hzd, List.length_drop, ← Hog.size_len]; exact hide (by omega)
          have hrN : rr.size ≤ N := by rw [Hog.size_len, hrl, List.length_take, List.length_drop, ← Hog.size_len]; omega
          obtain ⟨a5, ha5⟩ : ∃ x, rr.data.toList.drop 5 = x := ⟨_, rfl⟩
          obtain ⟨b9, hb9⟩ : ∃ x, rr.data.toList.drop 9 = x := ⟨_, rfl⟩
          have HE5 : Hid (rr.extract 5 rr.size = Hog.mk a5) := by rw [← ha5, ← Lib.extract_to_end, Hog.data_mk]; exact hide rfl
          have HE9 : Hid (rr.extract 9 rr.size = Hog.mk b9) := by rw [← hb9, ← Lib.extract_to_end, Hog.data_mk]; exact hide rfl
          have HL5 : Hid (a5.length ≤ N) := by rw [← ha5, List.length_drop, ← Hog.size_len]; exact hide (by omega)
          have HL9 : Hid (b9.length ≤ N) := by rw [← hb9, List.length_drop, ← Hog.size_len]; exact hide (by omega)
          have HA5 := hide ha5
          have HB9 := hide hb9
          clear hb1 hb2 hrl hzd ha5 hb9
          by_cases h5 : 5 ≤ rr.size
          · by_cases k5 : rr.data.toList.take 5 = Hog.path5
            · have n9 : rr.data.toList.take 9 ≠ Hog.link9 := fun e => by
                have h := congrArg (List.take 5) e
                rw [List.take_take, show min 5 9 = 5 from rfl, k5] at h
                exact absurd h (by decide)
              by_cases h9 : 9 ≤ rr.size
              · have k9 := n9
                have c5 : ((rr.size : Int) ≥ 5) := by omega
                have e5 : ((rr.extract 0 5).toList == [112, 97, 116, 104, 61]) = true := by rw [extr_to]; rw [beq_iff_eq]; exact k5
                have c9 : ((rr.size : Int) ≥ 9) := by omega
                have e9 : ((rr.extract 0 9).toList == [108, 105, 110, 107, 112, 97, 116, 104, 61]) = false := by rw [extr_to]; rw [beq_eq_false_iff_ne]; exact k9
                have HSD2 : Hid (SaidU l (z.extract a0 z.size).data.toList a5 b) := by
                  have h := HSD.out
                  unfold Hog.putR at h
                  rw [if_pos (by rw [← Hog.size_len]; exact ⟨h5, k5⟩), if_neg (by rw [← Hog.size_len]; exact fun e => k9 e.2)] at h
                  rw [HA5.out] at h
                  skip
                  exact hide h
                clear h5 k5 h9 k9
                go_wp2
                go_roundw
                case rel => exact ⟨z.extract a0 z.size, a5, b, rfl, HZS.out, by rw [HE5.out], rfl, HL5.out, hbN, HSD2, trivial⟩
                case measure => exact HZM.out
              · have c5 : ((rr.size : Int) ≥ 5) := by omega
                have e5 : ((rr.extract 0 5).toList == [112, 97, 116, 104, 61]) = true := by rw [extr_to]; rw [beq_iff_eq]; exact k5
                have c9 : ¬ ((rr.size : Int) ≥ 9) := by omega
                have HSD2 : Hid (SaidU l (z.extract a0 z.size).data.toList a5 b) := by
                  have h := HSD.out
                  unfold Hog.putR at h
                  rw [if_pos (by rw [← Hog.size_len]; exact ⟨h5, k5⟩), if_neg (by rw [← Hog.size_len]; exact fun e => absurd e.1 (by omega))] at h
                  rw [HA5.out] at h
                  skip
                  exact hide h
                clear h5 k5 h9 
                go_wp2
                go_roundw
                case rel => exact ⟨z.extract a0 z.size, a5, b, rfl, HZS.out, by rw [HE5.out], rfl, HL5.out, hbN, HSD2, trivial⟩
                case measure => exact HZM.out
            · by_cases h9 : 9 ≤ rr.size
              · by_cases k9 : rr.data.toList.take 9 = Hog.link9
                · have c5 : ((rr.size : Int) ≥ 5) := by omega
                  have e5 : ((rr.extract 0 5).toList == [112, 97, 116, 104, 61]) = false := by rw [extr_to]; rw [beq_eq_false_iff_ne]; exact k5
                  have c9 : ((rr.size : Int) ≥ 9) := by omega
                  have e9 : ((rr.extract 0 9).toList == [108, 105, 110, 107, 112, 97, 116, 104, 61]) = true := by rw [extr_to]; rw [beq_iff_eq]; exact k9
                  have HSD2 : Hid (SaidU l (z.extract a0 z.size).data.toList a b9) := by
                    have h := HSD.out
                    unfold Hog.putR at h
                    rw [if_neg (by rw [← Hog.size_len]; exact fun e => k5 e.2), if_pos (by rw [← Hog.size_len]; exact ⟨h9, k9⟩)] at h
                    skip
                    rw [HB9.out] at h
                    exact hide h
                  clear h5 k5 h9 k9
                  go_wp2
                  go_roundw
                  case rel => exact ⟨z.extract a0 z.size, a, b9, rfl, HZS.out, rfl, by rw [HE9.out], haN, HL9.out, HSD2, trivial⟩
                  case measure => exact HZM.out
                · have c5 : ((rr.size : Int) ≥ 5) := by omega
                  have e5 : ((rr.extract 0 5).toList == [112, 97, 116, 104, 61]) = false := by rw [extr_to]; rw [beq_eq_false_iff_ne]; exact k5
                  have c9 : ((rr.size : Int) ≥ 9) := by omega
                  have e9 : ((rr.extract 0 9).toList == [108, 105, 110, 107, 112, 97, 116, 104, 61]) = false := by rw [extr_to]; rw [beq_eq_false_iff_ne]; exact k9
                  have HSD2 : Hid (SaidU l (z.extract a0 z.size).data.toList a b) := by
                    have h := HSD.out
                    unfold Hog.putR at h
                    rw [if_neg (by rw [← Hog.size_len]; exact fun e => k5 e.2), if_neg (by rw [← Hog.size_len]; exact fun e => k9 e.2)] at h
                    skip
                    skip
                    exact hide h
                  clear h5 k5 h9 k9
                  go_wp2
                  go_roundw
                  case rel => exact ⟨z.extract a0 z.size, a, b, rfl, HZS.out, rfl, rfl, haN, hbN, HSD2, trivial⟩
                  case measure => exact HZM.out
              · have c5 : ((rr.size : Int) ≥ 5) := by omega
                have e5 : ((rr.extract 0 5).toList == [112, 97, 116, 104, 61]) = false := by rw [extr_to]; rw [beq_eq_false_iff_ne]; exact k5
                have c9 : ¬ ((rr.size : Int) ≥ 9) := by omega
                have HSD2 : Hid (SaidU l (z.extract a0 z.size).data.toList a b) := by
                  have h := HSD.out
                  unfold Hog.putR at h
                  rw [if_neg (by rw [← Hog.size_len]; exact fun e => k5 e.2), if_neg (by rw [← Hog.size_len]; exact fun e => absurd e.1 (by omega))] at h
                  skip
                  skip
                  exact hide h
                clear h5 k5 h9 
                go_wp2
                go_roundw
                case rel => exact ⟨z.extract a0 z.size, a, b, rfl, HZS.out, rfl, rfl, haN, hbN, HSD2, trivial⟩
                case measure => exact HZM.out
          · have c5 : ¬ ((rr.size : Int) ≥ 5) := by omega
            have c9 : ¬ ((rr.size : Int) ≥ 9) := by omega
            have HSD2 : Hid (SaidU l (z.extract a0 z.size).data.toList a b) := by
              have h := HSD.out
              unfold Hog.putR at h
              rw [if_neg (by rw [← Hog.size_len]; exact fun e => h5 e.1), if_neg (by rw [← Hog.size_len]; exact fun e => absurd e.1 (by omega))] at h
              skip
              skip
              exact hide h
            clear h5 
            go_wp2
            go_roundw
            case rel => exact ⟨z.extract a0 z.size, a, b, rfl, HZS.out, rfl, rfl, haN, hbN, HSD2, trivial⟩
            case measure => exact HZM.out
end Go.Proofs.YtecjkkipglldlaaGreatDoor
