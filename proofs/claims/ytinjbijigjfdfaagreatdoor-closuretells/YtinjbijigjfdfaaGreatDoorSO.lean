/- The walks of the document's own answer, chapter 8: Places. -/
import Derived.Test.YtinjbijigjfdfaaGreatDoorJ10
namespace Go.Proofs.YtinjbijigjfdfaaGreatDoor
open Go.RowKit

theorem wpList_append_oneZ {w : World} {ops : Array Oper} {rest : List Oper} {o : Oper} {a : Act} {Q : Exit → Act → World → Prop} (hgd : o.guard = none) (s x : Operand)
    (ho : o.op = .call { callee := .builtin .append, args := #[s, x], argTypes := #[49, 49] })
    (base : Nat) (v : Value) (xs : List Int) (hs : a.eval s = v) (hown : OwnZ base w v xs) (ad : Addr) (y : Int) (hx : a.eval x = .slice (some ad) 1 1) (hu : ArgI w (some ad) 1 1 [y])
    (q : Nat) (hq : xs.length = q) (zs : List Int) (hz : xs ++ [y] = zs) (hlen : q < 999999) (hbase : base ≤ w.heap.size)
    (h : ∀ b c w', OwnZ base w' (.slice b (q + 1) c) zs → w.grownBy w' v.ownBlock → wpList Tryz.prog ops Q rest (a.put o.dst (.slice b (q + 1) c)) w') : wpList Tryz.prog ops Q (o :: rest) a w := by
  subst hz
  refine wpList_append_whereZ hgd s x ho base v xs hs hown ad 1 1 [y] hx hu (by simp; omega) hbase ?_
  intro b c w' h1 h2 _
  rw [hq] at h1 ⊢
  exact h b c w' h1 h2

/-- The places below k. -/
def firstL (P s : List UInt8) (k : Nat) : List Nat := (List.range k).filter (Hog.occ P s)
theorem first_step (P s : List UInt8) (k : Nat) : firstL P s (k + 1) = firstL P s k ++ if Hog.occ P s k = true then [k] else [] := by
  unfold firstL
  rw [List.range_succ, List.filter_append, List.filter_cons]
  rfl
theorem first_all {P s : List UInt8} (hP : P ≠ []) : firstL P s (s.length + 1 - P.length) = Hog.placesL P s := by rw [Hog.places_upto hP]; rfl
theorem first_len (P s : List UInt8) (k : Nat) : (firstL P s k).length ≤ k := by
  have := List.length_filter_le (Hog.occ P s) (List.range k)
  rwa [List.length_range] at this
theorem occ_piece {p s : ByteArray} {k : Nat} : Hog.occ p.data.toList s.data.toList k = ((s.extract k (k + p.size)).toList == p.toList) := by
  unfold Hog.occ
  rw [piece_mk, Hog.mk_toList, Lib.toList_data, show k + p.size - k = p.size by omega, Hog.size_len, Bool.eq_iff_iff, decide_eq_true_eq, beq_iff_eq]

set_option maxRecDepth 100000 in
set_option maxHeartbeats 1000000 in
theorem rplaces_ok (s p : ByteArray) (L : List Nat) (w : World) (hp : p.size < 900000) (hs : s.size < 900000) (hL : Hog.placesL p.data.toList s.data.toList = L) :
    Calls Tryz.prog 50 #[.string s, .string p] w fun e w' => ∃ a c, e = .returned (.slice a L.length c) ∧ OwnZ w.heap.size w' (.slice a L.length c) (nums L) ∧ Below w.heap.size w w' := by
  have HL := hide hL
  clear hL
  have hpi : (p.size : Int) < 900000 := by omega
  have hsi : (s.size : Int) < 900000 := by omega
  go_enter Tryz.func50, Tryz.ntmps50
  go_wp2
  by_cases hp0 : p.size = 0
  · have HPN : Hid (p.data.toList = []) := List.eq_nil_of_length_eq_zero (by rw [← Hog.size_len]; exact hp0)
    have hpe : p.toList.isEmpty = true := by rw [Lib.toList_data, HPN.out]; rfl
    have HLN : Hid (L = []) := by rw [← HL.out]; exact Hog.places_none (.inl HPN.out)
    go_loopw [5, 6] (fun v i wr => v = .slice none 0 0 ∧ i = .int .i64 0 ∧ Hid (wr = w)) (fun _ _ _ => 0)
    case atStart => exact ⟨rfl, rfl, rfl⟩
    case round =>
      obtain ⟨rfl, rfl, hwr⟩ := hrel
      have hpi0 : (p.size : Int) ≤ (s.size : Int) := by omega
      clear hp0
      go_wp2
      go_ret
      rw [HLN.out, hwr.out]
      exact ⟨none, 0, rfl, OwnZ.nil _ _, Below.refl _ _⟩
  · have HPN : Hid (p.data.toList ≠ []) := fun e => hp0 (by rw [Hog.size_len, e]; rfl)
    have hpe : p.toList.isEmpty = false := by
      rw [Lib.toList_data]
      cases e : p.data.toList with
      | nil => exact absurd e HPN.out
      | cons a r => rfl
    have hp1 : 0 < p.size := by omega
    clear hp0
    go_loopw [5, 6] (fun v i wr => ∃ (k q : Nat) (a : Option Addr) (c2 : Nat), k ≤ s.size + 1 - p.size ∧ q ≤ k ∧ v = .slice a q c2 ∧ i = .int .i64 k ∧ Hid ((firstL p.data.toList s.data.toList k).length = q) ∧ Hid (OwnZ w.heap.size wr (.slice a q c2) (nums (firstL p.data.toList s.data.toList k))) ∧ Hid (Below w.heap.size w wr)) (fun _ i _ => s.size + 1 - (intOf i).toNat)
    case atStart => exact ⟨0, 0, none, 0, Nat.zero_le _, Nat.le_refl _, rfl, rfl, rfl, OwnZ.nil _ _, Below.refl _ _⟩
    case round =>
      obtain ⟨k, q, a, c2, hk, hq, rfl, rfl, hlen, hown, hbl⟩ := hrel
      by_cases hlt : k + p.size ≤ s.size
      · have hki : (k : Int) + (p.size : Int) ≤ (s.size : Int) := by omega
        have hke : (k : Int) ≤ (k : Int) + (p.size : Int) := by omega
        have HST := hide (first_step p.data.toList s.data.toList k)
        have HOC := hide (occ_piece (p := p) (s := s) (k := k))
        cases hoc : ((s.extract k (k + p.size)).toList == p.toList) with
        | false =>
          rw [HOC.out, hoc, if_neg (by decide), List.append_nil] at HST
          go_wp2
          go_roundw
          case rel => exact ⟨k + 1, q, a, c2, by omega, by omega, rfl, by go_num, by rw [HST.out]; exact hlen, by rw [HST.out]; exact hown, hbl⟩
          case measure => simp [intOf]; omega
        | true =>
          rw [HOC.out, hoc, if_pos rfl] at HST
          have HN : Hid (nums (firstL p.data.toList s.data.toList k) ++ [(k : Int)] = nums (firstL p.data.toList s.data.toList (k + 1))) := by rw [HST.out]; unfold nums; rw [List.map_append]; exact hide rfl
          have HQ : Hid ((nums (firstL p.data.toList s.data.toList k)).length = q) := by unfold nums; rw [List.length_map]; exact hlen
          have HA := hide (argI_one wr (k : Int))
          have HO := hide (hown.out.alloc (.cells #[.int .i64 k] 3))
          have hws := hbl.out.size
          go_wp2_with (at_builtin; refine wpList_append_oneZ rfl _ _ rfl w.heap.size _ _ rfl HO.out ⟨wr.heap.size, 0, none⟩ (k : Int) rfl HA.out q HQ.out _ HN.out ?c1 ?c2 ?_)
          case c1 => omega
          case c2 => simp; omega
          intro b5 c5 w5 ho5 hg5
          have HB5 : Hid (Below w.heap.size w w5) := (hbl.out.trans ((below_box wr (.cells #[.int .i64 k] 3)).mono hws)).trans (OwnZ.grownBelow HO.out hg5 (by simp; omega))
          have HO5 := hide ho5
          have HL5 : Hid ((firstL p.data.toList s.data.toList (k + 1)).length = q + 1) := by rw [HST.out, List.length_append, hlen.out]; exact hide rfl
          clear ho5 hg5 HO HA
          go_wp2
          go_roundw
          case rel => exact ⟨k + 1, q + 1, b5, c5, by omega, by omega, rfl, by go_num, HL5, HO5, HB5⟩
          case measure => simp [intOf]; omega
      · have hki : (s.size : Int) < (k : Int) + (p.size : Int) := by omega
        have HK : Hid (firstL p.data.toList s.data.toList k = L) := by
          rw [← HL.out, ← first_all HPN.out, ← Hog.size_len, ← Hog.size_len, show k = s.size + 1 - p.size by omega]
          exact hide rfl
        rw [HK.out] at hlen hown
        have hkb : (k : Int) ≤ 900000 := by omega
        have hd : decide ((k : Int) + (p.size : Int) ≤ (s.size : Int)) = false := by rw [decide_eq_false_iff_not]; omega
        clear hlt hk hq hki hpe
        go_wp2
        go_ret
        rw [hlen.out]
        exact ⟨a, c2, rfl, hown.out, hbl.out⟩
end Go.Proofs.YtinjbijigjfdfaaGreatDoor
