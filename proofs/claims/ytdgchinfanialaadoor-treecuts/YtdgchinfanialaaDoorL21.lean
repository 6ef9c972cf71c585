/- The walk of the statement TreeRoom: for every number it answers true. -/
import Derived.Test.YtdgchinfanialaaDoorN16
import Derived.Deep.RegionLaw
namespace Go.Proofs.YtdgchinfanialaaDoor
open Go.RowKit

theorem step_append_nodes {ops : Array Oper} {o : Oper} {a : Act} {w : World} {K : Act → World → Prop} {Q : Exit → Act → World → Prop} {E : Prop} (hgd : o.guard = none) (s x : Operand)
    (ho : o.op = .call { callee := .builtin .append, args := #[s, x], argTypes := #[22, 22] })
    (base : Nat) (v : Value) (xs : List Nd) (hs : a.eval s = v) (hown : OwnN base w v xs) (ad : Addr) (m c : Nat) (ys : List Nd) (hx : a.eval x = .slice (some ad) m c) (hu : ArgN w (some ad) m c ys)
    (hlen : xs.length + ys.length < 1000000) (hbase : base ≤ w.heap.size)
    (h : ∀ b c w', OwnN base w' (.slice b (xs.length + ys.length) c) (xs ++ ys) → Below base w w' → K (a.put o.dst (.slice b (xs.length + ys.length) c)) w') :
    if Region.wanted o (yielded ops a.tmps) = true then Oper.wp Tryd.prog o a w K Q else E := by
  have hw : Region.wanted o (yielded ops a.tmps) = true := by simp [Region.wanted, hgd]
  rw [if_pos hw]
  obtain ⟨i0, hi, hz0, hz1, hz2⟩ := info_parts A24
  obtain rfl := hu.len
  obtain ⟨v', w', hr, h2, h3, _⟩ := run_append_own (P := Tryd.prog) w base 22 o.type 24 i0 (.agg #[.string ByteArray.empty, .int .i64 0, .string ByteArray.empty]) 3 40 Tryd.underlying22 hi hz0 hz1 hz2 rfl (by decide) v xs.length (flat xs) hown ad ys.length c (flat ys) (flat_len ys) (hu.cell ad rfl) (flat_one ys) (by unfold maxLen; omega) (by omega) hbase
  have h5 : OwnN base w' v' (xs ++ ys) := OwnN.joined h2
  obtain ⟨b, c', e⟩ := h5.form
  rw [List.length_append] at e
  subst e
  unfold Oper.wp
  simp [execOp, ho, resolve, invoke, builtin, hs, hx, hr, Result.andThen]
  exact h b c' w' h5 (hown.grownBelow h3 hbase)

theorem wrap_in (n : Int) (h : -9223372036854775808 ≤ n ∧ n ≤ 9223372036854775807) : IntKind.i64.wrap n = n := by
  simp only [IntKind.wrap, IntKind.bits, IntKind.signed, Bool.true_and]
  split <;> rename_i h' <;> simp only [ge_iff_le, decide_eq_true_eq] at h' <;> omega

set_option maxRecDepth 100000 in
set_option maxHeartbeats 2000000 in
theorem room_walk (many : Int) (w : World) (hsh : w.ShapedOpen Tryd.prog) :
    Calls Tryd.prog 4 #[.int .i64 many] w fun e w' => e = .returned (.bool true) ∧ Below w.heap.size w w' := by
  go_enter Tryd.func4, Tryd.ntmps4
  go_wp2_with fail
  refine (low_any many 410 _ (by decide) (by decide)).mono ?_
  rintro e w1 ⟨r, rfl, hr, rfl⟩
  go_wp2
  go_loopw [3, 4, 5] (fun s i _ wr => ∃ k : Nat, 1 ≤ k ∧ (k = 1 ∨ k ≤ r) ∧ i = .int .i64 k ∧ Hid (OwnN w1.heap.size wr s (room k)) ∧ Hid (Below w1.heap.size w1 wr)) (fun _ i _ _ => 410 - (intOf i).toNat)
  case atStart => exact ⟨1, Nat.le_refl _, .inl rfl, rfl, OwnN.made w1 (room 1) (by decide), below_box _ _⟩
  case round =>
    obtain ⟨k, hk1, hk, rfl, HO, HB⟩ := hrel
    by_cases hlt : k < r
    · obtain ⟨d1, hd1⟩ : ∃ d1 : Nat, d1 = k / 100 := ⟨_, rfl⟩
      obtain ⟨q, hq⟩ : ∃ q : Nat, q = k / 10 := ⟨_, rfl⟩
      obtain ⟨d2, hd2⟩ : ∃ d2 : Nat, d2 = q % 10 := ⟨_, rfl⟩
      obtain ⟨d3, hd3⟩ : ∃ d3 : Nat, d3 = k % 10 := ⟨_, rfl⟩
      have h1 : IntKind.i64.wrap ((k : Int) / 100) = (d1 : Int) := by rw [wrap_in _ (by omega)]; omega
      have h2 : IntKind.i64.wrap ((d1 : Int) + 1) = (d1 : Int) + 1 := wrap_in _ (by omega)
      have h3 : IntKind.i64.wrap ((k : Int) / 10) = (q : Int) := by rw [wrap_in _ (by omega)]; omega
      have h4 : ((q : Int)).tmod 10 = (d2 : Int) := by rw [Int.tmod_eq_emod_of_nonneg (by omega)]; omega
      have h5 : IntKind.i64.wrap ((d2 : Int) + 1) = (d2 : Int) + 1 := wrap_in _ (by omega)
      have h6 : ((k : Int)).tmod 10 = (d3 : Int) := by rw [Int.tmod_eq_emod_of_nonneg (by omega)]; omega
      have h7 : IntKind.i64.wrap ((d3 : Int) + 1) = (d3 : Int) + 1 := wrap_in _ (by omega)
      have b1 : d1 < 10 := by omega
      have b2 : d2 < 10 := by omega
      have b3 : d3 < 10 := by omega
      have HD1 := hide hd1
      have HQ := hide hq
      have HD2 := hide hd2
      have HD3 := hide hd3
      clear hd1 hd2 hd3 hq
      have r1 : (0 : Int) ≤ (d1 : Int) + 1 ∧ (d1 : Int) + 1 ≤ 10 := by omega
      have r2 : (0 : Int) ≤ (d2 : Int) + 1 ∧ (d2 : Int) + 1 ≤ 10 := by omega
      have r3 : (0 : Int) ≤ (d3 : Int) + 1 ∧ (d3 : Int) + 1 ≤ 10 := by omega
      have s1 : (d1 : Int) ≤ (d1 : Int) + 1 := by omega
      have s2 : (d2 : Int) ≤ (d2 : Int) + 1 := by omega
      have s3 : (d3 : Int) ≤ (d3 : Int) + 1 := by omega
      obtain ⟨X1, e1⟩ : ∃ X1, (ByteArray.mk #[48, 49, 50, 51, 52, 53, 54, 55, 56, 57]).extract d1 (d1 + 1) = X1 := ⟨_, rfl⟩
      obtain ⟨X2, e2⟩ : ∃ X2, (ByteArray.mk #[48, 49, 50, 51, 52, 53, 54, 55, 56, 57]).extract d2 (d2 + 1) = X2 := ⟨_, rfl⟩
      obtain ⟨X3, e3⟩ : ∃ X3, (ByteArray.mk #[48, 49, 50, 51, 52, 53, 54, 55, 56, 57]).extract d3 (d3 + 1) = X3 := ⟨_, rfl⟩
      have z1 : X1.size = 1 := by rw [← e1, dig_mk d1 b1]; rfl
      have z2 : X2.size = 1 := by rw [← e2, dig_mk d2 b2]; rfl
      have z3 : X3.size = 1 := by rw [← e3, dig_mk d3 b3]; rfl
      have z12 : (X1 ++ X2).size = 2 := by rw [ByteArray.size_append, z1, z2]
      have HE : Hid ((X1 ++ X2 ++ X3, (2 : Int), (⟨#[]⟩ : ByteArray)) = ndR k) := by
        show _ = _
        unfold ndR
        rw [if_neg (by omega), ← e1, ← e2, ← e3, dig_mk d1 b1, dig_mk d2 b2, dig_mk d3 b3, HD1.out, HD2.out, HQ.out, HD3.out]
      have hzr : w1.heap.size ≤ wr.heap.size := HB.out.size
      have HOX : Hid (OwnN w1.heap.size (wr.drew.alloc (.cells #[.string (X1 ++ X2 ++ X3), .int .i64 2, .string ⟨#[]⟩] 24)) u3 (room k)) := (OwnN.alloc (OwnN.below HO.out (Below.refl _ _).drew) _)
      have HRX := hide ((Run.one wr.drew (X1 ++ X2 ++ X3, (2 : Int), (⟨#[]⟩ : ByteArray))).arg (c := 1) (by simp))
      have hrl := room_len k
      have HRL := hide hrl
      have hlen2 : (room k).length + 1 < 1000000 := by omega
      clear hrl
      go_wp2
      go_region_law (refine step_append_nodes rfl (.tmp 16) (.tmp 43) rfl w1.heap.size u3 (room k) rfl HOX.out _ _ _ [(X1 ++ X2 ++ X3, (2 : Int), (⟨#[]⟩ : ByteArray))] rfl HRX.out hlen2 (by simp; omega) ?_; intro b5 c5 w5 ho hb)
      have HO5 : Hid (OwnN w1.heap.size w5 (.slice b5 ((room k).length + 1) c5) (room (k + 1))) := by
        show OwnN _ _ _ _
        rw [room_succ, ← HE.out]
        exact ho
      have HB5 := hide (HB.out.trans (((Below.refl _ wr).drew.alloc hzr (.cells #[.string (X1 ++ X2 ++ X3), .int .i64 2, .string ⟨#[]⟩] 24)).trans hb))
      clear ho hb h1 h2 h3 h4 h5 h6 h7 r1 r2 r3 s1 s2 s3 e1 e2 e3 z1 z2 z3 z12 HOX HRX
      go_wp2
      go_roundw
      case rel => exact ⟨k + 1, by omega, .inr (by omega), by go_num, HO5, HB5⟩
      case measure => simp [intOf]; omega
    · have hkm : k ≤ 410 := by omega
      obtain ⟨a, c, e⟩ := HO.out.form
      rw [room_len] at e
      subst e
      have HBD := hide (room_bad (m := k) hk1)
      have okr : Ok w1 wr := ⟨hsh, HB.out⟩
      by_cases h400 : 400 < k
      · have hi : (400 : Int) < (k : Int) := by omega
        go_wp2_with fail
        refine (bad_ok _ (room k) 400 w1 wr okr (room_small k hkm) HO.out.nods (by rw [room_len]; omega) (by rw [HBD.out, if_pos h400])).mono ?_
        rintro e w2 ⟨rfl, ok2, _⟩
        go_wp2_with fail
        refine (awake2_any w1 w2 ok2).mono ?_
        rintro e w3 ⟨rfl, ok3, _⟩
        go_wp2_with fail
        go_ret
        exact ⟨rfl, ok3.2⟩
      · have hi : (k : Int) ≤ 400 := by omega
        go_wp2_with fail
        refine (bad_ok _ (room k) (-1) w1 wr okr (room_small k hkm) HO.out.nods (by rw [room_len]; omega) (by rw [HBD.out, if_neg h400])).mono ?_
        rintro e w2 ⟨rfl, ok2, _⟩
        go_wp2_with fail
        refine (awake2_any w1 w2 ok2).mono ?_
        rintro e w3 ⟨rfl, ok3, _⟩
        go_wp2_with fail
        go_ret
        exact ⟨rfl, ok3.2⟩
end Go.Proofs.YtdgchinfanialaaDoor
