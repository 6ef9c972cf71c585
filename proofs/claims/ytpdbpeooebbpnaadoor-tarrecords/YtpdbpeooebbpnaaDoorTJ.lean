/- The walk of TarRecords: a record begins with how many bytes it has. -/
import Derived.Test.YtpdbpeooebbpnaaDoorTI
namespace Go.Proofs.YtpdbpeooebbpnaaDoor.Hog
open Go
/-- The number of these decimal digits. -/
def valD (l : List UInt8) : Nat := l.foldl (fun a c => a * 10 + (c.toNat - 48)) 0
theorem valD_nil : valD [] = 0 := rfl
theorem valD_snoc (l : List UInt8) (c : UInt8) : valD (l ++ [c]) = valD l * 10 + (c.toNat - 48) := by unfold valD; rw [List.foldl_append]; rfl
theorem valD_step {l : List UInt8} {k : Nat} {x : UInt8} (hx : l[k]? = some x) : valD (l.take (k + 1)) = valD (l.take k) * 10 + (x.toNat - 48) := by
  obtain ⟨h1, rfl⟩ := List.getElem?_eq_some_iff.1 hx
  rw [List.take_succ_eq_append_getElem h1, valD_snoc]
theorem dig_byte {n : Nat} (h : n < 10) : (UInt8.ofNat (48 + n)).toNat = 48 + n := by rw [UInt8.toNat_ofNat']; omega
theorem valD_dec (n : Nat) : valD (decL n) = n := by
  induction n using Nat.strongRecOn with
  | _ n ih =>
    by_cases h : n < 10
    · rw [decL_one h]
      have := valD_snoc [] (UInt8.ofNat (48 + n))
      rw [List.nil_append, dig_byte h] at this
      rw [this, valD_nil]; omega
    · rw [decL_more h, valD_snoc, ih (n / 10) (by omega), dig_byte (Nat.mod_lt _ (by decide))]; omega
theorem dec_digits (n : Nat) : ∀ c ∈ decL n, 48 ≤ c.toNat ∧ c.toNat ≤ 57 := by
  induction n using Nat.strongRecOn with
  | _ n ih =>
    intro c hc
    by_cases h : n < 10
    · rw [decL_one h, List.mem_singleton] at hc
      subst hc
      rw [dig_byte h]; omega
    · rw [decL_more h, List.mem_append, List.mem_singleton] at hc
      rcases hc with hc | rfl
      · exact ih (n / 10) (by omega) c hc
      · rw [dig_byte (Nat.mod_lt _ (by decide))]; omega
theorem dec_first (n : Nat) (h0 : 0 < n) : ∃ c r, decL n = c :: r ∧ c.toNat ≠ 48 := by
  induction n using Nat.strongRecOn with
  | _ n ih =>
    by_cases h : n < 10
    · exact ⟨_, [], decL_one h, by rw [dig_byte h]; omega⟩
    · obtain ⟨c, r, e, hc⟩ := ih (n / 10) (by omega) (by omega)
      exact ⟨c, r ++ [UInt8.ofNat (48 + n % 10)], by rw [decL_more h, e]; rfl, hc⟩
theorem valD_lt (l : List UInt8) : (∀ c ∈ l, c.toNat ≤ 57) → valD l < 10 ^ l.length := by
  intro h
  have key : ∀ (l : List UInt8) (a : Nat), (∀ c ∈ l, c.toNat ≤ 57) → l.foldl (fun a c => a * 10 + (c.toNat - 48)) a < (a + 1) * 10 ^ l.length := by
    intro l
    induction l with
    | nil => intro a _; simp
    | cons c l ih =>
      intro a h
      have h1 := ih (a * 10 + (c.toNat - 48)) (fun x hx => h x (List.mem_cons_of_mem _ hx))
      have h2 := h c (by simp)
      rw [List.foldl_cons, List.length_cons, Nat.pow_succ]
      have h3 : (a * 10 + (c.toNat - 48) + 1) * 10 ^ l.length ≤ ((a + 1) * 10) * 10 ^ l.length := Nat.mul_le_mul_right _ (by omega)
      rw [Nat.mul_assoc (a + 1) 10, Nat.mul_comm 10] at h3
      omega
  have := key l 0 h
  unfold valD
  omega
end Go.Proofs.YtpdbpeooebbpnaaDoor.Hog
namespace Go.Proofs.YtpdbpeooebbpnaaDoor
open Go.RowKit

theorem byte_dec {x : UInt8} (h1 : 48 ≤ x.toNat) (h2 : x.toNat ≤ 57) : IntKind.u8.wrap ((x.toNat : Int) - 48) = ((x.toNat - 48 : Nat) : Int) := by
  rw [IntKind.wrap_u8]; omega

set_option maxRecDepth 100000 in
set_option maxHeartbeats 2000000 in
theorem records_walk (k v : ByteArray) (w : World) (hsh : w.ShapedOpen Tryd.prog) (hp : Pow w) (_ : k.size ≤ maxLen) (_ : v.size ≤ maxLen) :
    Calls Tryd.prog 3 #[.string k, .string v] w fun e w' => e = .returned (.bool true) ∧ Below w.heap.size w w' := by
  have ok := Ok.start hsh
  have HP := hide hp
  clear hsh hp
  by_cases h1 : k.size > 200
  · have c1 : (k.size : Int) > 200 := by omega
    go_enter Tryd.func3, Tryd.ntmps3
    go_wp2_with fail
    refine (awake13_ok w w HP.out ok).mono ?_
    rintro e w1 ⟨rfl, ok1, hb1⟩
    go_wp2
    go_ret
    exact ⟨rfl, hb1⟩
  by_cases h2 : v.size > 1000
  · have c1 : ¬ ((k.size : Int) > 200) := by omega
    have c2 : (v.size : Int) > 1000 := by omega
    go_enter Tryd.func3, Tryd.ntmps3
    go_wp2_with fail
    refine (awake13_ok w w HP.out ok).mono ?_
    rintro e w1 ⟨rfl, ok1, hb1⟩
    go_wp2
    go_ret
    exact ⟨rfl, hb1⟩
  have c1 : ¬ ((k.size : Int) > 200) := by omega
  have c2 : ¬ ((v.size : Int) > 1000) := by omega
  obtain ⟨z, hz⟩ : ∃ z, Hog.recL k.data.toList v.data.toList = z := ⟨_, rfl⟩
  obtain ⟨r, hr⟩ : ∃ r, Hog.restL k.data.toList v.data.toList = r := ⟨_, rfl⟩
  obtain ⟨n, hn⟩ : ∃ n, Hog.recN k.data.toList v.data.toList = n := ⟨_, rfl⟩
  obtain ⟨D, hD⟩ : ∃ D, (Hog.decL n).length = D := ⟨_, rfl⟩
  obtain ⟨s, hs⟩ : ∃ s, Hog.mk z = s := ⟨_, rfl⟩
  have hkv : k.data.toList.length + v.data.toList.length < 1000000 := by rw [← Hog.size_len, ← Hog.size_len]; omega
  have hzn : z.length = n := by rw [← hz, Hog.recL_len hkv, hn]
  have hsl : s.data.toList = z := by rw [← hs, Hog.mk_data]
  have hss : s.size = n := by rw [Hog.size_len, hsl, hzn]
  have hn1 : n ≤ 1211 := by rw [← hn]; have := Hog.recN_le hkv; rw [← Hog.size_len, ← Hog.size_len] at this; omega
  have hz2 : z = Hog.decL n ++ r := by rw [← hz, ← hr, ← hn]; rfl
  have hD4 : D ≤ 4 := by rw [← hD, Hog.decL_len]; exact Hog.nDigits_le (k := 3) (by omega)
  have hD1 : 1 ≤ D := by rw [← hD, Hog.decL_len]; exact Lib.nDigits_pos n
  have hr32 : r = 32 :: (k.data.toList ++ [61] ++ v.data.toList ++ [10]) := by rw [← hr]; unfold Hog.restL; simp
  have hDn : D < n := by
    have : z.length = D + r.length := by rw [hz2, List.length_append, hD]
    rw [hzn, hr32, List.length_cons] at this
    omega
  have HA : Hid (∀ j : Nat, j < D → ∃ x : UInt8, (Hog.decL n)[j]? = some x ∧ z[j]? = some x ∧ 48 ≤ x.toNat ∧ x.toNat ≤ 57) := hide (fun j hj => by
    have hj2 : j < (Hog.decL n).length := by omega
    have e : (Hog.decL n)[j]? = some (Hog.decL n)[j] := List.getElem?_eq_getElem hj2
    exact ⟨_, e, by rw [hz2, List.getElem?_append_left hj2]; exact e, Hog.dec_digits n _ (List.getElem_mem hj2)⟩)
  have HB : Hid (z[D]? = some 32) := by
    rw [hz2, List.getElem?_append_right (by omega), hD, Nat.sub_self, hr32]; exact hide rfl
  have HC : Hid (∃ c : UInt8, z[0]? = some c ∧ c.toNat ≠ 48) := by
    obtain ⟨c, r', e, hc⟩ := Hog.dec_first n (by omega)
    rw [hz2, e]
    exact hide ⟨c, rfl, hc⟩
  have HE : Hid (z.drop D = r) := by rw [hz2, ← hD, List.drop_left' rfl]; exact hide rfl
  have HV : Hid (Hog.valD ((Hog.decL n).take D) = n) := by rw [← hD, List.take_length]; exact hide (Hog.valD_dec n)
  have HVL : Hid (∀ j, Hog.valD ((Hog.decL n).take j) ≤ 10000) := hide (fun j => by
    have h := Hog.valD_lt ((Hog.decL n).take j) (fun c hc => (Hog.dec_digits n c (List.mem_of_mem_take hc)).2)
    have h2 : ((Hog.decL n).take j).length ≤ 4 := by rw [List.length_take]; omega
    have h3 := Nat.pow_le_pow_right (n := 10) (by decide) h2
    omega)
  have HZ := hide hz
  have HS := hide hs
  have HSL := hide hsl
  have HSS := hide hss
  have HR : Hid ((⟨#[32]⟩ ++ k ++ ⟨#[61]⟩ ++ v ++ ⟨#[10]⟩ : ByteArray) = Hog.mk r) := by rw [rest_mk, hr]; exact hide rfl
  clear hz hr hn hD hs hkv hzn hsl hss hz2 hr32
  go_enter Tryd.func3, Tryd.ntmps3
  go_wp2_with fail
  refine (recordR_ok k v _ _ z w w HP.out ok rfl rfl (by omega) HZ.out).mono ?_
  rintro e w1 ⟨rfl, ok1, hb1⟩
  rw [HS.out]
  have HB1 := hide hb1
  clear hb1 ok
  go_wp2
  go_loopw [6, 7] (fun m i wr => ∃ (j a : Nat), j ≤ D ∧ i = .int .i64 j ∧ m = .int .i64 a ∧ a ≤ 10000 ∧ Hid (a = Hog.valD ((Hog.decL n).take j)) ∧ wr = w1) (fun _ i _ => 10 - (intOf i).toNat)
  case atStart => exact ⟨0, 0, by omega, rfl, rfl, by omega, by rw [List.take_zero]; exact hide rfl, rfl⟩
  case round =>
    obtain ⟨j, a, hj, rfl, rfl, ha, hav, rfl⟩ := hrel
    have hjs : j < s.size := by rw [HSS.out]; omega
    have hji : (j : Int) < (s.size : Int) := by omega
    have hj6 : (j : Int) < 6 := by omega
    by_cases hlt : j < D
    · obtain ⟨x, x1, x2, x3, x4⟩ := HA.out j hlt
      have hxs : s[j] = x := by
        have := str_at hjs
        rw [HSL.out, x2] at this
        exact (Option.some.inj this).symm
      obtain ⟨d, hd⟩ : ∃ d, s[j].toNat - 48 = d := ⟨_, rfl⟩
      have hu : IntKind.u8.wrap ((s[j].toNat : Int) - 48) = (d : Int) := by rw [← hd]; exact byte_dec (by rw [hxs]; exact x3) (by rw [hxs]; exact x4)
      have d1 : (s[j].toNat : Int) ≥ 48 := by rw [hxs]; omega
      have d2 : (s[j].toNat : Int) ≤ 57 := by rw [hxs]; omega
      have hd9 : d ≤ 9 := by rw [← hd, hxs]; omega
      have HX : Hid (Hog.valD ((Hog.decL n).take (j + 1)) = a * 10 + d) := by rw [Hog.valD_step x1, ← hav.out, ← hd, hxs]; exact hide rfl
      clear x1 x2 x3 x4 hxs hd
      go_wp2
      go_roundw
      case rel => exact ⟨j + 1, a * 10 + d, by omega, by go_num, by go_num, by rw [← HX.out]; exact HVL.out _, hide HX.out.symm, trivial⟩
      case measure => simp [intOf]; omega
    · obtain rfl : j = D := by omega
      have hxs : s[j] = 32 := by
        have := str_at hjs
        rw [HSL.out, HB.out] at this
        exact (Option.some.inj this).symm
      have h0s : 0 < s.size := by omega
      obtain ⟨x, y1, y2⟩ := HC.out
      have hx0 : s[0] = x := by
        have := str_at h0s
        rw [HSL.out, y1] at this
        exact (Option.some.inj this).symm
      have d1 : ¬ ((s[j].toNat : Int) ≥ 48) := by rw [hxs]; decide
      have d2 : ((s[0].toNat : Int) != 48) = true := by rw [hx0, bne_iff_ne]; omega
      have han : a = s.size := by rw [hav.out, HV.out, HSS.out]
      have d3 : ((a : Int) == (s.size : Int)) = true := by rw [han]; simp
      have d4 : (j : Int) > 0 := by omega
      have d5 : ((s.extract j s.size).toList == (⟨#[32]⟩ ++ k ++ ⟨#[61]⟩ ++ v ++ ⟨#[10]⟩ : ByteArray).toList) = true := by
        rw [beq_iff_eq, HR.out, Hog.mk_toList, ← HE.out, ← HSL.out, Lib.toList_data, Lib.extract_to_end]
      have hk2 : k.size ≤ 200 := by omega
      have hv2 : v.size ≤ 1000 := by omega
      have h0i : (0 : Int) < (s.size : Int) := by omega
      clear hxs y1 y2 hx0 han h1 h2
      go_wp2_with fail
      refine (awake13_ok w wr HP.out ok1).mono ?_
      rintro e w2 ⟨rfl, ok2, hb2⟩
      have HB2 := hide (below_two HB1.out hb2)
      clear hb2
      go_wp2
      go_ret
      exact ⟨rfl, HB2.out⟩
end Go.Proofs.YtpdbpeooebbpnaaDoor
