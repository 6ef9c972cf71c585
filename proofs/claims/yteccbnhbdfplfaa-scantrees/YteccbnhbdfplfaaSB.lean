/- The walk of package scan: grow. -/
import Derived.Test.YteccbnhbdfplfaaSA
import Derived.Test.YteccbnhbdfplfaaPlain8
import Derived.Test.YteccbnhbdfplfaaX2
namespace Go.Proofs.Yteccbnhbdfplfaa
open Go.RowKit

theorem bne_byte {x y : UInt8} (h : x ≠ y) : ((x.toNat : Int) != (y.toNat : Int)) = true := by
  rw [bne_iff_ne]
  intro e
  exact h (UInt8.toNat_inj.1 (by omega))
theorem eq_byte {x y : UInt8} (h : x = y) : ((x.toNat : Int) != (y.toNat : Int)) = false := by rw [h]; simp
theorem beq_byte {x y : UInt8} (h : x = y) : ((x.toNat : Int) == (y.toNat : Int)) = true := by rw [h]; simp
theorem not_byte {x y : UInt8} (h : x ≠ y) : ((x.toNat : Int) == (y.toNat : Int)) = false := by
  rw [beq_eq_false_iff_ne]
  intro e
  exact h (UInt8.toNat_inj.1 (by omega))

set_option maxRecDepth 100000 in
set_option maxHeartbeats 800000 in
theorem grow_any (p : ByteArray) (b o n c : Nat) (zs : List Int) (t : List UInt8) (x : UInt8) (s0 : Nat) (w : World) (hp : 0 < p.size) (hm : p.size ≤ maxLen) (hs0 : s0 ≤ p.size) (hn : s0 ≤ n)
    (hz : ∀ (j : Nat) z, zs[j]? = some z → w.cell? ⟨b, o + j, none⟩ = some (.int .i64 z)) (ht : Hog.table p.data.toList zs s0) (h0 : Hog.best p.data.toList t s0) :
    Calls Try.prog 37 #[.string p, .slice (some ⟨b, o, none⟩) n c, .int .i64 s0, .int .u8 x.toNat] w fun e w' => (∃ r : Nat, e = .returned (.int .i64 r) ∧ Hog.best p.data.toList (t ++ [x]) r) ∧ w' = w := by
  unfold maxLen at hm
  have HZ := hide hz
  have HT := hide ht
  have H0 := hide h0
  clear hz ht h0
  have hp' : (0 : Int) < (p.size : Int) := by omega
  go_enter Try.func37, Try.ntmps37
  go_wp2
  go_loop [2] (fun i => ∃ k : Nat, k ≤ s0 ∧ i = .int .i64 k ∧ Hid (Hog.low p.data.toList t x k)) (fun i => (intOf i).toNat)
  case atStart => exact ⟨s0, Nat.le_refl _, rfl, Hog.low_start H0.out⟩
  case round =>
    obtain ⟨k, hk, rfl, hlo⟩ := hrel
    cases k with
    | zero =>
      have HAT := hide (at_byte p 0 hp)
      by_cases hx : p[0] = x
      · have hq := beq_byte hx
        have HX := hide hx
        clear hx
        go_wp2
        go_ret
        exact ⟨⟨1, rfl, Hog.low_hit hlo.out (by rw [HAT.out, HX.out])⟩, rfl⟩
      · have hq := not_byte hx
        have HX := hide hx
        clear hx
        go_wp2
        go_ret
        exact ⟨⟨0, rfl, Hog.low_miss hlo.out (by rw [HAT.out]; intro e; exact HX.out (Option.some.inj e))⟩, rfl⟩
    | succ q =>
      have hq0 : (0 : Int) < ((q + 1 : Nat) : Int) := by omega
      have hqn : (q : Int) < (n : Int) := by omega
      obtain ⟨r, hr1, hr2⟩ := HT.out q (by omega)
      have hcell := HZ.out q _ hr1
      have HR := hide hr2
      clear hr1 hr2
      by_cases he : q + 1 = p.size
      · have hqe : (((q + 1 : Nat) : Int) == (p.size : Int)) = true := by rw [he]; simp
        have HST : Hid (Hog.low p.data.toList t x r ∧ r ≤ q) := Hog.low_step hlo.out HR.out (by rw [List.getElem?_eq_none (by rw [← Hog.size_len]; omega)]; simp)
        have hcell2 : w.cell? ⟨b, o + (p.size - 1), none⟩ = some (.int .i64 r) := by rw [← he]; simpa using hcell
        clear he
        go_wp2
        all_goals exact ⟨⟨r, by have := HST.out.2; omega, rfl, HST.out.1⟩, by have := HST.out.2; simp [intOf]; omega⟩
      · have hqe : (((q + 1 : Nat) : Int) == (p.size : Int)) = false := by rw [beq_eq_false_iff_ne]; omega
        have hql : q + 1 < p.size := by omega
        have HAT := hide (at_byte p (q + 1) hql)
        clear he
        by_cases hx : p[q + 1] = x
        · have hb1 := eq_byte hx
          have hb2 := beq_byte hx
          have HX := hide hx
          clear hx
          go_wp2
          go_ret
          exact ⟨⟨q + 1 + 1, by first | rfl | (congr 1; go_num), Hog.low_hit hlo.out (by rw [HAT.out, HX.out])⟩, rfl⟩
        · have hb1 := bne_byte hx
          have HX := hide hx
          clear hx
          have HST : Hid (Hog.low p.data.toList t x r ∧ r ≤ q) := Hog.low_step hlo.out HR.out (by rw [HAT.out]; intro e; exact HX.out (Option.some.inj e))
          go_wp2
          go_round
          case rel => exact ⟨r, by have := HST.out.2; omega, rfl, HST.out.1⟩
          case measure => have := HST.out.2; simp [intOf]; omega
theorem grow_ok (p : ByteArray) (b o n c : Nat) (zs : List Int) (t : List UInt8) (x : UInt8) (s0 r : Nat) (w : World) (hp : 0 < p.size) (hm : p.size ≤ maxLen) (hs0 : s0 ≤ p.size) (hn : s0 ≤ n)
    (hz : ∀ (j : Nat) z, zs[j]? = some z → w.cell? ⟨b, o + j, none⟩ = some (.int .i64 z)) (ht : Hog.table p.data.toList zs s0) (h0 : Hog.best p.data.toList t s0) (hr : Hog.best p.data.toList (t ++ [x]) r) :
    Calls Try.prog 37 #[.string p, .slice (some ⟨b, o, none⟩) n c, .int .i64 s0, .int .u8 x.toNat] w fun e w' => e = .returned (.int .i64 r) ∧ w' = w := by
  refine (grow_any p b o n c zs t x s0 w hp hm hs0 hn hz ht h0).mono ?_
  rintro e w' ⟨⟨r', rfl, hr'⟩, rfl⟩
  rw [Hog.best_one hr' hr]
  exact ⟨rfl, rfl⟩
end Go.Proofs.Yteccbnhbdfplfaa
