/- The walks of package head and of the document's own answer, chapter 12: Octal. -/
import Derived.Test.YtecjkkipglldlaaGreatDoorB10
import Derived.Test.YtecjkkipglldlaaGreatDoorBs
import Derived.Test.YtecjkkipglldlaaGreatDoorPlainE
import Derived.Laws.Strings3
import Derived.Laws.Bits64
namespace Go.Proofs.YtecjkkipglldlaaGreatDoor
open Go.RowKit Hog

/-- In block g lie just these bytes, as an array. -/
def ElevAt (w : World) (g : Nat) (l : List UInt8) : Prop := w.heap[g]? = some (.cells (bcells l).toArray 109 (0, 0))
theorem ElevAt.cell {w : World} {g : Nat} {l : List UInt8} (h : ElevAt w g l) {j : Nat} {x : UInt8} (hx : l[j]? = some x) : w.cell? ⟨g, j, none⟩ = some (.int .u8 x.toNat) := by
  rw [cell_of_row w g j _ 109 (0, 0) h]
  simpa using bcells_get hx
theorem ElevAt.free {w : World} {g : Nat} {l : List UInt8} (h : ElevAt w g l) (j : Nat) : w.frozen? ⟨g, j, none⟩ = false := frozen_of_row w g j _ 109 h
theorem ElevAt.stored {w : World} {g : Nat} {l : List UInt8} (h : ElevAt w g l) (k : Nat) (y : UInt8) : ElevAt (w.setCell ⟨g, k, none⟩ (.int .u8 y.toNat)) g (l.set k y) := by
  unfold ElevAt
  rw [heap_setCell_same w g k _ 109 _ h]
  unfold bcells
  rw [List.map_set]
  simp
theorem ElevAt.arg {w : World} {g n c : Nat} {a b : List UInt8} (h : ElevAt w g (a ++ b)) (hn : a.length = n) (hc : n ≤ c) : ArgB w (some ⟨g, 0, none⟩) n c a := by
  subst hn
  refine ⟨rfl, by simp, hc, fun ad e j u hu => ?_⟩
  cases e
  rw [addB_plain, Nat.zero_add, cell_of_row w g j _ 109 (0, 0) h]
  have hj := (List.getElem?_eq_some_iff.1 hu).1
  rw [bcells_app]
  simp only [List.getElem?_toArray]
  rw [List.getElem?_append_left hj]
  exact hu
theorem oct_row {D j N : Nat} (hj : j < D) (v : UInt8) (r : List UInt8) (hv : v = d8 (N / 8 ^ j % 8)) : (List.replicate (D - j) 0 ++ (octL j N ++ r)).set (D - 1 - j) v = List.replicate (D - (j + 1)) 0 ++ (octL (j + 1) N ++ r) := by
  subst hv
  obtain ⟨m, hm⟩ : ∃ m, D - j = m + 1 := ⟨D - j - 1, by omega⟩
  rw [hm, show D - 1 - j = m by omega, show D - (j + 1) = m by omega, List.replicate_succ', List.append_assoc, octL]
  simp
theorem byte_oct {d : Nat} (h : d < 8) : IntKind.u8.wrap (48 + (d : Int)) = ((d8 d).toNat : Int) := by
  rw [d8_val h, IntKind.wrap_u8]; omega
theorem oct_none {n d : Int} (h : n < 0 ∨ d < 1 ∨ 11 < d) : octR n d = false ∧ octT n d = [] := by
  have e : octR n d = false := by unfold octR; rw [decide_eq_false_iff_not]; omega
  exact ⟨e, by unfold octT; rw [e]; rfl⟩
theorem ret_oct (n d : Int) {x : List UInt8} {b : Bool} (hx : octT n d = x) (hb : octR n d = b) : Ending.returned (.tuple #[.string (mk x), .bool b]) = .returned (.tuple #[.string (mk (octT n d)), .bool (octR n d)]) := by rw [hx, hb]
theorem mk_join (a b : List UInt8) : mk a ++ mk b = mk (a ++ b) := by apply ByteArray.ext; unfold mk; simp
theorem oct_over {N k : Nat} (h : 0 < N / 8 ^ k) : octR N k = false ∧ octT N k = [] := by
  have hr : octR N k = false := by
    unfold octR
    rw [decide_eq_false_iff_not]
    rintro ⟨_, _, _, h2⟩
    rw [Int.toNat_natCast, Int.toNat_natCast] at h2
    rw [Nat.div_eq_of_lt h2] at h
    omega
  exact ⟨hr, by unfold octT; rw [hr]; rfl⟩
theorem oct_fits {N k : Nat} (h1 : 1 ≤ k) (h11 : k ≤ 11) (h : N / 8 ^ k = 0) : octR N k = true ∧ octT N k = octL k N := by
  have hr : octR N k = true := by
    unfold octR
    rw [decide_eq_true_eq]
    refine ⟨by omega, by omega, by omega, ?_⟩
    rw [Int.toNat_natCast, Int.toNat_natCast]
    rcases Nat.div_eq_zero_iff.1 h with h | h
    · have := Nat.pow_pos (n := k) (show 0 < 8 by decide); omega
    · exact h
  exact ⟨hr, by unfold octT; rw [if_pos hr]; rfl⟩
theorem mk_nil : mk [] = ⟨#[]⟩ := rfl

set_option maxRecDepth 100000 in
set_option maxHeartbeats 1000000 in
theorem octal_in (N D : Nat) (w : World) (hN : N < 9223372036854775808) (h1 : 1 ≤ D) (h11 : D ≤ 11) :
    Calls Tryz.prog 55 #[.int .i64 N, .int .i64 D] w fun e w' => e = .returned (.tuple #[.string (mk (octT N D)), .bool (octR N D)]) ∧ Below w.heap.size w w' := by
  have t1 : ¬ ((N : Int) < 0) := by omega
  have t2 : ¬ ((D : Int) < 1) := by omega
  have t3 : ¬ ((D : Int) > 11) := by omega
  go_enter Tryz.func55, Tryz.ntmps55
  go_wp2
  go_loopw [0, 7] (fun s i wr => ∃ (k y : Nat) (x : Int), k ≤ D ∧ x = (D : Int) - 1 - (k : Int) ∧ i = .int .i64 x ∧ s = .int .i64 y ∧ Hid (y = N / 8 ^ k) ∧ Hid (ElevAt wr w.heap.size (List.replicate (D - k) 0 ++ (octL k N ++ List.replicate (11 - D) 0))) ∧ Below w.heap.size w wr) (fun _ i _ => (intOf i + 1).toNat)
  case atStart =>
    refine ⟨0, N, (D : Int) - 1, by omega, by omega, rfl, rfl, by simp [Hid], ?_, below_alloc _ _⟩
    rw [show List.replicate (D - 0) (0 : UInt8) ++ (octL 0 N ++ List.replicate (11 - D) 0) = List.replicate 11 0 by rw [octL, List.nil_append, List.replicate_append_replicate]; congr 1; omega]
    exact heap_alloc_new w _
  case round =>
    obtain ⟨k, y, x, hk, hx, rfl, rfl, hy, hl, hbl⟩ := hrel
    by_cases hlt : k < D
    · obtain ⟨j, rfl⟩ : ∃ j : Nat, x = j := ⟨D - 1 - k, by omega⟩
      have hj : j + k + 1 = D := by omega
      have HJ := hide hj
      obtain ⟨d, hd⟩ : ∃ d, d = y % 8 := ⟨_, rfl⟩
      obtain ⟨q, hq⟩ : ∃ q, q = y / 8 := ⟨_, rfl⟩
      have hd1 : (y : Int).tmod 8 = (d : Int) := by rw [Int.tmod_eq_emod_of_nonneg (by omega)]; omega
      have hq1 : (y : Int).tdiv 8 = (q : Int) := by rw [Int.tdiv_eq_ediv_of_nonneg (by omega)]; omega
      have hd8 : d < 8 := by omega
      have hdi : (d : Int) < 8 := by omega
      have hd0 : (0 : Int) ≤ (d : Int) := by omega
      have f1 := hl.out.cell (j := j) (x := 0) (by rw [List.getElem?_append_left (by rw [List.length_replicate]; omega), List.getElem?_replicate, if_pos (by omega)])
      have f2 := hl.out.free j
      have hj0 : (0 : Int) ≤ (j : Int) := by omega
      have hj11 : (j : Int) < 11 := by omega
      have hqw : IntKind.i64.wrap (q : Int) = (q : Int) := by
        have : y ≤ N := by rw [hy.out]; exact Nat.div_le_self _ _
        rw [IntKind.wrap_i64]; omega
      have hb8 := byte_oct hd8
      have HD := hide hd
      have HQ := hide hq
      clear hd hq hj hx hlt
      go_wp2
      go_roundw
      case rel =>
        refine ⟨k + 1, q, (j : Int) - 1, by have := HJ.out; omega, by have := HJ.out; omega, rfl, rfl, ?_, ?_, hbl.setCell (Nat.le_refl _) _⟩
        · rw [HQ.out, hy.out, Nat.div_div_eq_div_mul, Nat.pow_succ]
          exact hide rfl
        · have h1 := hl.out.stored j (d8 d)
          rw [show j = D - 1 - k by have := HJ.out; omega] at h1 ⊢
          rw [oct_row (by have := HJ.out; omega) (d8 d) _ (by rw [HD.out, hy.out])] at h1
          exact h1
      case measure => simp [intOf]
    · obtain rfl : k = D := by omega
      have hl2 := hl.out
      rw [Nat.sub_self, List.replicate_zero, List.nil_append] at hl2
      have hs := str_bytes (hl2.arg (n := k) (c := 11) (octL_len k N) h11)
      have hx0 : x < 0 := by omega
      have hkk : (0 : Int) ≤ (k : Int) := by omega
      have hki : (k : Int) ≤ 11 := by omega
      by_cases hy0 : 0 < y
      · have hyi : (y : Int) > 0 := by omega
        have hr : octR N k = false := by
          unfold octR
          rw [decide_eq_false_iff_not]
          rintro ⟨_, _, _, h⟩
          rw [Int.toNat_natCast, Int.toNat_natCast] at h
          have := hy.out
          rw [Nat.div_eq_of_lt h] at this
          omega
        have ht : octT N k = [] := by unfold octT; rw [hr]; rfl
        have HR := hide hr
        have HT := hide ht
        clear hx hr ht
        go_wp2
        go_ret2
        exact ⟨ret_oct _ _ HT.out HR.out, hbl⟩
      · have hyi : ¬ ((y : Int) > 0) := by omega
        have hr : octR N k = true := by
          unfold octR
          rw [decide_eq_true_eq]
          refine ⟨by omega, by omega, by omega, ?_⟩
          rw [Int.toNat_natCast, Int.toNat_natCast]
          have h0 : N / 8 ^ k = 0 := by have := hy.out; omega
          rcases Nat.div_eq_zero_iff.1 h0 with h | h
          · have := Nat.pow_pos (n := k) (show 0 < 8 by decide); omega
          · exact h
        have ht : octT N k = octL k N := by unfold octT; rw [if_pos hr]; rfl
        have HR := hide hr
        have HT := hide ht
        clear hx hr ht
        go_wp2
        go_ret2
        exact ⟨ret_oct _ _ HT.out HR.out, hbl⟩
set_option maxHeartbeats 400000 in
theorem octal_out (n d : Int) (w : World) (h : n < 0 ∨ d < 1 ∨ 11 < d) :
    Calls Tryz.prog 55 #[.int .i64 n, .int .i64 d] w fun e w' => e = .returned (.tuple #[.string (mk []), .bool false]) ∧ Below w.heap.size w w' := by
  by_cases h1 : n < 0
  · go_enter Tryz.func55, Tryz.ntmps55
    go_wp2
    go_ret2
    exact ⟨rfl, Below.refl _ _⟩
  · by_cases h2 : d < 1
    · go_enter Tryz.func55, Tryz.ntmps55
      go_wp2
      go_ret2
      exact ⟨rfl, Below.refl _ _⟩
    · have h3 : d > 11 := by omega
      go_enter Tryz.func55, Tryz.ntmps55
      go_wp2
      go_ret2
      exact ⟨rfl, Below.refl _ _⟩
theorem octal_ok (n d : Int) (x : List UInt8) (b : Bool) (w0 w : World) (h : Ok w0 w) (hn : n < 9223372036854775808) (hx : octT n d = x) (hb : octR n d = b) :
    Calls Tryz.prog 55 #[.int .i64 n, .int .i64 d] w fun e w' => e = .returned (.tuple #[.string (mk x), .bool b]) ∧ Ok w0 w' ∧ Below w.heap.size w w' := by
  subst hx
  subst hb
  by_cases ho : n < 0 ∨ d < 1 ∨ 11 < d
  · obtain ⟨e1, e2⟩ := oct_none ho
    rw [e1, e2]
    refine (octal_out n d w ho).mono ?_
    rintro e w' ⟨rfl, hb⟩
    exact ⟨rfl, h.next hb, hb⟩
  · obtain ⟨N, rfl⟩ : ∃ N : Nat, n = N := ⟨n.toNat, by omega⟩
    obtain ⟨D, rfl⟩ : ∃ D : Nat, d = D := ⟨d.toNat, by omega⟩
    refine (octal_in N D w (by omega) (by omega) (by omega)).mono ?_
    rintro e w' ⟨rfl, hb⟩
    exact ⟨rfl, h.next hb, hb⟩

def octsB : ByteArray := ⟨#[48, 49, 50, 51, 52, 53, 54, 55]⟩
theorem oct_cut : ∀ d : Fin 8, octsB.extract d.1 (d.1 + 1) = mk [d8 d.1] := by decide
set_option maxRecDepth 100000 in
set_option maxHeartbeats 1000000 in
theorem roctal_in (N D : Nat) (w : World) (hN : N < 9223372036854775808) (h1 : 1 ≤ D) (h11 : D ≤ 11) :
    Calls Tryz.prog 49 #[.int .i64 N, .int .i64 D] w fun e w' => e = .returned (.tuple #[.string (mk (octT N D)), .bool (octR N D)]) ∧ Below w.heap.size w w' := by
  have t1 : ¬ ((N : Int) < 0) := by omega
  have t2 : ¬ ((D : Int) < 1) := by omega
  have t3 : ¬ ((D : Int) > 11) := by omega
  go_enter Tryz.func49, Tryz.ntmps49
  go_wp2
  go_loopw [0, 6, 7] (fun s o i wr => ∃ (k y : Nat) (z : ByteArray), k ≤ D ∧ i = .int .i64 k ∧ s = .int .i64 y ∧ o = .string z ∧ Hid (y = N / 8 ^ k) ∧ Hid (z = mk (octL k N)) ∧ z.size ≤ 11 ∧ wr = w) (fun _ _ i _ => D - (intOf i).toNat)
  case atStart => exact ⟨0, N, _, by omega, rfl, rfl, rfl, by simp [Hid], rfl, by decide, rfl⟩
  case round =>
    obtain ⟨k, y, z, hk, rfl, rfl, rfl, hy, hz, hzs, rfl⟩ := hrel
    by_cases hlt : k < D
    · obtain ⟨d, hd⟩ : ∃ d, d = y % 8 := ⟨_, rfl⟩
      obtain ⟨q, hq⟩ : ∃ q, q = y / 8 := ⟨_, rfl⟩
      have hd1 : (y : Int).tmod 8 = (d : Int) := by rw [Int.tmod_eq_emod_of_nonneg (by omega)]; omega
      have hq1 : (y : Int).tdiv 8 = (q : Int) := by rw [Int.tdiv_eq_ediv_of_nonneg (by omega)]; omega
      have hd8 : d < 8 := by omega
      have hdi : (d : Int) < 8 := by omega
      have hd0 : (0 : Int) ≤ (d : Int) := by omega
      have hki : (k : Int) < (D : Int) := by omega
      have hqw : IntKind.i64.wrap (q : Int) = (q : Int) := by
        have : y ≤ N := by rw [hy.out]; exact Nat.div_le_self _ _
        rw [IntKind.wrap_i64]; omega
      have HD := hide hd
      have HQ := hide hq
      have H8 := hide hd8
      clear hd hq hd8
      go_wp2
      go_roundw
      case rel =>
        have e1 : octsB.extract d (d + 1) ++ z = mk (octL (k + 1) N) := by
          have e0 : d8 d :: octL k N = octL (k + 1) N := by rw [octL, HD.out, hy.out]
          rw [oct_cut ⟨d, H8.out⟩, hz.out, mk_join, ← e0]
          rfl
        refine ⟨k + 1, q, _, by omega, by go_num, rfl, rfl, ?_, hide e1, ?_, trivial⟩
        · rw [HQ.out, hy.out, Nat.div_div_eq_div_mul, Nat.pow_succ]
          exact hide rfl
        · have e2 : (octsB.extract d (d + 1) ++ z).size ≤ 11 := by rw [e1, mk_size, octL_len]; omega
          exact e2
      case measure => simp [intOf]; omega
    · obtain rfl : k = D := by omega
      have hkk : ¬ ((k : Int) < (k : Int)) := by omega
      by_cases hy0 : 0 < y
      · have hyi : (y : Int) > 0 := by omega
        obtain ⟨hr, ht⟩ := oct_over (N := N) (k := k) (by rw [← hy.out]; exact hy0)
        have HR := hide hr
        have HT := hide ht
        clear hr ht
        go_wp2
        go_ret2
        exact ⟨ret_oct _ _ HT.out HR.out, Below.refl _ _⟩
      · have hyi : ¬ ((y : Int) > 0) := by omega
        obtain ⟨hr, ht⟩ := oct_fits (N := N) (k := k) h1 h11 (by rw [← hy.out]; omega)
        have HR := hide hr
        have HT := hide ht
        clear hr ht
        go_wp2
        go_ret2
        rw [hz.out]
        exact ⟨ret_oct _ _ HT.out HR.out, Below.refl _ _⟩
set_option maxHeartbeats 400000 in
theorem roctal_out (n d : Int) (w : World) (h : n < 0 ∨ d < 1 ∨ 11 < d) :
    Calls Tryz.prog 49 #[.int .i64 n, .int .i64 d] w fun e w' => e = .returned (.tuple #[.string (mk []), .bool false]) ∧ Below w.heap.size w w' := by
  by_cases h1 : n < 0
  · go_enter Tryz.func49, Tryz.ntmps49
    go_wp2
    go_ret2
    exact ⟨rfl, Below.refl _ _⟩
  · by_cases h2 : d < 1
    · go_enter Tryz.func49, Tryz.ntmps49
      go_wp2
      go_ret2
      exact ⟨rfl, Below.refl _ _⟩
    · have h3 : d > 11 := by omega
      go_enter Tryz.func49, Tryz.ntmps49
      go_wp2
      go_ret2
      exact ⟨rfl, Below.refl _ _⟩
theorem roctal_ok (n d : Int) (x : List UInt8) (b : Bool) (w0 w : World) (h : Ok w0 w) (hn : n < 9223372036854775808) (hx : octT n d = x) (hb : octR n d = b) :
    Calls Tryz.prog 49 #[.int .i64 n, .int .i64 d] w fun e w' => e = .returned (.tuple #[.string (mk x), .bool b]) ∧ Ok w0 w' ∧ Below w.heap.size w w' := by
  subst hx
  subst hb
  by_cases ho : n < 0 ∨ d < 1 ∨ 11 < d
  · obtain ⟨e1, e2⟩ := oct_none ho
    rw [e1, e2]
    refine (roctal_out n d w ho).mono ?_
    rintro e w' ⟨rfl, hb⟩
    exact ⟨rfl, h.next hb, hb⟩
  · obtain ⟨N, rfl⟩ : ∃ N : Nat, n = N := ⟨n.toNat, by omega⟩
    obtain ⟨D, rfl⟩ : ∃ D : Nat, d = D := ⟨d.toNat, by omega⟩
    refine (roctal_in N D w (by omega) (by omega) (by omega)).mono ?_
    rintro e w' ⟨rfl, hb⟩
    exact ⟨rfl, h.next hb, hb⟩
end Go.Proofs.YtecjkkipglldlaaGreatDoor
