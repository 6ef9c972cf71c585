/- Texts that stand together, joined: HA, HB, HC, HD, HE. -/
import Derived.Test.YtecjkkipglldlaaGreatDoorB10
import Derived.Test.YtecjkkipglldlaaGreatDoorBs
import Derived.Test.YtecjkkipglldlaaGreatDoorPlainE
import Derived.Laws.Strings3
import Derived.Laws.Bits64
import Derived.Lib.BufferWrite
import Derived.Lib.IndexLaws
import Derived.Lib.BytesEntry
import Derived.Deep.QuietTactic
import Derived.BigQuiet
/- The walks of package head and of the document's own answer, chapter 12: Octal. -/
namespace Go.Proofs.YtecjkkipglldlaaGreatDoor
open Go.RowKit Hog

/-- In block g lie just these bytes, as an array. -/
def ElevAt (w : World) (g : Nat) (l : List UInt8) : Prop := w.heap[g]? = some (.cells (bcells l).toArray 109 (0, 0))
theorem ElevAt.cell {w : World} {g : Nat} {l : List UInt8} (h : ElevAt w g l) {j : Nat} {x : UInt8} (hx : l[j]? = some x) : w.cell? ⟨g, j, none⟩ = some (.int .u8 x.toNat) := by
  rw [cell_of_row w g j _ 109 (0, 0) h]
  simpa using bcells_get hx
theorem ElevAt.free {w : World} {g : Nat} {l : List UInt8} (h : ElevAt w g l) (j : Nat) : w.frozen? ⟨g, j, none⟩ = false := frozen_of_row w g j _ 109 h
theorem ElevAt.stored {w : World} {g : Nat} {l : List UInt8} (h : ElevAt w g l) (k : Nat) (y : UInt8) : ElevAt (w.setCell ⟨g, k, none⟩ (.int .u8 y.toNat)) g (l.set k y) := by
  unfold ElevAt
  rw [heap_setCell_same w g k _ 109 _ h]
  unfold bcells
  rw [List.map_set]
  simp
theorem ElevAt.arg {w : World} {g n c : Nat} {a b : List UInt8} (h : ElevAt w g (a ++ b)) (hn : a.length = n) (hc : n ≤ c) : ArgB w (some ⟨g, 0, none⟩) n c a := by
  subst hn
  refine ⟨rfl, by simp, hc, fun ad e j u hu => ?_⟩
  cases e
  rw [addB_plain, Nat.zero_add, cell_of_row w g j _ 109 (0, 0) h]
  have hj := (List.getElem?_eq_some_iff.1 hu).1
  rw [bcells_app]
  simp only [List.getElem?_toArray]
  rw [List.getElem?_append_left hj]
  exact hu
theorem oct_row {D j N : Nat} (hj : j < D) (v : UInt8) (r : List UInt8) (hv : v = d8 (N / 8 ^ j % 8)) : (List.replicate (D - j) 0 ++ (octL j N ++ r)).set (D - 1 - j) v = List.replicate (D - (j + 1)) 0 ++ (octL (j + 1) N ++ r) := by
  subst hv
  obtain ⟨m, hm⟩ : ∃ m, D - j = m + 1 := ⟨D - j - 1, by omega⟩
  rw [hm, show D - 1 - j = m by omega, show D - (j + 1) = m by omega, List.replicate_succ', List.append_assoc, octL]
  simp
theorem byte_oct {d : Nat} (h : d < 8) : IntKind.u8.wrap (48 + (d : Int)) = ((d8 d).toNat : Int) := by
  rw [d8_val h, IntKind.wrap_u8]; omega
theorem oct_none {n d : Int} (h : n < 0 ∨ d < 1 ∨ 11 < d) : octR n d = false ∧ octT n d = [] := by
  have e : octR n d = false := by unfold octR; rw [decide_eq_false_iff_not]; omega
  exact ⟨e, by unfold octT; rw [e]; rfl⟩
theorem ret_oct (n d : Int) {x : List UInt8} {b : Bool} (hx : octT n d = x) (hb : octR n d = b) : Ending.returned (.tuple #[.string (mk x), .bool b]) = .returned (.tuple #[.string (mk (octT n d)), .bool (octR n d)]) := by rw [hx, hb]
theorem mk_join (a b : List UInt8) : mk a ++ mk b = mk (a ++ b) := by apply ByteArray.ext; unfold mk; simp
theorem oct_over {N k : Nat} (h : 0 < N / 8 ^ k) : octR N k = false ∧ octT N k = [] := by
  have hr : octR N k = false := by
    unfold octR
    rw [decide_eq_false_iff_not]
    rintro ⟨_, _, _, h2⟩
    rw [Int.toNat_natCast, Int.toNat_natCast] at h2
    rw [Nat.div_eq_of_lt h2] at h
    omega
  exact ⟨hr, by unfold octT; rw [hr]; rfl⟩
theorem oct_fits {N k : Nat} (h1 : 1 ≤ k) (h11 : k ≤ 11) (h : N / 8 ^ k = 0) : octR N k = true ∧ octT N k = octL k N := by
  have hr : octR N k = true := by
    unfold octR
    rw [decide_eq_true_eq]
    refine ⟨by omega, by omega, by omega, ?_⟩
    rw [Int.toNat_natCast, Int.toNat_natCast]
    rcases Nat.div_eq_zero_iff.1 h with h | h
    · have := Nat.pow_pos (n := k) (show 0 < 8 by decide); omega
    · exact h
  exact ⟨hr, by unfold octT; rw [if_pos hr]; rfl⟩
theorem mk_nil : mk [] = ⟨#[]⟩ := rfl

set_option maxRecDepth 100000 in
set_option maxHeartbeats 1000000 in
theorem octal_in (N D : Nat) (w : World) (hN : N < 9223372036854775808) (h1 : 1 ≤ D) (h11 : D ≤ 11) :
    Calls Tryz.prog 55 #[.int .i64 N, .int .i64 D] w fun e w' => e = .returned (.tuple #[.string (mk (octT N D)), .bool (octR N D)]) ∧ Below w.heap.size w w' := by
  have t1 : ¬ ((N : Int) < 0) := by omega
  have t2 : ¬ ((D : Int) < 1) := by omega
  have t3 : ¬ ((D : Int) > 11) := by omega
  go_enter Tryz.func55, Tryz.ntmps55
  go_wp2
  go_loopw [0, 7] (fun s i wr => ∃ (k y : Nat) (x : Int), k ≤ D ∧ x = (D : Int) - 1 - (k : Int) ∧ i = .int .i64 x ∧ s = .int .i64 y ∧ Hid (y = N / 8 ^ k) ∧ Hid (ElevAt wr w.heap.size (List.replicate (D - k) 0 ++ (octL k N ++ List.replicate (11 - D) 0))) ∧ Below w.heap.size w wr) (fun _ i _ => (intOf i + 1).toNat)
  case atStart =>
    refine ⟨0, N, (D : Int) - 1, by omega, by omega, rfl, rfl, by simp [Hid], ?_, below_alloc _ _⟩
    rw [show List.replicate (D - 0) (0 : UInt8) ++ (octL 0 N ++ List.replicate (11 - D) 0) = List.replicate 11 0 by rw [octL, List.nil_append, List.replicate_append_replicate]; congr 1; omega]
    exact heap_alloc_new w _
  case round =>
    obtain ⟨k, y, x, hk, hx, rfl, rfl, hy, hl, hbl⟩ := hrel
    by_cases hlt : k < D
    · obtain ⟨j, rfl⟩ : ∃ j : Nat, x = j := ⟨D - 1 - k, by omega⟩
      have hj : j + k + 1 = D := by omega
      have HJ := hide hj
      obtain ⟨d, hd⟩ : ∃ d, d = y % 8 := ⟨_, rfl⟩
      obtain ⟨q, hq⟩ : ∃ q, q = y / 8 := ⟨_, rfl⟩
      have hd1 : (y : Int).tmod 8 = (d : Int) := by rw [Int.tmod_eq_emod_of_nonneg (by omega)]; omega
      have hq1 : (y : Int).tdiv 8 = (q : Int) := by rw [Int.tdiv_eq_ediv_of_nonneg (by omega)]; omega
      have hd8 : d < 8 := by omega
      have hdi : (d : Int) < 8 := by omega
      have hd0 : (0 : Int) ≤ (d : Int) := by omega
      have f1 := hl.out.cell (j := j) (x := 0) (by rw [List.getElem?_append_left (by rw [List.length_replicate]; omega), List.getElem?_replicate, if_pos (by omega)])
      have f2 := hl.out.free j
      have hj0 : (0 : Int) ≤ (j : Int) := by omega
      have hj11 : (j : Int) < 11 := by omega
      have hqw : IntKind.i64.wrap (q : Int) = (q : Int) := by
        have : y ≤ N := by rw [hy.out]; exact Nat.div_le_self _ _
        rw [IntKind.wrap_i64]; omega
      have hb8 := byte_oct hd8
      have HD := hide hd
      have HQ := hide hq
      clear hd hq hj hx hlt
      go_wp2
      go_roundw
      case rel =>
        refine ⟨k + 1, q, (j : Int) - 1, by have := HJ.out; omega, by have := HJ.out; omega, rfl, rfl, ?_, ?_, hbl.setCell (Nat.le_refl _) _⟩
        · rw [HQ.out, hy.out, Nat.div_div_eq_div_mul, Nat.pow_succ]
          exact hide rfl
        · have h1 := hl.out.stored j (d8 d)
          rw [show j = D - 1 - k by have := HJ.out; omega] at h1 ⊢
          rw [oct_row (by have := HJ.out; omega) (d8 d) _ (by rw [HD.out, hy.out])] at h1
          exact h1
      case measure => simp [intOf]
    · obtain rfl : k = D := by omega
      have hl2 := hl.out
      rw [Nat.sub_self, List.replicate_zero, List.nil_append] at hl2
      have hs := str_bytes (hl2.arg (n := k) (c := 11) (octL_len k N) h11)
      have hx0 : x < 0 := by omega
      have hkk : (0 : Int) ≤ (k : Int) := by omega
      have hki : (k : Int) ≤ 11 := by omega
      by_cases hy0 : 0 < y
      · have hyi : (y : Int) > 0 := by omega
        have hr : octR N k = false := by
          unfold octR
          rw [decide_eq_false_iff_not]
          rintro ⟨_, _, _, h⟩
          rw [Int.toNat_natCast, Int.toNat_natCast] at h
          have := hy.out
          rw [Nat.div_eq_of_lt h] at this
          omega
        have ht : octT N k = [] := by unfold octT; rw [hr]; rfl
        have HR := hide hr
        have HT := hide ht
        clear hx hr ht
        go_wp2
        go_ret2
        exact ⟨ret_oct _ _ HT.out HR.out, hbl⟩
      · have hyi : ¬ ((y : Int) > 0) := by omega
        have hr : octR N k = true := by
          unfold octR
          rw [decide_eq_true_eq]
          refine ⟨by omega, by omega, by omega, ?_⟩
          rw [Int.toNat_natCast, Int.toNat_natCast]
          have h0 : N / 8 ^ k = 0 := by have := hy.out; omega
          rcases Nat.div_eq_zero_iff.1 h0 with h | h
          · have := Nat.pow_pos (n := k) (show 0 < 8 by decide); omega
          · exact h
        have ht : octT N k = octL k N := by unfold octT; rw [if_pos hr]; rfl
        have HR := hide hr
        have HT := hide ht
        clear hx hr ht
        go_wp2
        go_ret2
        exact ⟨ret_oct _ _ HT.out HR.out, hbl⟩
set_option maxHeartbeats 400000 in
theorem octal_out (n d : Int) (w : World) (h : n < 0 ∨ d < 1 ∨ 11 < d) :
    Calls Tryz.prog 55 #[.int .i64 n, .int .i64 d] w fun e w' => e = .returned (.tuple #[.string (mk []), .bool false]) ∧ Below w.heap.size w w' := by
  by_cases h1 : n < 0
  · go_enter Tryz.func55, Tryz.ntmps55
    go_wp2
    go_ret2
    exact ⟨rfl, Below.refl _ _⟩
  · by_cases h2 : d < 1
    · go_enter Tryz.func55, Tryz.ntmps55
      go_wp2
      go_ret2
      exact ⟨rfl, Below.refl _ _⟩
    · have h3 : d > 11 := by omega
      go_enter Tryz.func55, Tryz.ntmps55
      go_wp2
      go_ret2
      exact ⟨rfl, Below.refl _ _⟩
theorem octal_ok (n d : Int) (x : List UInt8) (b : Bool) (w0 w : World) (h : Ok w0 w) (hn : n < 9223372036854775808) (hx : octT n d = x) (hb : octR n d = b) :
    Calls Tryz.prog 55 #[.int .i64 n, .int .i64 d] w fun e w' => e = .returned (.tuple #[.string (mk x), .bool b]) ∧ Ok w0 w' ∧ Below w.heap.size w w' := by
  subst hx
  subst hb
  by_cases ho : n < 0 ∨ d < 1 ∨ 11 < d
  · obtain ⟨e1, e2⟩ := oct_none ho
    rw [e1, e2]
    refine (octal_out n d w ho).mono ?_
    rintro e w' ⟨rfl, hb⟩
    exact ⟨rfl, h.next hb, hb⟩
  · obtain ⟨N, rfl⟩ : ∃ N : Nat, n = N := ⟨n.toNat, by omega⟩
    obtain ⟨D, rfl⟩ : ∃ D : Nat, d = D := ⟨d.toNat, by omega⟩
    refine (octal_in N D w (by omega) (by omega) (by omega)).mono ?_
    rintro e w' ⟨rfl, hb⟩
    exact ⟨rfl, h.next hb, hb⟩

def octsB : ByteArray := ⟨#[48, 49, 50, 51, 52, 53, 54, 55]⟩
theorem oct_cut : ∀ d : Fin 8, octsB.extract d.1 (d.1 + 1) = mk [d8 d.1] := by decide
set_option maxRecDepth 100000 in
set_option maxHeartbeats 1000000 in
theorem roctal_in (N D : Nat) (w : World) (hN : N < 9223372036854775808) (h1 : 1 ≤ D) (h11 : D ≤ 11) :
    Calls Tryz.prog 49 #[.int .i64 N, .int .i64 D] w fun e w' => e = .returned (.tuple #[.string (mk (octT N D)), .bool (octR N D)]) ∧ Below w.heap.size w w' := by
  have t1 : ¬ ((N : Int) < 0) := by omega
  have t2 : ¬ ((D : Int) < 1) := by omega
  have t3 : ¬ ((D : Int) > 11) := by omega
  go_enter Tryz.func49, Tryz.ntmps49
  go_wp2
  go_loopw [0, 6, 7] (fun s o i wr => ∃ (k y : Nat) (z : ByteArray), k ≤ D ∧ i = .int .i64 k ∧ s = .int .i64 y ∧ o = .string z ∧ Hid (y = N / 8 ^ k) ∧ Hid (z = mk (octL k N)) ∧ z.size ≤ 11 ∧ wr = w) (fun _ _ i _ => D - (intOf i).toNat)
  case atStart => exact ⟨0, N, _, by omega, rfl, rfl, rfl, by simp [Hid], rfl, by decide, rfl⟩
  case round =>
    obtain ⟨k, y, z, hk, rfl, rfl, rfl, hy, hz, hzs, rfl⟩ := hrel
    by_cases hlt : k < D
    · obtain ⟨d, hd⟩ : ∃ d, d = y % 8 := ⟨_, rfl⟩
      obtain ⟨q, hq⟩ : ∃ q, q = y / 8 := ⟨_, rfl⟩
      have hd1 : (y : Int).tmod 8 = (d : Int) := by rw [Int.tmod_eq_emod_of_nonneg (by omega)]; omega
      have hq1 : (y : Int).tdiv 8 = (q : Int) := by rw [Int.tdiv_eq_ediv_of_nonneg (by omega)]; omega
      have hd8 : d < 8 := by omega
      have hdi : (d : Int) < 8 := by omega
      have hd0 : (0 : Int) ≤ (d : Int) := by omega
      have hki : (k : Int) < (D : Int) := by omega
      have hqw : IntKind.i64.wrap (q : Int) = (q : Int) := by
        have : y ≤ N := by rw [hy.out]; exact Nat.div_le_self _ _
        rw [IntKind.wrap_i64]; omega
      have HD := hide hd
      have HQ := hide hq
      have H8 := hide hd8
      clear hd hq hd8
      go_wp2
      go_roundw
      case rel =>
        have e1 : octsB.extract d (d + 1) ++ z = mk (octL (k + 1) N) := by
          have e0 : d8 d :: octL k N = octL (k + 1) N := by rw [octL, HD.out, hy.out]
          rw [oct_cut ⟨d, H8.out⟩, hz.out, mk_join, ← e0]
          rfl
        refine ⟨k + 1, q, _, by omega, by go_num, rfl, rfl, ?_, hide e1, ?_, trivial⟩
        · rw [HQ.out, hy.out, Nat.div_div_eq_div_mul, Nat.pow_succ]
          exact hide rfl
        · have e2 : (octsB.extract d (d + 1) ++ z).size ≤ 11 := by rw [e1, mk_size, octL_len]; omega
          exact e2
      case measure => simp [intOf]; omega
    · obtain rfl : k = D := by omega
      have hkk : ¬ ((k : Int) < (k : Int)) := by omega
      by_cases hy0 : 0 < y
      · have hyi : (y : Int) > 0 := by omega
        obtain ⟨hr, ht⟩ := oct_over (N := N) (k := k) (by rw [← hy.out]; exact hy0)
        have HR := hide hr
        have HT := hide ht
        clear hr ht
        go_wp2
        go_ret2
        exact ⟨ret_oct _ _ HT.out HR.out, Below.refl _ _⟩
      · have hyi : ¬ ((y : Int) > 0) := by omega
        obtain ⟨hr, ht⟩ := oct_fits (N := N) (k := k) h1 h11 (by rw [← hy.out]; omega)
        have HR := hide hr
        have HT := hide ht
        clear hr ht
        go_wp2
        go_ret2
        rw [hz.out]
        exact ⟨ret_oct _ _ HT.out HR.out, Below.refl _ _⟩
set_option maxHeartbeats 400000 in
theorem roctal_out (n d : Int) (w : World) (h : n < 0 ∨ d < 1 ∨ 11 < d) :
    Calls Tryz.prog 49 #[.int .i64 n, .int .i64 d] w fun e w' => e = .returned (.tuple #[.string (mk []), .bool false]) ∧ Below w.heap.size w w' := by
  by_cases h1 : n < 0
  · go_enter Tryz.func49, Tryz.ntmps49
    go_wp2
    go_ret2
    exact ⟨rfl, Below.refl _ _⟩
  · by_cases h2 : d < 1
    · go_enter Tryz.func49, Tryz.ntmps49
      go_wp2
      go_ret2
      exact ⟨rfl, Below.refl _ _⟩
    · have h3 : d > 11 := by omega
      go_enter Tryz.func49, Tryz.ntmps49
      go_wp2
      go_ret2
      exact ⟨rfl, Below.refl _ _⟩
theorem roctal_ok (n d : Int) (x : List UInt8) (b : Bool) (w0 w : World) (h : Ok w0 w) (hn : n < 9223372036854775808) (hx : octT n d = x) (hb : octR n d = b) :
    Calls Tryz.prog 49 #[.int .i64 n, .int .i64 d] w fun e w' => e = .returned (.tuple #[.string (mk x), .bool b]) ∧ Ok w0 w' ∧ Below w.heap.size w w' := by
  subst hx
  subst hb
  by_cases ho : n < 0 ∨ d < 1 ∨ 11 < d
  · obtain ⟨e1, e2⟩ := oct_none ho
    rw [e1, e2]
    refine (roctal_out n d w ho).mono ?_
    rintro e w' ⟨rfl, hb⟩
    exact ⟨rfl, h.next hb, hb⟩
  · obtain ⟨N, rfl⟩ : ∃ N : Nat, n = N := ⟨n.toNat, by omega⟩
    obtain ⟨D, rfl⟩ : ∃ D : Nat, d = D := ⟨d.toNat, by omega⟩
    refine (roctal_in N D w (by omega) (by omega) (by omega)).mono ?_
    rintro e w' ⟨rfl, hb⟩
    exact ⟨rfl, h.next hb, hb⟩
end Go.Proofs.YtecjkkipglldlaaGreatDoor
/- The walks of package head and of the document's own answer, chapter 12: OfOctal. -/
namespace Go.Proofs.YtecjkkipglldlaaGreatDoor
open Go.RowKit Hog

theorem ret_of (l : List UInt8) {n : Nat} {b : Bool} (hn : ofT l = n) (hb : ofR l = b) : Ending.returned (.tuple #[.int .i64 n, .bool b]) = .returned (.tuple #[.int .i64 (ofT l), .bool (ofR l)]) := by rw [hn, hb]
theorem of_out {l : List UInt8} (h : l.length < 1 ∨ 11 < l.length) : ofR l = false ∧ ofT l = 0 := by
  have e : ofR l = false := by
    unfold ofR
    rw [decide_eq_false (by omega)]; rfl
  exact ⟨e, by unfold ofT; rw [e]; rfl⟩
theorem of_bad {l : List UInt8} {k : Nat} {x : UInt8} (hx : l[k]? = some x) (h : dig x = false) : ofR l = false ∧ ofT l = 0 := by
  have e : ofR l = false := by
    unfold ofR
    rw [Bool.and_eq_false_iff]
    refine .inr ?_
    rw [List.all_eq_false]
    exact ⟨x, List.mem_of_getElem? hx, by rw [h]; simp⟩
  exact ⟨e, by unfold ofT; rw [e]; rfl⟩
theorem of_good {l : List UInt8} (h1 : 1 ≤ l.length) (h11 : l.length ≤ 11) (h : l.all dig = true) : ofR l = true ∧ ofT l = numO l := by
  have e : ofR l = true := by
    unfold ofR
    rw [h, Bool.and_true, decide_eq_true_eq]; exact ⟨h1, h11⟩
  exact ⟨e, by unfold ofT; rw [if_pos e]⟩
theorem str_at {s : ByteArray} {k : Nat} (h : k < s.size) : s.data.toList[k]? = some s[k] := by
  rw [List.getElem?_eq_getElem (by rw [← Hog.size_len]; exact h)]
  simp [ByteArray.getElem_eq_getElem_data]
theorem byte_num {x : UInt8} (h : dig x = true) : IntKind.u8.wrap ((x.toNat : Int) - 48) = ((x.toNat - 48 : Nat) : Int) := by
  have := dig_range h
  rw [IntKind.wrap_u8]; omega
theorem dig_under {x : UInt8} (h : x.toNat < 48) : dig x = false := by unfold dig; rw [decide_eq_false (by omega)]; rfl
theorem dig_over {x : UInt8} (h : 56 ≤ x.toNat) : dig x = false := by unfold dig; rw [decide_eq_false (show ¬ x.toNat < 56 by omega), Bool.and_false]

set_option maxRecDepth 100000 in
set_option maxHeartbeats 1000000 in
theorem ofoctal_in (s : ByteArray) (w : World) (h1 : 1 ≤ s.size) (h11 : s.size ≤ 11) :
    Calls Tryz.prog 79 #[.string s] w fun e w' => e = .returned (.tuple #[.int .i64 (ofT s.data.toList), .bool (ofR s.data.toList)]) ∧ w' = w := by
  have t1 : (s.toList == []) = false := by
    rw [beq_eq_false_iff_ne, Lib.toList_data]
    intro e
    have := congrArg List.length e
    rw [← Hog.size_len, List.length_nil] at this
    omega
  have t2 : ¬ ((s.size : Int) > 11) := by omega
  go_enter Tryz.func79, Tryz.ntmps79
  go_wp2
  go_loopw [4, 5, 6] (fun n p i wr => ∃ (k a b : Nat) (x : Int), k ≤ s.size ∧ x = (s.size : Int) - 1 - (k : Int) ∧ i = .int .i64 x ∧ n = .int .i64 a ∧ p = .int .i64 b ∧ Hid ((s.data.toList.drop (s.size - k)).all dig = true) ∧ Hid (a = numO (s.data.toList.drop (s.size - k))) ∧ Hid (b = 8 ^ k) ∧ b ≤ 8589934592 ∧ a < 8589934592 ∧ wr = w) (fun _ _ i _ => (intOf i + 1).toNat)
  case atStart =>
    refine ⟨0, 0, 1, (s.size : Int) - 1, by omega, by omega, rfl, rfl, rfl, ?_, ?_, rfl, by omega, by omega, rfl⟩
    · rw [Nat.sub_zero, List.drop_of_length_le (by rw [← Hog.size_len]; omega)]; rfl
    · rw [Nat.sub_zero, List.drop_of_length_le (by rw [← Hog.size_len]; omega)]; rfl
  case round =>
    obtain ⟨k, a, b, x, hk, hx, rfl, rfl, rfl, hall, ha, hb, hb8, ha8, rfl⟩ := hrel
    by_cases hlt : k < s.size
    · obtain ⟨j, rfl⟩ : ∃ j : Nat, x = j := ⟨s.size - 1 - k, by omega⟩
      have hj : j < s.size := by omega
      have hjk : j + k + 1 = s.size := by omega
      have HX := hide (str_at hj)
      have HJ := hide hjk
      have hj0 : (0 : Int) ≤ (j : Int) := by omega
      have hji : (j : Int) < (s.size : Int) := by omega
      clear hx hlt hjk
      by_cases h48 : s[j].toNat < 48
      · have c1 : ((s[j].toNat : Int) < 48) := by omega
        obtain ⟨e1, e2⟩ := of_bad HX.out (dig_under h48)
        have HR := hide e1
        have HT := hide e2
        clear e1 e2 h48
        go_wp2
        go_ret2
        exact ⟨ret_of _ HT.out HR.out, rfl⟩
      · by_cases h56 : 56 ≤ s[j].toNat
        · have c1 : ¬ ((s[j].toNat : Int) < 48) := by omega
          have c2 : (s[j].toNat : Int) ≥ 56 := by omega
          obtain ⟨e1, e2⟩ := of_bad HX.out (dig_over h56)
          have HR := hide e1
          have HT := hide e2
          clear e1 e2 h48 h56
          go_wp2
          go_ret2
          exact ⟨ret_of _ HT.out HR.out, rfl⟩
        · have hd : dig s[j] = true := by unfold dig; rw [decide_eq_true (show 48 ≤ s[j].toNat by omega), decide_eq_true (show s[j].toNat < 56 by omega)]; rfl
          have c1 : ¬ ((s[j].toNat : Int) < 48) := by omega
          have c2 : ¬ ((s[j].toNat : Int) ≥ 56) := by omega
          have HD := hide hd
          have hu := byte_num hd
          obtain ⟨d, hde⟩ : ∃ d, s[j].toNat - 48 = d := ⟨_, rfl⟩
          rw [hde] at hu
          have hd8 : d < 8 := by omega
          have hd0 : (0 : Int) ≤ (d : Int) := by omega
          have hdi : (d : Int) < 8 := by omega
          obtain ⟨m, hm⟩ : ∃ m, d * b = m := ⟨_, rfl⟩
          have hmb : m ≤ 60129542144 := by
            rw [← hm]
            exact Nat.le_trans (Nat.mul_le_mul (show d ≤ 7 by omega) hb8) (by decide)
          have hmi : IntKind.i64.wrap ((d : Int) * (b : Int)) = (m : Int) := by
            rw [← hm, IntKind.wrap_i64]
            have : ((d * b : Nat) : Int) ≤ 60129542144 := by rw [hm]; omega
            rw [Int.natCast_mul] at this ⊢
            have : (0 : Int) ≤ (d : Int) * (b : Int) := Int.mul_nonneg (by omega) (by omega)
            omega
          have hmz : (m : Int) ≤ 60129542144 := by omega
          have hai : (a : Int) < 8589934592 := by omega
          have hbi : (b : Int) ≤ 8589934592 := by omega
          have HDE := hide hde
          have HM := hide hm
          clear hd h48 h56 hde hm hmb
          go_wp2
          go_roundw
          case rel =>
            have hlen := Hog.size_len s
            have hjk := HJ.out
            have e1 : s.size - (k + 1) = j := by omega
            have e2 : s.size - k = j + 1 := by omega
            have hall2 : (s.data.toList.drop j).all dig = true := by
              obtain ⟨h1, h2⟩ := List.getElem?_eq_some_iff.1 HX.out
              rw [List.drop_eq_getElem_cons h1, List.all_cons, h2, HD.out, Bool.true_and, ← e2]
              exact hall.out
            have hnum : a + m = numO (s.data.toList.drop j) := by
              rw [numO_back HX.out, HDE.out, ha.out, e2, ← HM.out, hb.out, show s.data.toList.length - (j + 1) = k by omega]
              omega
            have hpow : b * 8 = 8 ^ (k + 1) := by rw [hb.out, Nat.pow_succ]
            have h8 : 8 ^ (k + 1) ≤ 8 ^ 11 := Nat.pow_le_pow_right (by decide) (by omega)
            have h811 : 8 ^ 11 = 8589934592 := by decide
            have hlt2 : a + m < 8589934592 := by
              have h3 := numO_lt _ hall2
              rw [← hnum, List.length_drop, show s.data.toList.length - j = k + 1 by omega] at h3
              omega
            refine ⟨k + 1, a + m, b * 8, (j : Int) - 1, by omega, by omega, rfl, by go_num, by go_num, ?_, ?_, hide hpow, by omega, hlt2, trivial⟩
            · rw [e1]; exact hide hall2
            · rw [e1]; exact hide hnum
          case measure => simp [intOf]
    · obtain rfl : k = s.size := by omega
      have hall2 := hall.out
      have ha2 := ha.out
      rw [Nat.sub_self, List.drop_zero] at hall2 ha2
      obtain ⟨e1, e2⟩ := of_good (by rw [← Hog.size_len]; exact h1) (by rw [← Hog.size_len]; exact h11) hall2
      have HR := hide e1
      have HT := hide (e2.trans ha2.symm)
      have hx0 : x < 0 := by omega
      clear hx hall2 ha2 e1 e2
      go_wp2
      go_ret2
      exact ⟨ret_of _ HT.out HR.out, rfl⟩
set_option maxHeartbeats 400000 in
theorem ofoctal_out (s : ByteArray) (w : World) (h : s.size < 1 ∨ 11 < s.size) :
    Calls Tryz.prog 79 #[.string s] w fun e w' => e = .returned (.tuple #[.int .i64 (0 : Nat), .bool false]) ∧ w' = w := by
  rcases h with h | h
  · have t1 : (s.toList == []) = true := by
      rw [beq_iff_eq, Lib.toList_data]
      exact List.eq_nil_of_length_eq_zero (by rw [← Hog.size_len]; omega)
    go_enter Tryz.func79, Tryz.ntmps79
    go_wp2
    go_ret2
    exact ⟨rfl, rfl⟩
  · have t1 : (s.toList == []) = false := by
      rw [beq_eq_false_iff_ne, Lib.toList_data]
      intro e
      have := congrArg List.length e
      rw [← Hog.size_len, List.length_nil] at this
      omega
    have t2 : (s.size : Int) > 11 := by omega
    go_enter Tryz.func79, Tryz.ntmps79
    go_wp2
    go_ret2
    exact ⟨rfl, rfl⟩
theorem ofoctal_ok (s : ByteArray) (l : List UInt8) (n : Nat) (b : Bool) (w : World) (hl : s.data.toList = l) (hn : ofT l = n) (hb : ofR l = b) :
    Calls Tryz.prog 79 #[.string s] w fun e w' => e = .returned (.tuple #[.int .i64 n, .bool b]) ∧ w' = w := by
  subst hl
  subst hn
  subst hb
  by_cases ho : s.size < 1 ∨ 11 < s.size
  · obtain ⟨e1, e2⟩ := of_out (l := s.data.toList) (by rw [← Hog.size_len]; exact ho)
    rw [e1, e2]
    exact ofoctal_out s w ho
  · exact ofoctal_in s w (by omega) (by omega)

set_option maxRecDepth 100000 in
set_option maxHeartbeats 1000000 in
theorem rofoctal_in (s : ByteArray) (w : World) (h1 : 1 ≤ s.size) (h11 : s.size ≤ 11) :
    Calls Tryz.prog 32 #[.string s] w fun e w' => e = .returned (.tuple #[.int .i64 (ofT s.data.toList), .bool (ofR s.data.toList)]) ∧ w' = w := by
  have t1 : ¬ ((s.size : Int) < 1) := by omega
  have t2 : ¬ ((s.size : Int) > 11) := by omega
  have t3 : (s.size : Int) ≤ 11 := by omega
  go_enter Tryz.func32, Tryz.ntmps32
  go_wp2
  go_loopw [4, 5] (fun n i wr => ∃ (k a : Nat), k ≤ s.size ∧ i = .int .i64 k ∧ n = .int .i64 a ∧ Hid ((s.data.toList.take k).all dig = true) ∧ Hid (a = numO (s.data.toList.take k)) ∧ a < 8589934592 ∧ wr = w) (fun _ i _ => s.size - (intOf i).toNat)
  case atStart => exact ⟨0, 0, by omega, rfl, rfl, by rw [List.take_zero]; rfl, by rw [List.take_zero]; rfl, by omega, rfl⟩
  case round =>
    obtain ⟨k, a, hk, rfl, rfl, hall, ha, ha8, rfl⟩ := hrel
    by_cases hlt : k < s.size
    · have HX := hide (str_at hlt)
      have hk0 : (0 : Int) ≤ (k : Int) := by omega
      have hki : (k : Int) < (s.size : Int) := by omega
      by_cases h48 : s[k].toNat < 48
      · have c1 : ((s[k].toNat : Int) < 48) := by omega
        obtain ⟨e1, e2⟩ := of_bad HX.out (dig_under h48)
        have HR := hide e1
        have HT := hide e2
        clear e1 e2 h48
        go_wp2
        go_ret2
        exact ⟨ret_of _ HT.out HR.out, rfl⟩
      · by_cases h56 : 56 ≤ s[k].toNat
        · have c1 : ¬ ((s[k].toNat : Int) < 48) := by omega
          have c2 : (s[k].toNat : Int) > 55 := by omega
          obtain ⟨e1, e2⟩ := of_bad HX.out (dig_over h56)
          have HR := hide e1
          have HT := hide e2
          clear e1 e2 h48 h56
          go_wp2
          go_ret2
          exact ⟨ret_of _ HT.out HR.out, rfl⟩
        · have hd : dig s[k] = true := by unfold dig; rw [decide_eq_true (show 48 ≤ s[k].toNat by omega), decide_eq_true (show s[k].toNat < 56 by omega)]; rfl
          have c1 : ¬ ((s[k].toNat : Int) < 48) := by omega
          have c2 : ¬ ((s[k].toNat : Int) > 55) := by omega
          have HD := hide hd
          have hu := byte_num hd
          obtain ⟨d, hde⟩ : ∃ d, s[k].toNat - 48 = d := ⟨_, rfl⟩
          rw [hde] at hu
          have hd8 : d < 8 := by omega
          have hd0 : (0 : Int) ≤ (d : Int) := by omega
          have hdi : (d : Int) < 8 := by omega
          have hai : (a : Int) < 8589934592 := by omega
          have HDE := hide hde
          have HLT := hide hlt
          clear hd h48 h56 hde
          go_wp2
          go_roundw
          case rel =>
            have hlen := Hog.size_len s
            have hlt := HLT.out
            have hall2 : (s.data.toList.take (k + 1)).all dig = true := by
              obtain ⟨h1, h2⟩ := List.getElem?_eq_some_iff.1 HX.out
              rw [List.take_succ_eq_append_getElem h1, List.all_append, hall.out, h2, List.all_cons, HD.out]; rfl
            have hnum : a * 8 + d = numO (s.data.toList.take (k + 1)) := by rw [numO_step HX.out, HDE.out, ha.out]
            have h8 : 8 ^ (k + 1) ≤ 8 ^ 11 := Nat.pow_le_pow_right (by decide) (by omega)
            have h811 : 8 ^ 11 = 8589934592 := by decide
            have hlt2 : a * 8 + d < 8589934592 := by
              have h3 := numO_lt _ hall2
              rw [← hnum, List.length_take, Nat.min_eq_left (by omega)] at h3
              omega
            exact ⟨k + 1, a * 8 + d, by omega, by go_num, by go_num, hide hall2, hide hnum, hlt2, trivial⟩
          case measure => have := HLT.out; simp [intOf]; omega
    · obtain rfl : k = s.size := by omega
      have hall2 := hall.out
      have ha2 := ha.out
      rw [Hog.size_len, List.take_length] at hall2 ha2
      obtain ⟨e1, e2⟩ := of_good (by rw [← Hog.size_len]; exact h1) (by rw [← Hog.size_len]; exact h11) hall2
      have HR := hide e1
      have HT := hide (e2.trans ha2.symm)
      clear hall2 ha2 e1 e2
      go_wp2
      go_ret2
      exact ⟨ret_of _ HT.out HR.out, rfl⟩
set_option maxRecDepth 100000 in
set_option maxHeartbeats 400000 in
theorem rofoctal_out (s : ByteArray) (w : World) (h : s.size < 1 ∨ 11 < s.size) :
    Calls Tryz.prog 32 #[.string s] w fun e w' => e = .returned (.tuple #[.int .i64 (0 : Nat), .bool false]) ∧ w' = w := by
  rcases h with h | h
  · have t1 : (s.size : Int) < 1 := by omega
    go_enter Tryz.func32, Tryz.ntmps32
    go_wp2
    go_loopw [5] (fun i wr => i = .int .i64 (0 : Nat) ∧ wr = w) (fun _ _ => 0)
    case atStart => exact ⟨rfl, rfl⟩
    case round =>
      obtain ⟨rfl, rfl⟩ := hrel
      have c1 : ¬ ((0 : Int) < (s.size : Int)) := by omega
      go_wp2
      go_ret2
      exact ⟨rfl, rfl⟩
  · have t1 : ¬ ((s.size : Int) < 1) := by omega
    have t2 : (s.size : Int) > 11 := by omega
    have t3 : ¬ ((s.size : Int) ≤ 11) := by omega
    go_enter Tryz.func32, Tryz.ntmps32
    go_wp2
    go_loopw [5] (fun i wr => i = .int .i64 (0 : Nat) ∧ wr = w) (fun _ _ => 0)
    case atStart => exact ⟨rfl, rfl⟩
    case round =>
      obtain ⟨rfl, rfl⟩ := hrel
      have c1 : (0 : Int) < (s.size : Int) := by omega
      go_wp2
      go_ret2
      exact ⟨rfl, rfl⟩
theorem rofoctal_ok (s : ByteArray) (l : List UInt8) (n : Nat) (b : Bool) (w : World) (hl : s.data.toList = l) (hn : ofT l = n) (hb : ofR l = b) :
    Calls Tryz.prog 32 #[.string s] w fun e w' => e = .returned (.tuple #[.int .i64 n, .bool b]) ∧ w' = w := by
  subst hl
  subst hn
  subst hb
  by_cases ho : s.size < 1 ∨ 11 < s.size
  · obtain ⟨e1, e2⟩ := of_out (l := s.data.toList) (by rw [← Hog.size_len]; exact ho)
    rw [e1, e2]
    exact rofoctal_out s w ho
  · exact rofoctal_in s w (by omega) (by omega)
end Go.Proofs.YtecjkkipglldlaaGreatDoor
/- A row of bytes that is laid over, piece by piece; which texts have room; what kinds look like. -/
namespace Go.Proofs.YtecjkkipglldlaaGreatDoor
open Go.RowKit Hog

/-- In block g lie just these bytes, as a slice's row. -/
def RowH (w : World) (g : Nat) (l : List UInt8) : Prop := w.heap[g]? = some (.cells (bcells l).toArray 5 (0, 0))
theorem RowH.cell {w : World} {g : Nat} {l : List UInt8} (h : RowH w g l) {j : Nat} {x : UInt8} (hx : l[j]? = some x) : w.cell? ⟨g, j, none⟩ = some (.int .u8 x.toNat) := by
  rw [cell_of_row w g j _ 5 (0, 0) h]
  simpa using bcells_get hx
theorem RowH.free {w : World} {g : Nat} {l : List UInt8} (h : RowH w g l) (j : Nat) : w.frozen? ⟨g, j, none⟩ = false := frozen_of_row w g j _ 5 h
theorem RowH.lt {w : World} {g : Nat} {l : List UInt8} (h : RowH w g l) : g < w.heap.size := (Array.getElem?_eq_some_iff.1 h).1
theorem RowH.stored {w : World} {g : Nat} {l : List UInt8} (h : RowH w g l) (k : Nat) (y : UInt8) : RowH (w.setCell ⟨g, k, none⟩ (.int .u8 y.toNat)) g (l.set k y) := by
  unfold RowH
  rw [heap_setCell_same w g k _ 5 _ h]
  unfold bcells
  rw [List.map_set]
  simp
theorem RowH.below {w w' : World} {g B : Nat} {l : List UInt8} (h : RowH w g l) (hb : Below B w w') (hB : g < B) : RowH w' g l := by
  unfold RowH
  rw [hb.block g hB]
  exact h
theorem RowH.arg {w : World} {g n c : Nat} {l : List UInt8} (h : RowH w g l) (hn : l.length = n) (hc : n ≤ c) : ArgB w (some ⟨g, 0, none⟩) n c l := by
  subst hn
  refine ⟨rfl, by simp, hc, fun ad e j u hu => ?_⟩
  cases e
  rw [addB_plain, Nat.zero_add, cell_of_row w g j _ 5 (0, 0) h]
  simpa using hu
theorem RowH.own {w : World} {g n base : Nat} {l : List UInt8} (h : RowH w g l) (hn : l.length = n) (hb : base ≤ g) (hm : n ≤ maxLen) : OwnB base w (.slice (some ⟨g, 0, none⟩) n n) l := by
  subst hn
  exact ⟨by simp [bcells], .inr ⟨g, l.length, _, rfl, hb, h, Nat.le_refl _, hm, by simp [bcells], by rw [Nat.mul_one, ← bcells_len]; simp [List.take_of_length_le]⟩⟩
theorem bcells_splice (l s : List UInt8) (k : Nat) : (bcells l).take k ++ bcells s ++ (bcells l).drop (k + s.length) = bcells (splice l k s) := by
  unfold bcells splice
  simp [List.map_take, List.map_drop]

/-- A text laid over a row's bytes, as a law for the walk. -/
theorem wpList_copy_str {w : World} {ops : Array Oper} {rest : List Oper} {o : Oper} {a : Act} {Q : Exit → Act → World → Prop} (hgd : o.guard = none) (d s : Operand)
    (ho : o.op = .call { callee := .builtin .copy, args := #[d, s], argTypes := #[22, 9] })
    (g k m c : Nat) (hd : a.eval d = .slice (some ⟨g, k, none⟩) m c) (t : ByteArray) (hs : a.eval s = .string t) (l xs l' : List UInt8) (hg : RowH w g l) (hx : t.data.toList = xs) (hl : splice l k xs = l')
    (hle : xs.length ≤ m) (hfit : k + xs.length ≤ l.length) (B : Nat) (w0 : World) (hb : Below B w0 w) (hB : B ≤ g)
    (h : ∀ w', Hid (RowH w' g l') → Hid (Below B w0 w') → wpList Tryz.prog ops Q rest (a.put o.dst (goInt t.size)) w') : wpList Tryz.prog ops Q (o :: rest) a w := by
  obtain ⟨i0, hi, hz0, hz1, hz2⟩ := info_parts A5
  subst hx
  subst hl
  rw [← Hog.size_len] at hle hfit
  refine wpList_plain hgd fun K hK => ?_
  have hrun := Lib.run_copy_row_string (P := Tryz.prog) w 22 9 o.type 5 g k m c t _ 5 Tryz.underlying22 (by rw [hi]; simp [hz1]) hg hle (by simpa [bcells] using hfit)
  unfold Oper.wp
  simp only [execOp, ho, resolve, invoke, builtin, Sem.run_bind, Sem.run_pure, Result.andThen_ok, List.map_toArray, List.map_cons, List.map_nil, hd, hs, hrun]
  refine hK _ _ (h _ ?_ (below_setRow hb hB _))
  refine hide ?_
  unfold RowH
  rw [setRow_heap w g _ _ 5 (0, 0) hg]
  have e := bcells_splice l t.data.toList k
  rw [← Hog.size_len] at e
  rw [← e]
  rfl

theorem idxb_any (s : ByteArray) (c : Int) (w : World) :
    Calls Tryz.prog 70 #[.string s, .int .u8 c] w fun e w' => e = .returned (.int .i64 (Lib.indexByte s.data.toList c.toNat.toUInt8)) ∧ w' = w := Tryz.strings_IndexByte s c w
theorem idx_zero (l : List UInt8) : decide (Lib.indexByte l 0 < 0) = decide ((0 : UInt8) ∉ l) := by
  have h1 := Lib.indexByte_ge l 0
  by_cases h : Lib.indexByte l 0 < 0
  · have e : Lib.indexByte l 0 = -1 := by omega
    rw [decide_eq_true h, eq_comm, decide_eq_true_eq]
    intro hm
    obtain ⟨k, hk⟩ := List.getElem?_of_mem hm
    exact Lib.indexByte_none e k hk
  · obtain ⟨k, hk⟩ : ∃ k : Nat, Lib.indexByte l 0 = k := ⟨_, (Int.toNat_of_nonneg (by omega)).symm⟩
    rw [decide_eq_false h, eq_comm, decide_eq_false_iff_not]
    exact fun hm => hm (List.mem_of_getElem? (Lib.indexByte_some hk).1)
set_option maxHeartbeats 400000 in
theorem mayfill_ok (s : ByteArray) (l : List UInt8) (r : Bool) (w : World) (hl : s.data.toList = l) (hr : fillB l = r) :
    Calls Tryz.prog 56 #[.string s] w fun e w' => e = .returned (.bool r) ∧ w' = w := by
  subst hl
  subst hr
  by_cases h : s.size ≤ 100
  · have h1 : (s.size : Int) ≤ 100 := by omega
    obtain ⟨i, hi⟩ : ∃ i, i = Lib.indexByte s.data.toList 0 := ⟨_, rfl⟩
    have HI := hide hi
    have HS := hide h
    go_enter Tryz.func56, Tryz.ntmps56
    go_wp2_with fail
    refine (idxb_any s 0 w).mono ?_
    rintro e w1 ⟨rfl, rfl⟩
    rw [show ((0 : Int).toNat.toUInt8) = 0 by rfl, ← hi]
    clear hi h
    go_wp2_with fail
    go_ret
    refine ⟨ret_bool ?_, rfl⟩
    unfold fillB
    rw [← Hog.size_len, decide_eq_true HS.out, Bool.true_and, ← idx_zero, ← HI.out]
  · have h1 : ¬ ((s.size : Int) ≤ 100) := by omega
    have hf : fillB s.data.toList = false := by
      unfold fillB
      rw [← Hog.size_len, decide_eq_false h]; rfl
    have HF := hide hf
    clear hf
    go_enter Tryz.func56, Tryz.ntmps56
    go_wp2_with fail
    go_ret
    exact ⟨ret_bool HF.out.symm, rfl⟩
end Go.Proofs.YtecjkkipglldlaaGreatDoor
/- The walks of head's look, mayBe, kindOf, sumOf, and of the document's zero, mode, letter. -/
namespace Go.Proofs.YtecjkkipglldlaaGreatDoor
open Go.RowKit Hog

theorem five {k : Int} (h1 : 1 ≤ k) (h5 : k ≤ 5) : k = 1 ∨ k = 2 ∨ k = 3 ∨ k = 4 ∨ k = 5 := by omega
set_option maxHeartbeats 400000 in
theorem look_ok (k : Int) (md : List UInt8) (sg : UInt8) (w : World) (h1 : 1 ≤ k) (h5 : k ≤ 5) (hm : pad 8 (modeK k) = md) (hs : signK k = sg) :
    Calls Tryz.prog 58 #[.int .i64 k] w fun e w' => e = .returned (.tuple #[.string (mk md), .int .u8 sg.toNat]) ∧ w' = w := by
  subst hm
  subst hs
  rcases five h1 h5 with rfl | rfl | rfl | rfl | rfl
  all_goals
    go_enter Tryz.func58, Tryz.ntmps58
    go_wp2
    go_ret2
    exact ⟨rfl, rfl⟩
theorem nil_yes {s : ByteArray} {l : List UInt8} (hl : s.data.toList = l) (h : l = []) : (s.toList == []) = true := by
  rw [beq_iff_eq, Lib.toList_data, hl, h]
theorem nil_no {s : ByteArray} {l : List UInt8} (hl : s.data.toList = l) (h : l ≠ []) : (s.toList == []) = false := by
  rw [beq_eq_false_iff_ne, Lib.toList_data, hl]; exact h
set_option maxHeartbeats 1000000 in
theorem maybe_ok (k sz : Int) (s : ByteArray) (l : List UInt8) (r : Bool) (w : World) (hl : s.data.toList = l) (hr : mayK k sz l = r) :
    Calls Tryz.prog 57 #[.int .i64 k, .int .i64 sz, .string s] w fun e w' => e = .returned (.bool r) ∧ w' = w := by
  subst hr
  have HK : ∀ b : Bool, (b = true ↔ ((k = 1 ∧ sz = 0 ∧ l = []) ∨ (k = 4 ∧ sz = 0 ∧ l ≠ []) ∨ ((k = 2 ∨ k = 3 ∨ k = 5) ∧ l = []))) → mayK k sz l = b := by
    intro b hb
    unfold mayK
    cases b
    · rw [decide_eq_false_iff_not]
      exact fun h => by simpa using hb.2 h
    · rw [decide_eq_true_eq]
      exact hb.1 rfl
  by_cases hk : 1 ≤ k ∧ k ≤ 5
  · have HN : Hid (l = []) ∧ (s.toList == []) = true ∨ Hid (l ≠ []) ∧ (s.toList == []) = false := by
      by_cases e : l = []
      · exact .inl ⟨hide e, nil_yes hl e⟩
      · exact .inr ⟨hide e, nil_no hl e⟩
    have HZ : sz = 0 ∨ Hid (sz ≠ 0) ∧ (sz == 0) = false := by
      by_cases e : sz = 0
      · exact .inl e
      · exact .inr ⟨hide e, by rw [beq_eq_false_iff_ne]; exact e⟩
    rcases HZ with rfl | ⟨HZ, z1⟩
    all_goals
      rcases HN with ⟨HN, n1⟩ | ⟨HN, n1⟩
      all_goals
        rcases five hk.1 hk.2 with rfl | rfl | rfl | rfl | rfl
        all_goals
          have HH := hide HK
          clear HK
          go_enter Tryz.func57, Tryz.ntmps57
          go_wp2
          go_ret
          refine ⟨ret_bool (HH.out _ ?_).symm, rfl⟩
          first
            | (simp [HN.out]; done)
            | (simp [HN.out, HZ.out]; done)
  · have c1 : (k == 1) = false := by rw [beq_eq_false_iff_ne]; omega
    have c2 : (k == 2) = false := by rw [beq_eq_false_iff_ne]; omega
    have c3 : (k == 3) = false := by rw [beq_eq_false_iff_ne]; omega
    have c4 : (k == 4) = false := by rw [beq_eq_false_iff_ne]; omega
    have c5 : (k == 5) = false := by rw [beq_eq_false_iff_ne]; omega
    have HR := hide (HK false ⟨fun h => (by cases h), fun h => (by omega)⟩)
    clear hk HK
    go_enter Tryz.func57, Tryz.ntmps57
    go_wp2
    go_ret
    exact ⟨ret_bool HR.out.symm, rfl⟩
set_option maxHeartbeats 400000 in
theorem rletter_ok (k : Int) (sg : UInt8) (w : World) (h1 : 1 ≤ k) (h5 : k ≤ 5) (hs : signK k = sg) :
    Calls Tryz.prog 51 #[.int .i64 k] w fun e w' => e = .returned (.int .u8 sg.toNat) ∧ w' = w := by
  subst hs
  rcases five h1 h5 with rfl | rfl | rfl | rfl | rfl
  all_goals
    go_enter Tryz.func51, Tryz.ntmps51
    go_wp2
    go_ret
    exact ⟨rfl, rfl⟩
set_option maxHeartbeats 400000 in
theorem rmode_any (k : Int) (md : List UInt8) (w : World) (h1 : 1 ≤ k) (h5 : k ≤ 5) (hm : modeK k = md) :
    Calls Tryz.prog 50 #[.int .i64 k] w fun e w' => e = .returned (.string (mk md)) ∧ Below w.heap.size w w' := by
  subst hm
  rcases five h1 h5 with rfl | rfl | rfl | rfl | rfl
  all_goals
    go_enter Tryz.func50, Tryz.ntmps50
    go_wp2
    go_ret
    exact ⟨rfl, below_alloc _ _⟩
set_option maxHeartbeats 400000 in
theorem rzero_ok (s : ByteArray) (l : List UInt8) (r : Bool) (w : World) (hl : s.data.toList = l) (hr : decide ((0 : UInt8) ∈ l) = r) (hs : s.size < 1000000000) :
    Calls Tryz.prog 48 #[.string s] w fun e w' => e = .returned (.bool r) ∧ w' = w := by
  subst hl
  have HR := hide hr
  clear hr
  go_enter Tryz.func48, Tryz.ntmps48
  go_wp2
  go_loopw [3] (fun i wr => ∃ k : Nat, k ≤ s.size ∧ i = .int .i64 k ∧ Hid ((0 : UInt8) ∉ s.data.toList.take k) ∧ wr = w) (fun i _ => s.size - (intOf i).toNat)
  case atStart => exact ⟨0, Nat.zero_le _, rfl, by simp [Hid], rfl⟩
  case round =>
    obtain ⟨k, hk, rfl, hno, rfl⟩ := hrel
    by_cases hlt : k < s.size
    · have HX := hide (str_at hlt)
      have hki : (k : Int) < (s.size : Int) := by omega
      have hk0 : (0 : Int) ≤ (k : Int) := by omega
      by_cases h0 : s[k] = 0
      · have c1 : ((s[k].toNat : Int) == 0) = true := by rw [h0]; rfl
        have hm : decide ((0 : UInt8) ∈ s.data.toList) = true := by
          rw [decide_eq_true_eq]
          have := HX.out
          rw [h0] at this
          exact List.mem_of_getElem? this
        have HM := hide hm
        clear hm h0
        go_wp2
        go_ret
        exact ⟨ret_bool (HM.out.symm.trans HR.out), rfl⟩
      · have c1 : ((s[k].toNat : Int) == 0) = false := by
          rw [beq_eq_false_iff_ne]
          intro e
          apply h0
          apply UInt8.toNat_inj.1
          rw [show (0 : UInt8).toNat = 0 by rfl]
          omega
        have HN := hide h0
        clear h0
        go_wp2
        go_roundw
        case rel =>
          refine ⟨k + 1, by omega, by go_num, hide ?_, trivial⟩
          obtain ⟨h1, h2⟩ := List.getElem?_eq_some_iff.1 HX.out
          rw [List.take_succ_eq_append_getElem h1, h2, List.mem_append, List.mem_singleton]
          rintro (h | h)
          · exact hno.out h
          · exact HN.out h.symm
        case measure => simp [intOf]; omega
    · obtain rfl : k = s.size := by omega
      have hm : decide ((0 : UInt8) ∈ s.data.toList) = false := by
        have := hno.out
        rw [Hog.size_len, List.take_length] at this
        exact decide_eq_false this
      have HM := hide hm
      clear hm
      go_wp2
      go_ret
      exact ⟨ret_bool (HM.out.symm.trans HR.out), rfl⟩
end Go.Proofs.YtecjkkipglldlaaGreatDoor
/- The walks of head's sumOf and kindOf. -/
namespace Go.Proofs.YtecjkkipglldlaaGreatDoor
open Go.RowKit Hog

theorem sum_room {l : List UInt8} (h : l.length ≤ 512) : octR (sumL l) 6 = true ∧ octT (sumL l) 6 = octL 6 (sumL l) := by
  have h1 := sumL_le l
  have h2 : 8 ^ 6 = 262144 := by decide
  have hr : octR (sumL l) 6 = true := by
    unfold octR
    rw [decide_eq_true_eq]
    refine ⟨by omega, by decide, by decide, ?_⟩
    rw [Int.toNat_natCast, show (6 : Int).toNat = 6 by rfl]
    omega
  exact ⟨hr, by unfold octT; rw [if_pos hr]; rfl⟩
set_option maxHeartbeats 800000 in
theorem sumof_any (b o n c : Nat) (l : List UInt8) (s : List UInt8) (w0 w : World) (hok : Ok w0 w) (h : ArgB w (some ⟨b, o, none⟩) n c l) (hn : n ≤ 512) (hs : octL 6 (sumL l) = s) :
    Calls Tryz.prog 59 #[.slice (some ⟨b, o, none⟩) n c] w fun e w' => e = .returned (.string (mk s)) ∧ Ok w0 w' ∧ Below w.heap.size w w' := by
  have HA := hide h
  have HS := hide hs
  have HLEN := hide h.len
  have HOK := hide hok
  have HR := hide (sum_room (l := l) (by rw [h.len]; exact hn))
  have HLE := hide (sumL_le l)
  clear h hs hok
  go_enter Tryz.func59, Tryz.ntmps59
  go_wp2_with fail
  go_loopw [3, 10] (fun s i wr => ∃ (k a : Nat), k ≤ n ∧ i = .int .i64 k ∧ s = .int .i64 a ∧ Hid (a = sumL (l.take k)) ∧ a ≤ 255 * k ∧ wr = w) (fun _ i _ => n - (intOf i).toNat)
  case atStart => exact ⟨0, 0, Nat.zero_le _, rfl, rfl, by rw [List.take_zero]; rfl, by omega, rfl⟩
  case round =>
    obtain ⟨k, a, hk, rfl, rfl, ha, hle, rfl⟩ := hrel
    by_cases hlt : k < n
    · obtain ⟨x, hx⟩ : ∃ x, l[k]? = some x := ⟨l[k]'(by have := HLEN.out; omega), List.getElem?_eq_some_iff.2 ⟨_, rfl⟩⟩
      have g1 := HA.out.at hx
      have hx256 : x.toNat < 256 := x.toNat_lt
      have hki : (k : Int) < (n : Int) := by omega
      have HX := hide hx
      clear hx
      go_wp2_with fail
      go_roundw
      case rel => exact ⟨k + 1, a + x.toNat, by omega, by go_num, by go_num, by rw [sumL_step HX.out, ha.out]; exact hide rfl, by omega, trivial⟩
      case measure => simp [intOf]; omega
    · obtain rfl : k = n := by omega
      have ha2 := ha.out
      rw [← HLEN.out, List.take_length] at ha2
      have hai : (a : Int) < 9223372036854775808 := by omega
      have HA2 := hide ha2
      clear ha2
      go_wp2_with fail
      refine (octal_ok a 6 s true w0 wr HOK.out hai (by rw [HA2.out, ← HS.out]; exact HR.out.2) (by rw [HA2.out]; exact HR.out.1)).mono ?_
      rintro e w1 ⟨rfl, ok1, hb1⟩
      go_wp2_with fail
      go_ret
      exact ⟨rfl, ok1, hb1⟩

theorem looks_eq {md : List UInt8} {sg : UInt8} {k : Int} (h : (pad 8 (modeK k) = md) ∧ signK k = sg) : looks md sg k = true := by
  unfold looks
  rw [decide_eq_true h.1, h.2, beq_self_eq_true]; rfl
theorem kind_at {md : List UInt8} {sg : UInt8} {k : Int} (h1 : 1 ≤ k) (h5 : k ≤ 5) (h : looks md sg k = true) : kindR md sg = k := by
  unfold looks at h
  rw [Bool.and_eq_true, decide_eq_true_eq, beq_iff_eq] at h
  rw [← h.1, ← h.2]
  exact kindR_of h1 h5
theorem kind_none {md : List UInt8} {sg : UInt8} (h : ∀ k : Int, 1 ≤ k → k ≤ 5 → looks md sg k = false) : kindR md sg = 0 := by
  unfold kindR
  rw [h 1 (by omega) (by omega), h 2 (by omega) (by omega), h 3 (by omega) (by omega), h 4 (by omega) (by omega), h 5 (by omega) (by omega)]
  rfl
set_option maxHeartbeats 800000 in
theorem kindof_ok (t : ByteArray) (md : List UInt8) (sg : UInt8) (r : Int) (w : World) (ht : t.data.toList = md) (hr : kindR md sg = r) :
    Calls Tryz.prog 78 #[.string t, .int .u8 sg.toNat] w fun e w' => e = .returned (.int .i64 r) ∧ w' = w := by
  have HR := hide hr
  have HT := hide ht
  clear hr ht
  go_enter Tryz.func78, Tryz.ntmps78
  go_wp2_with fail
  go_loopw [5] (fun i wr => ∃ k : Nat, 1 ≤ k ∧ k ≤ 6 ∧ i = .int .i64 k ∧ Hid (∀ j : Int, 1 ≤ j → j < k → looks md sg j = false) ∧ wr = w) (fun i _ => 6 - (intOf i).toNat)
  case atStart => exact ⟨1, Nat.le_refl _, by omega, rfl, fun j h1 h2 => by omega, rfl⟩
  case round =>
    obtain ⟨k, hk1, hk6, rfl, hno, rfl⟩ := hrel
    by_cases hlt : k ≤ 5
    · have hki : (k : Int) ≤ 5 := by omega
      obtain ⟨m, hm⟩ : ∃ m, pad 8 (modeK k) = m := ⟨_, rfl⟩
      obtain ⟨g, hg⟩ : ∃ g, signK k = g := ⟨_, rfl⟩
      have HM := hide hm
      have HG := hide hg
      have HLK : Hid (looks md sg k = (decide (m = md) && (g == sg))) := by unfold looks; rw [hm, hg]; exact hide rfl
      have HMT : Hid (((mk m).toList == t.toList) = decide (m = md)) := by
        rw [mk_toList, Lib.toList_data, HT.out, Bool.eq_iff_iff, beq_iff_eq, decide_eq_true_eq]
        exact Iff.rfl
      clear hm hg
      go_wp2_with fail
      refine (look_ok k m g wr (by omega) (by omega) HM.out HG.out).mono ?_
      rintro e w1 ⟨rfl, rfl⟩
      by_cases hmm : m = md
      · have c1 : ((mk m).toList == t.toList) = true := by rw [HMT.out, decide_eq_true hmm]
        by_cases hgg : g = sg
        · have c2 : ((g.toNat : Int) == (sg.toNat : Int)) = true := by rw [hgg]; simp
          have HE : Hid (kindR md sg = (k : Int)) := kind_at (by omega) (by omega) (by rw [HLK.out, hmm, hgg]; simp)
          clear hmm hgg
          go_wp2_with fail
          go_ret
          exact ⟨ret_int (HE.out.symm.trans HR.out), rfl⟩
        · have c2 : ((g.toNat : Int) == (sg.toNat : Int)) = false := by
            rw [beq_eq_false_iff_ne]; intro e; exact hgg (UInt8.toNat_inj.1 (by omega))
          have HE : Hid (looks md sg k = false) := by
            rw [HLK.out, beq_eq_false_iff_ne.2 hgg, Bool.and_false]; exact hide rfl
          clear hmm hgg
          go_wp2_with fail
          go_roundw
          case rel =>
            refine ⟨k + 1, by omega, by omega, by go_num, hide fun j h1 h2 => ?_, trivial⟩
            by_cases e : j < k
            · exact hno.out j h1 e
            · obtain rfl : j = k := by omega
              exact HE.out
          case measure => simp [intOf]; omega
      · have c1 : ((mk m).toList == t.toList) = false := by rw [HMT.out, decide_eq_false hmm]
        have HE : Hid (looks md sg k = false) := by
          rw [HLK.out, decide_eq_false hmm, Bool.false_and]; exact hide rfl
        clear hmm
        go_wp2_with fail
        go_roundw
        case rel =>
          refine ⟨k + 1, by omega, by omega, by go_num, hide fun j h1 h2 => ?_, trivial⟩
          by_cases e : j < k
          · exact hno.out j h1 e
          · obtain rfl : j = k := by omega
            exact HE.out
        case measure => simp [intOf]; omega
    · obtain rfl : k = 6 := by omega
      have HE := hide (kind_none (md := md) (sg := sg) fun j h1 h2 => hno.out j h1 (by omega))
      clear hlt
      go_wp2_with fail
      go_ret
      exact ⟨ret_int (HE.out.symm.trans HR.out), rfl⟩
end Go.Proofs.YtecjkkipglldlaaGreatDoor
