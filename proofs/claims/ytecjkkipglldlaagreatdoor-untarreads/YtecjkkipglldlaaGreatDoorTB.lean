/- Numbers as digits, records: the walks of package tar's Record, record, records. -/
import Derived.Test.YtecjkkipglldlaaGreatDoorTA
import Derived.Test.YtecjkkipglldlaaGreatDoorShelf
import Derived.Lib.ItoaMem
namespace Go.Proofs.YtecjkkipglldlaaGreatDoor
open Go.RowKit

/-- The library's table of powers of ten holds what the program's text lays. -/
def Pow (w : World) : Prop := Lib.TabIs Tryz.prog w "internal/strconv.uint64pow10" .u64 Lib.pow10Tab
theorem Pow.below {w w' : World} (h : Pow w) (hb : Below w.heap.size w w') : Pow w' := by
  unfold Pow Lib.TabIs World.var? at *
  cases hg : Tryz.prog.globalNamed "internal/strconv.uint64pow10" with
  | none => simp [hg] at h
  | some g =>
    simp only [hg, Option.bind_some] at h ⊢
    have hlt : g < w.heap.size := by
      rcases Nat.lt_or_ge g w.heap.size with h' | h'
      · exact h'
      · rw [Array.getElem?_eq_none h'] at h; simp at h
    rw [hb.block g hlt]
    exact h
theorem below_grow (w : World) (k : Nat) (os : Array Obj) : Below w.heap.size w (Sort.grow (w.drewN k) os) :=
  ⟨rfl, rfl, rfl, by show w.heap.size ≤ (w.heap ++ os).size; rw [Array.size_append]; omega, fun j hj => by
    show (w.heap ++ os)[j]? = w.heap[j]?
    rw [Array.getElem?_append_left hj]⟩
theorem itoa_ok (i : Int) (n : Nat) (x : List UInt8) (w0 w : World) (hp : Pow w0) (hok : Ok w0 w) (hi : i = n) (hn : n < 9000000000) (hx : Hog.decL n = x) :
    Calls Tryz.prog 86 #[.int .i64 i] w fun e w' => e = .returned (.string (Hog.mk x)) ∧ Ok w0 w' ∧ Below w.heap.size w w' := by
  subst hi
  subst hx
  refine (Tryz.strconv_Itoa n (by omega) (by omega) w (hp.below hok.2)).mono ?_
  rintro e w' ⟨rfl, k, os, rfl⟩
  have hb := below_grow w k os
  refine ⟨?_, hok.next hb, hb⟩
  rw [Lib.itoa_nonneg]; rfl
theorem rest_mk (k v : ByteArray) : ⟨#[32]⟩ ++ k ++ ⟨#[61]⟩ ++ v ++ ⟨#[10]⟩ = Hog.mk (Hog.restL k.data.toList v.data.toList) := by
  apply ByteArray.ext
  unfold Hog.restL Hog.mk
  simp

set_option maxRecDepth 100000 in
set_option maxHeartbeats 1000000 in
theorem recordR_ok (k v : ByteArray) (lk lv z : List UInt8) (w0 w : World) (hp : Pow w0) (hok : Ok w0 w) (hk : k.data.toList = lk) (hv : v.data.toList = lv) (hs : k.size + v.size < 900000) (hz : Hog.recL lk lv = z) :
    Calls Tryz.prog 69 #[.string k, .string v] w fun e w' => e = .returned (.string (Hog.mk z)) ∧ Ok w0 w' ∧ Below w.heap.size w w' := by
  obtain ⟨r, hr⟩ : ∃ r, ⟨#[32]⟩ ++ k ++ ⟨#[61]⟩ ++ v ++ ⟨#[10]⟩ = r := ⟨_, rfl⟩
  obtain ⟨l, hl⟩ : ∃ l, Hog.restL lk lv = l := ⟨_, rfl⟩
  have hrl : r = Hog.mk l := by rw [← hr, rest_mk, hk, hv, hl]
  have hrs : r.size = l.length := by rw [hrl, Hog.mk_size]
  have hll : l.length < 900010 := by rw [← hl, Hog.restL_len, ← hk, ← hv, ← Hog.size_len, ← Hog.size_len]; omega
  have hrs2 : r.size < 900010 := by omega
  have HD := hide (Hog.digR_is (r := l.length) (by omega))
  obtain ⟨D, hD⟩ : ∃ D, Hog.digR l.length = D := ⟨_, rfl⟩
  rw [hD] at HD
  have HZ : Hid (z = Hog.decL (l.length + D) ++ l) := by
    rw [← hz]; unfold Hog.recL Hog.recN; rw [hl, hD]; exact hide rfl
  have HR := hide hr
  have HRL := hide hrl
  have HRS := hide hrs
  have hD8 : D ≤ 8 := HD.out.small
  have HP := hide hp
  have HOK := hide hok
  clear hr hl hrl hrs hll hD hz hk hv hp hok
  go_enter Tryz.func69, Tryz.ntmps69
  go_wp2
  rw [HR.out]
  go_loopw [6] (fun d wr => ∃ j : Nat, 1 ≤ j ∧ j ≤ D ∧ d = .int .i64 j ∧ Below w.heap.size w wr) (fun d _ => 9 - (intOf d).toNat)
  case atStart => exact ⟨1, Nat.le_refl _, HD.out.pos, rfl, Below.refl _ _⟩
  case round =>
    obtain ⟨j, hj1, hjD, rfl, hbl⟩ := hrel
    obtain ⟨x, hx⟩ : ∃ x, Hog.decL (r.size + j) = x := ⟨_, rfl⟩
    have HXL : Hid (x.length = Lib.nDigits (r.size + j)) := by rw [← hx]; exact hide (Hog.decL_len _)
    have HX := hide hx
    clear hx
    go_wp2_with fail
    refine (itoa_ok _ (r.size + j) x w0 wr HP.out (HOK.out.next hbl) (by omega) (by omega) HX.out).mono ?_
    rintro e w1 ⟨rfl, ok1, hb1⟩
    have hbl1 := hbl.trans (hb1.mono hbl.size)
    clear hb1
    have hms : (Hog.mk x).size = Lib.nDigits (r.size + j) := by rw [Hog.mk_size, HXL.out]
    by_cases he : j = D
    · subst he
      have hj : (Hog.mk x).size = j := by rw [hms, HRS.out]; exact HD.out.right
      have ht : (((Hog.mk x).size : Int) != (j : Int)) = false := by rw [hj]; simp
      have hsz : (Hog.mk x).size ≤ 8 := by omega
      have HE : Hid (Hog.mk x ++ r = Hog.mk z) := by
        rw [HZ.out, HRL.out, mk_join, ← HX.out, HRL.out, Hog.mk_size, Nat.add_comm]; exact hide rfl
      clear hms hj
      go_wp2_with fail
      refine (itoa_ok _ (r.size + j) x w0 w1 HP.out ok1 (by omega) (by omega) HX.out).mono ?_
      rintro e w2 ⟨rfl, ok2, hb2⟩
      have hbl2 := hide (hbl1.trans (hb2.mono hbl1.size))
      clear hb2
      go_wp2_with fail
      go_ret
      rw [HE.out]
      exact ⟨rfl, ok2, hbl2.out⟩
    · have hj : (Hog.mk x).size ≠ j := by rw [hms, HRS.out]; exact HD.out.least j hj1 (by omega)
      have ht : (((Hog.mk x).size : Int) != (j : Int)) = true := by rw [bne_iff_ne]; omega
      clear hms hj
      go_wp2_with fail
      go_roundw
      case rel => exact ⟨j + 1, by omega, by omega, by go_num, hbl1⟩
      case measure => simp [intOf]; omega
theorem long_none {l : List UInt8} {k : List UInt8} (h : l.length ≤ 100) : Hog.oneR k l = [] := by unfold Hog.oneR; rw [if_pos h]
theorem long_some {l : List UInt8} {k : List UInt8} (h : ¬ l.length ≤ 100) : Hog.oneR k l = Hog.recL k l := by unfold Hog.oneR; rw [if_neg h]
theorem recordO_ok (k v : ByteArray) (lk lv z : List UInt8) (w0 w : World) (hp : Pow w0) (hok : Ok w0 w) (hk : k.data.toList = lk) (hv : v.data.toList = lv) (hs : k.size + v.size < 900000) (hz : Hog.oneR lk lv = z) :
    Calls Tryz.prog 54 #[.string k, .string v] w fun e w' => e = .returned (.string (Hog.mk z)) ∧ Ok w0 w' ∧ Below w.heap.size w w' := by
  have hl : v.size = lv.length := by rw [← hv, Hog.size_len]
  by_cases h : v.size ≤ 100
  · have hz2 : z = [] := by rw [← hz]; exact long_none (by omega)
    have h1 : (v.size : Int) ≤ 100 := by omega
    subst hz2
    have HOK := hide hok
    clear hz hl hk hv hok
    go_enter Tryz.func54, Tryz.ntmps54
    go_wp2
    go_ret
    exact ⟨rfl, HOK.out, Below.refl _ _⟩
  · have HZ : Hid (Hog.recL lk lv = z) := by rw [← hz, long_some (by omega)]; exact hide rfl
    have h1 : ¬ ((v.size : Int) ≤ 100) := by omega
    have HOK := hide hok
    have HK := hide hk
    have HV := hide hv
    clear hz hl hk hv hok
    go_enter Tryz.func54, Tryz.ntmps54
    go_wp2_with fail
    refine (recordR_ok k v lk lv z w0 w hp HOK.out HK.out HV.out hs HZ.out).mono ?_
    rintro e w1 ⟨rfl, ok1, hb1⟩
    have HB := hide hb1
    clear hb1
    go_wp2_with fail
    go_ret
    exact ⟨rfl, ok1, HB.out⟩
end Go.Proofs.YtecjkkipglldlaaGreatDoor
