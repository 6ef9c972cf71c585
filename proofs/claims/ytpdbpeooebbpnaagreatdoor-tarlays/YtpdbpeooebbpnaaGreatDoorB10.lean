/- The walks of the statements' own LendBytes, KeptBytes, OverBytes. -/
import Derived.Test.YtpdbpeooebbpnaaGreatDoorB9
namespace Go.Proofs.YtpdbpeooebbpnaaGreatDoor
open Go.RowKit

/-- In block g lie the bytes l, and behind them k marks; there is room for three. -/
def LentB (w : World) (g k : Nat) (l : List UInt8) : Prop :=
  ∃ cur : Array Value, w.heap[g]? = some (.cells cur 5 (0, 0)) ∧ cur.size = l.length + 3 ∧ (∀ (j : Nat) x, (bcells l)[j]? = some x → cur[j]? = some x) ∧
    ∀ j, j < k → cur[l.length + j]? = some (.int .u8 119)
theorem LentB.cell {w : World} {g k : Nat} {l : List UInt8} (h : LentB w g k l) (j : Nat) (hj : j < l.length + 3) : ∃ v, w.cell? ⟨g, j, none⟩ = some v := by
  obtain ⟨cur, hg, hs, _, hm⟩ := h
  exact ⟨cur[j], by rw [cell_of_row w g _ cur 5 (0, 0) hg]; exact Array.getElem?_eq_getElem (by omega)⟩
theorem LentB.free {w : World} {g k : Nat} {l : List UInt8} (h : LentB w g k l) (j : Nat) : w.frozen? ⟨g, j, none⟩ = false := by
  obtain ⟨cur, hg, _⟩ := h
  exact frozen_of_row w g j cur 5 hg
theorem LentB.marked {w : World} {g k : Nat} {l : List UInt8} (h : LentB w g k l) (j : Nat) (hj : j < k) : w.cell? ⟨g, l.length + j, none⟩ = some (.int .u8 119) := by
  obtain ⟨cur, hg, hs, _, hm⟩ := h
  rw [cell_of_row w g _ cur 5 (0, 0) hg]
  exact hm j hj
theorem LentB.mark {w : World} {g k : Nat} {l : List UInt8} (h : LentB w g k l) (hk : k < 3) : LentB (w.setCell ⟨g, l.length + k, none⟩ (.int .u8 119)) g (k + 1) l := by
  obtain ⟨cur, hg, hs, hx, hm⟩ := h
  refine ⟨_, heap_setCell_same w g _ cur 5 _ hg, by simp only [Array.size_setIfInBounds]; exact hs, fun j x hj => ?_, fun j hj => ?_⟩
  · have hjl := (List.getElem?_eq_some_iff.1 hj).1
    rw [bcells_len] at hjl
    rw [Array.getElem?_setIfInBounds_ne (by omega)]
    exact hx j x hj
  · by_cases e : j = k
    · subst e
      rw [Array.getElem?_setIfInBounds_self_of_lt (by omega)]
    · rw [Array.getElem?_setIfInBounds_ne (by omega)]
      exact hm j (by omega)
theorem LentB.arg {w : World} {g k n : Nat} {l : List UInt8} (h : LentB w g k l) (hn : n = l.length) : ArgB w (some ⟨g, 0, none⟩) n (n + 3) l := by
  subst hn
  obtain ⟨cur, hg, hs, hx, _⟩ := h
  refine ⟨rfl, by simp, by omega, fun ad e j u hu => ?_⟩
  cases e
  rw [addB_plain, Nat.zero_add, cell_of_row w g j cur 5 (0, 0) hg]
  exact hx j u hu
theorem LentB.below {w w' : World} {g k : Nat} {l : List UInt8} (h : LentB w g k l) {B : Nat} (hb : Below B w w') (hB : g < B) : LentB w' g k l := by
  obtain ⟨cur, hg, r⟩ := h
  exact ⟨cur, by rw [hb.block g hB]; exact hg, r⟩
theorem LentB.lt {w : World} {g k : Nat} {l : List UInt8} (h : LentB w g k l) : g < w.heap.size := by
  obtain ⟨cur, hg, r⟩ := h
  exact (Array.getElem?_eq_some_iff.1 hg).1
theorem LentB.start {base : Nat} {w : World} {g : Nat} {l : List UInt8} {n : Nat} (hn : n = l.length) (h : w.ownsRow base 5 1 (.slice (some ⟨g, 0, none⟩) n (n + 3)) n (bcells l)) : LentB w g 0 l := by
  subst hn
  rcases h.2 with ⟨h', _⟩ | ⟨g', cap', cur, h', _, hg, _, _, hs, ht⟩
  · simp at h'
  · simp only [Value.slice.injEq, Option.some.injEq, Addr.mk.injEq, and_true, true_and] at h'
    obtain ⟨rfl, rfl⟩ := h'
    refine ⟨cur, hg, by omega, fun j x hj => ?_, fun j hj => by omega⟩
    rw [← ht, List.getElem?_take] at hj
    split at hj
    · simpa using hj
    · cases hj

theorem OwnB.stored {base : Nat} {w : World} {g n cap : Nat} {l : List UInt8} (hn : n = l.length) (h : OwnB base w (.slice (some ⟨g, 0, none⟩) n cap) l) (k : Nat) (y : UInt8) : OwnB base (w.setCell ⟨g, k, none⟩ (.int .u8 y.toNat)) (.slice (some ⟨g, 0, none⟩) n cap) (l.set k y) := by
  subst hn
  have h2 := (World.ownsRow.stored h k (.int .u8 y.toNat)).1
  unfold OwnB
  have e : bcells (l.set k y) = (bcells l).set k (.int .u8 y.toNat) := by unfold bcells; rw [List.map_set]
  rw [e, List.length_set]
  exact h2

set_option maxRecDepth 100000 in
set_option maxHeartbeats 800000 in
theorem overB_none (w : World) :
    Calls Tryz.prog 14 #[.slice none 0 0] w fun e w' => e = .returned (.tuple #[]) ∧ w.grownBy w' none := by
  go_enter Tryz.func14, Tryz.ntmps14
  go_wp2
  go_loop [2] (fun i => i = .int .i64 0) (fun _ => 0)
  case atStart => rfl
  case round =>
    subst hrel
    go_wp2_with (at_builtin; refine wpList_append_b1 rfl _ _ rfl 0 _ [] rfl (OwnB.nil _ _) _ rfl 238 rfl 0 rfl [238] rfl (by omega) (Nat.zero_le _) ?_)
    intro b c w1 _ hb1
    go_wp2
    go_end0
    exact ⟨rfl, hb1.grown⟩

set_option maxRecDepth 100000 in
set_option maxHeartbeats 800000 in
theorem overB_some (base g cap : Nat) (l : List UInt8) (w : World) (hb : base ≤ w.heap.size) (h : OwnB base w (.slice (some ⟨g, 0, none⟩) l.length cap) l) (hl : l.length < 900000000) :
    Calls Tryz.prog 14 #[.slice (some ⟨g, 0, none⟩) l.length cap] w fun e w' => e = .returned (.tuple #[]) ∧ w.grownBy w' (some g) := by
  obtain ⟨n, hn⟩ : ∃ n, n = l.length := ⟨_, rfl⟩
  have HO := hide h
  have HN := hide hn
  rw [← hn] at hl ⊢
  clear h hn
  go_enter Tryz.func14, Tryz.ntmps14
  go_wp2
  go_loopw [2] (fun i wr => ∃ k : Nat, k ≤ n ∧ i = .int .i64 k ∧ Hid (∃ ys : List UInt8, ys.length = n ∧ OwnB base wr (.slice (some ⟨g, 0, none⟩) n cap) ys) ∧ w.grownBy wr (some g)) (fun i _ => n - (intOf i).toNat)
  case atStart => exact ⟨0, Nat.zero_le _, rfl, ⟨l, HN.out.symm, by have h := HO.out; rw [← HN.out] at h; exact h⟩, grown_refl _ _⟩
  case round =>
    obtain ⟨k, hk, rfl, hys, hbl⟩ := hrel
    obtain ⟨ys, hyn, hown⟩ := hys.out
    have HO2 := hide hown
    have HY := hide hyn
    clear hys hown hyn
    have hbs := hbl.size
    by_cases hlt : k < n
    · have f1 : wr.frozen? ⟨g, k, none⟩ = false := by have h := HO2.out; rw [← HY.out] at h; exact World.ownsRow.frozenAt h k
      obtain ⟨y, hy⟩ : ∃ y, ys[k]? = some y := ⟨ys[k]'(by have := HY.out; omega), List.getElem?_eq_some_iff.2 ⟨_, rfl⟩⟩
      have c1 : wr.cell? ⟨g, k, none⟩ = some (.int .u8 y.toNat) := by have h := HO2.out.argAt.2.at hy; rwa [Nat.zero_add] at h
      have hki : (k : Int) < (n : Int) := by omega
      clear hy
      go_wp2
      go_roundw
      case rel =>
        exact ⟨k + 1, by omega, by go_num, ⟨ys.set k 238, by rw [List.length_set]; exact HY.out, OwnB.stored HY.out.symm HO2.out k 238⟩, grown_trans hbl (grown_setCell _ g k _)⟩
      case measure => simp [intOf]; omega
    · obtain ⟨zs, hz⟩ : ∃ zs, ys ++ [238] = zs := ⟨_, rfl⟩
      have HZ := hide hz
      clear hz
      go_wp2_with (at_builtin; refine wpList_append_b1 rfl _ _ rfl base _ ys rfl HO2.out _ rfl 238 rfl n HY.out zs HZ.out (by omega) (by omega) ?_)
      intro b c w1 _ hb1
      have HG := hide hb1.grown
      clear hb1
      go_wp2
      go_end0
      exact ⟨rfl, grown_trans hbl HG.out⟩
theorem overB_ok (v : Value) (l : List UInt8) (base : Nat) (w : World) (ho : OwnB base w v l) (hbw : base ≤ w.heap.size) (hl : l.length < 900000000) :
    Calls Tryz.prog 14 #[v] w fun e w' => e = .returned (.tuple #[]) ∧ w.grownBy w' v.ownBlock := by
  obtain ⟨_, h2⟩ := id ho
  rcases h2 with ⟨rfl, _⟩ | ⟨g, cap, cur, rfl, _⟩
  · exact overB_none w
  · exact overB_some base g cap l w hbw ho hl
theorem two_basesB {b1 b2 : Nat} {w1 w2 : World} {v u : Value} {xs ys : List UInt8} (h : OwnB b1 w1 v xs) (k : OwnB b2 w2 u ys) (hb : w1.heap.size ≤ b2) : Two v u := by
  cases e : v.ownBlock with
  | none => exact .inl e
  | some x =>
    refine .inr fun e2 => ?_
    rw [e] at e2
    have h1 := (h.lt x e).2
    have h2 := (k.lt x e2.symm).1
    omega
theorem Two.keptB {base : Nat} {w w' : World} {v u : Value} {l : List UInt8} (h : Two v u) (hg : w.grownBy w' v.ownBlock) (hu : OwnB base w u l) : OwnB base w' u l :=
  World.ownsRow.kept hu hg h.symm
end Go.Proofs.YtpdbpeooebbpnaaGreatDoor
