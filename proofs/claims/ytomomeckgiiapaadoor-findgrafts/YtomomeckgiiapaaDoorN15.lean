/- The walk of the statements' own OverNodes: what was answered is written over, and beyond; only its own block turns. -/
import Derived.Test.YtomomeckgiiapaaDoorN14
namespace Go.Proofs.YtomomeckgiiapaaDoor
open Go.RowKit

theorem grown_setCell (w : World) (g j : Nat) (x : Value) : w.grownBy (w.setCell ⟨g, j, none⟩ x) (some g) :=
  ⟨rfl, rfl, rfl, by simp [World.setCell], fun k _ hne => Below.heap_setCell _ ⟨g, j, none⟩ _ k (fun e => hne (by rw [e]))⟩
theorem grown_box (w : World) (o : Obj) (row : Option Nat) : w.grownBy (w.alloc o) row := World.grownBy_alloc w o row
theorem two_bases {b1 b2 : Nat} {w1 w2 : World} {v u : Value} {xs ys : List Nd} (h : OwnN b1 w1 v xs) (k : OwnN b2 w2 u ys) (hb : w1.heap.size ≤ b2) : Two v u := by
  cases e : v.ownBlock with
  | none => exact .inl e
  | some x =>
    refine .inr fun e2 => ?_
    rw [e] at e2
    have h1 := (h.lt x e).2
    have h2 := (k.lt x e2.symm).1
    omega

set_option maxRecDepth 100000 in
set_option maxHeartbeats 800000 in
theorem overN_none (w : World) :
    Calls Tryd.prog 21 #[.slice none 0 0] w fun e w' => e = .returned (.tuple #[]) ∧ w.grownBy w' none := by
  have HA := hide ((Run.one w (⟨#[111, 118, 101, 114]⟩, 0, ByteArray.empty)).arg (c := 1) (by simp))
  go_enter Tryd.func21, Tryd.ntmps21
  go_wp2
  go_loop [2] (fun i => i = .int .i64 0) (fun _ => 0)
  case atStart => rfl
  case round =>
    subst hrel
    go_wp2_with (at_builtin; refine wpList_append_where rfl _ _ rfl 0 _ [] rfl (OwnN.nil _ _) _ _ _ [(⟨#[111, 118, 101, 114]⟩, 0, ByteArray.empty)] rfl HA.out (by simp) (by simp) ?_)
    intro b c w1 _ hb1 _
    go_wp2
    go_end0
    exact ⟨rfl, grown_trans (grown_box _ _ _) hb1⟩

set_option maxRecDepth 100000 in
set_option maxHeartbeats 800000 in
theorem overN_some (base g cap : Nat) (ns : List Nd) (w : World) (hb : base ≤ w.heap.size) (h : OwnN base w (.slice (some ⟨g, 0, none⟩) ns.length cap) ns) (hl : ns.length < 900000) :
    Calls Tryd.prog 21 #[.slice (some ⟨g, 0, none⟩) ns.length cap] w fun e w' => e = .returned (.tuple #[]) ∧ w.grownBy w' (some g) := by
  obtain ⟨n, hn⟩ : ∃ n, n = ns.length := ⟨_, rfl⟩
  have HO := hide h
  have HN := hide hn
  rw [← hn] at hl ⊢
  clear h hn
  go_enter Tryd.func21, Tryd.ntmps21
  go_wp2
  go_loopw [2] (fun i wr => ∃ k : Nat, k ≤ n ∧ i = .int .i64 k ∧ Hid (∃ ys : List Nd, ys.length = n ∧ OwnN base wr (.slice (some ⟨g, 0, none⟩) ys.length cap) ys) ∧ w.grownBy wr (some g)) (fun i _ => n - (intOf i).toNat)
  case atStart => exact ⟨0, Nat.zero_le _, rfl, ⟨ns, HN.out.symm, HO.out⟩, grown_refl _ _⟩
  case round =>
    obtain ⟨k, hk, rfl, hys, hbl⟩ := hrel
    obtain ⟨ys, hyn, hown⟩ := hys.out
    have HO2 := hide hown
    have HY := hide hyn
    clear hys hown hyn
    have hbs := hbl.size
    by_cases hlt : k < n
    · have hf := fun j => World.ownsRow.frozenAt HO2.out j
      obtain ⟨y, hy⟩ : ∃ y, ys[k]? = some y := ⟨ys[k]'(by have := HY.out; omega), List.getElem?_eq_some_iff.2 ⟨_, rfl⟩⟩
      obtain ⟨e1, e2, e3⟩ := flat_get hy
      have c := fun i (hi : k * 3 + i < ys.length * 3) => World.ownsRow.cellAt HO2.out (k * 3 + i) hi
      have hyl := HY.out
      have c1 := (c 0 (by omega)).trans e1
      have c2 := (c 1 (by omega)).trans e2
      have c3 := (c 2 (by omega)).trans e3
      have f1 := hf (k * 3)
      have f2 := hf (k * 3 + 1)
      have f3 := hf (k * 3 + 2)
      rw [Nat.add_zero] at c1
      clear hf hy e1 e2 e3 c hyl
      go_wp2
      go_roundw
      case rel =>
        refine ⟨k + 1, by omega, by go_num, ?_, ?_⟩
        · exact ⟨ys.set k (⟨#[111, 118, 101, 114]⟩, 0, ⟨#[]⟩), by rw [List.length_set]; exact HY.out, HO2.out.stored k (by have := HY.out; omega) (⟨#[111, 118, 101, 114]⟩, 0, ⟨#[]⟩)⟩
        · exact grown_trans hbl (grown_trans (grown_setCell _ g (k * 3) _) (grown_trans (grown_setCell _ g (k * 3 + 1) _) (grown_setCell _ g (k * 3 + 2) _)))
      case measure => simp [intOf]; omega
    · have HO3 := hide (HO2.out.alloc (.cells #[.string ⟨#[111, 118, 101, 114]⟩, .int .i64 0, .string ByteArray.empty] 27))
      rw [HY.out] at HO3
      have HA := hide ((Run.one wr (⟨#[111, 118, 101, 114]⟩, 0, ByteArray.empty)).arg (c := 1) (by simp))
      go_wp2_with (at_builtin; refine wpList_append_where rfl _ _ rfl base _ ys rfl HO3.out _ _ _ [(⟨#[111, 118, 101, 114]⟩, 0, ByteArray.empty)] rfl HA.out (by simp; have := HY.out; omega) (by simp; omega) ?_)
      intro b c w1 _ hb1 _
      go_wp2
      go_end0
      exact ⟨rfl, grown_trans hbl (grown_trans (grown_box _ _ _) hb1)⟩

theorem overN_ok (v : Value) (ns : List Nd) (base : Nat) (w : World) (ho : OwnN base w v ns) (hbw : base ≤ w.heap.size) (hl : ns.length < 900000) :
    Calls Tryd.prog 21 #[v] w fun e w' => e = .returned (.tuple #[]) ∧ w.grownBy w' v.ownBlock := by
  obtain ⟨_, h2⟩ := id ho
  rcases h2 with ⟨rfl, _⟩ | ⟨g, cap, cur, rfl, _⟩
  · exact overN_none w
  · exact overN_some base g cap ns w hbw ho hl
end Go.Proofs.YtomomeckgiiapaaDoor
