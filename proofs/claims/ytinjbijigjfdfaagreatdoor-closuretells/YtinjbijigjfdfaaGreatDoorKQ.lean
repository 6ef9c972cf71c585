/- The walk of the statements' own OverItems, of one item. -/
import Derived.Test.YtinjbijigjfdfaaGreatDoorKF
import Derived.Test.YtinjbijigjfdfaaGreatDoorJ14
import Derived.Test.YtinjbijigjfdfaaGreatDoorJ6
namespace Go.Proofs.YtinjbijigjfdfaaGreatDoor
open Go.RowKit

theorem BoxI.kept {w w' : World} {g : Nat} {nm : ByteArray} {u v : Value} {row : Option Nat} (h : BoxI w g nm u v) (hg : w.grownBy w' row) (hr : some g ≠ row) : BoxI w' g nm u v := by
  unfold BoxI
  rw [hg.block g h.facts.2.2 hr]
  exact h
set_option maxRecDepth 100000 in
set_option maxHeartbeats 2000000 in
theorem overI_one (B : Nat) (nm : ByteArray) (ra : Option Addr) (rn rc : Nat) (ta : Option Addr) (tn tc : Nat) (rs : List ByteArray) (ns : List Nd) (base0 base : Nat) (w : World) (hB : BoxI w B nm (.slice ra rn rc) (.slice ta tn tc))
    (hO : Own base0 w (.slice ra rn rc) rs) (hN : OwnN base w (.slice ta tn tc) ns) (hrl : rs.length < 900000) (hnl : ns.length ≤ 60) (hk : ∀ k, (Value.slice ra rn rc).ownBlock = some k → k < base ∧ k ≠ B) (hk2 : ∀ k, (Value.slice ta tn tc).ownBlock = some k → k ≠ B)
    (h0 : base0 ≤ base) (h1 : base ≤ w.heap.size) (h2 : base0 ≤ B) :
    Calls Tryz.prog 19 #[.slice (some ⟨B, 0, none⟩) 1 1] w fun e w' => e = .returned (.tuple #[]) ∧ Below base0 w w' ∧ ∀ k, k < w.heap.size → (Value.slice ra rn rc).ownBlock ≠ some k → (Value.slice ta tn tc).ownBlock ≠ some k → k ≠ B → w'.heap[k]? = w.heap[k]? := by
  have HB := hide hB
  have HO := hide hO
  have HN := hide hN
  have HK := hide hk
  have HK2 := hide hk2
  have hlt := hB.facts.2.2
  clear hB hO hN hk hk2
  go_enter Tryz.func19, Tryz.ntmps19
  go_wp2
  go_loopw [2] (fun v wr => (v = .int .i64 0 ∧ wr = w) ∨ (v = .int .i64 1 ∧ Hid (Below base0 w wr ∧ ∀ k, k < w.heap.size → (Value.slice ra rn rc).ownBlock ≠ some k → (Value.slice ta tn tc).ownBlock ≠ some k → k ≠ B → wr.heap[k]? = w.heap[k]?))) (fun v _ => 1 - (intOf v).toNat)
  case atStart => exact .inl ⟨rfl, rfl⟩
  case round =>
    rcases hrel with ⟨rfl, rfl⟩ | ⟨rfl, hbl⟩
    · obtain ⟨⟨_, c1, _⟩, _, _⟩ := HB.out.facts
      go_wp2_with fail
      refine (overT_ok _ rs base0 wr HO.out (by omega) hrl).mono ?_
      rintro e w1 ⟨rfl, hg1⟩
      have HB1 := hide (HB.out.kept hg1 (fun e => (HK.out B e.symm).2 rfl))
      have HN1 : Hid (OwnN base w1 (.slice ta tn tc) ns) := World.ownsRow.kept HN.out hg1 (by
        cases h : (Value.slice ta tn tc).ownBlock with
        | none => exact .inl rfl
        | some k =>
          refine .inr fun e => ?_
          have h3 := (HK.out k e.symm).1
          have h4 := (HN.out.lt k h).1
          omega)
      have HBL1 := hide ((Below.refl base0 wr).grown hg1 (by omega) (fun k hk => (HO.out.lt k hk).1))
      have hs1 : base ≤ w1.heap.size := by have := hg1.size; omega
      have HG1 := hide hg1
      clear c1 hg1
      obtain ⟨⟨_, _, c2⟩, _, _⟩ := HB1.out.facts
      go_wp2_with fail
      refine (overN_ok _ ns base w1 HN1.out hs1 (by omega)).mono ?_
      rintro e w2 ⟨rfl, hg2⟩
      have HB2 := hide (HB1.out.kept hg2 (fun e => HK2.out B e.symm rfl))
      have HBL2 := hide (HBL1.out.grown hg2 (by have := HBL1.out.size; omega) (fun k hk => by have := (HN1.out.lt k hk).1; omega))
      have HG2 := hide hg2
      clear c2 hg2
      obtain ⟨⟨d0, d1, d2⟩, ⟨f0, f1, f2⟩, hl2⟩ := HB2.out.facts
      go_wp2
      go_roundw
      case rel =>
        refine .inr ⟨by first | rfl | go_num, storedI_below HBL2.out h2 _ _ _, fun k hk k1 k2 k3 => ?_⟩
        have hg3 := storedI_grown w2 B (.string ⟨#[111, 118, 101, 114]⟩) (.slice none 0 0) (.slice none 0 0)
        have s1 := HG1.out.size
        have s2 := HG2.out.size
        refine (hg3.block k (by omega) (fun e => k3 (Option.some.inj e))).trans ((HG2.out.block k (by omega) (fun e => k2 e.symm)).trans (HG1.out.block k hk (fun e => k1 e.symm)))
      case measure => simp [intOf]
    · go_wp2
      go_end0
      exact ⟨rfl, hbl.out.1, hbl.out.2⟩
end Go.Proofs.YtinjbijigjfdfaaGreatDoor
