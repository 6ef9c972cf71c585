/- The walks of package scan: meet, and the two searches. -/
import Derived.Test.YtinjbijigjfdfaaDoorSG
import Derived.Test.YtinjbijigjfdfaaDoorJ7
import Derived.Test.YtinjbijigjfdfaaDoorJ3
namespace Go.Proofs.YtinjbijigjfdfaaDoor
open Go.RowKit

/-- The tally f has just the keys that are told; of each it tells whether it was seen; no number is greater than b. -/
structure Tal (keys seen : ByteArray → Bool) (b : Nat) (f : ByteArray → Option Int) : Prop where
  yes : ∀ q, keys q = true → ∃ z : Nat, f q = some (z : Int) ∧ z ≤ b ∧ (0 < z ↔ seen q = true)
  no : ∀ q, keys q = false → f q = none
theorem Tal.more {keys seen seen' : ByteArray → Bool} {b b' : Nat} {f : ByteArray → Option Int} (h : Tal keys seen b f) (hs : ∀ q, seen' q = seen q) (hb : b ≤ b') : Tal keys seen' b' f :=
  ⟨fun q hq => by
    obtain ⟨z, h1, h2, h3⟩ := h.yes q hq
    exact ⟨z, h1, by omega, by rw [hs]; exact h3⟩, h.no⟩
theorem Tal.miss {keys seen seen' : ByteArray → Bool} {b : Nat} {f : ByteArray → Option Int} {p : ByteArray} (h : Tal keys seen b f) (hp : f p = none) (hs : ∀ q, seen' q = (seen q || decide (q = p))) : Tal keys seen' (b + 1) f := by
  have hk : keys p = false := by
    cases hk : keys p with
    | false => rfl
    | true =>
      obtain ⟨z, h1, _⟩ := h.yes p hk
      rw [hp] at h1
      cases h1
  refine ⟨fun q hq => ?_, h.no⟩
  obtain ⟨z, h1, h2, h3⟩ := h.yes q hq
  have hne : q ≠ p := fun e => by rw [e, hk] at hq; cases hq
  exact ⟨z, h1, by omega, by rw [hs, decide_eq_false hne, Bool.or_false]; exact h3⟩
theorem Tal.hit {keys seen seen' : ByteArray → Bool} {b : Nat} {f : ByteArray → Option Int} {p : ByteArray} {z : Nat} (h : Tal keys seen b f) (hp : f p = some (z : Int)) (hs : ∀ q, seen' q = (seen q || decide (q = p))) : Tal keys seen' (b + 1) (putF f p ((z : Int) + 1)) := by
  refine ⟨fun q hq => ?_, fun q hq => ?_⟩
  · by_cases e : q = p
    · subst e
      obtain ⟨y, h1, h2, _⟩ := h.yes q hq
      rw [hp] at h1
      have : z = y := by have := Option.some.inj h1; omega
      subst this
      exact ⟨z + 1, by unfold putF; rw [if_pos rfl]; simp, by omega, by rw [hs, decide_eq_true rfl, Bool.or_true]; simp⟩
    · obtain ⟨y, h1, h2, h3⟩ := h.yes q hq
      exact ⟨y, by unfold putF; rw [if_neg e]; exact h1, by omega, by rw [hs, decide_eq_false e, Bool.or_false]; exact h3⟩
  · have hn := h.no q hq
    unfold putF
    rw [if_neg (fun e => by rw [e, hp] at hn; cases hn)]
    exact hn
theorem Tal.some {keys seen : ByteArray → Bool} {b : Nat} {f : ByteArray → Option Int} (h : Tal keys seen b f) {p : ByteArray} {y : Int} (hp : f p = some y) : ∃ z : Nat, y = z ∧ z ≤ b := by
  cases hk : keys p with
  | false => rw [h.no p hk] at hp; cases hp
  | true =>
    obtain ⟨z, h1, h2, _⟩ := h.yes p hk
    rw [hp] at h1
    exact ⟨z, Option.some.inj h1, h2⟩

theorem wpList_lookF {w : World} {ops : Array Oper} {rest : List Oper} {o : Oper} {a : Act} {Q : Exit → Act → World → Prop} (hg : o.guard = none) (m x : Operand) (hop : o.op = Op.lookup 55 m x true)
    (b : Nat) (f : ByteArray → Option Int) (hm : a.eval m = .map (some b)) (hown : MapF w b f) (key : ByteArray) (hx : a.eval x = .string key) (z : Int) (k : Bool) (hz : atF f key = z) (hk : (f key).isSome = k)
    (hK : wpList Tryd.prog ops Q rest (a.put o.dst (.tuple #[.int .i64 z, .bool k])) w) : wpList Tryd.prog ops Q (o :: rest) a w := by
  refine wpList_plain hg fun K hK' => ?_
  have hrun := mapF_look hown key true
  rw [if_pos rfl, hz, hk] at hrun
  unfold Oper.wp
  simp [execOp, hop, hm, hx, hrun, Result.andThen]
  exact hK' _ _ hK
theorem wpList_getF {w : World} {ops : Array Oper} {rest : List Oper} {o : Oper} {a : Act} {Q : Exit → Act → World → Prop} (hg : o.guard = none) (m x : Operand) (hop : o.op = Op.lookup 55 m x false)
    (b : Nat) (f : ByteArray → Option Int) (hm : a.eval m = .map (some b)) (hown : MapF w b f) (key : ByteArray) (hx : a.eval x = .string key) (z : Int) (hz : atF f key = z)
    (hK : wpList Tryd.prog ops Q rest (a.put o.dst (.int .i64 z)) w) : wpList Tryd.prog ops Q (o :: rest) a w := by
  refine wpList_plain hg fun K hK' => ?_
  have hrun := mapF_look hown key false
  rw [if_neg (by simp), hz] at hrun
  unfold Oper.wp
  simp [execOp, hop, hm, hx, hrun, Result.andThen]
  exact hK' _ _ hK
theorem wpList_putF {w : World} {ops : Array Oper} {rest : List Oper} {o : Oper} {a : Act} {Q : Exit → Act → World → Prop} (hg : o.guard = none) (m x y : Operand) (hop : o.op = Op.mapUpdate 55 m x y)
    (b : Nat) (f : ByteArray → Option Int) (hm : a.eval m = .map (some b)) (hown : MapF w b f) (key : ByteArray) (hx : a.eval x = .string key) (z : Int) (hy : a.eval y = .int .i64 z)
    (hK : ∀ w', MapF w' b (putF f key z) → w.grownBy w' (some b) → wpList Tryd.prog ops Q rest (a.put o.dst undef) w') : wpList Tryd.prog ops Q (o :: rest) a w := by
  refine wpList_plain hg fun K hK' => ?_
  obtain ⟨w', hrun, r1, r2⟩ := mapF_store hown key z
  unfold Oper.wp
  simp [execOp, hop, hm, hx, hy, hrun, Result.andThen]
  exact hK' _ _ (hK w' r1 r2)

/-- Was q met, ahead of this or among the first n pieces of s? -/
def metB (seen : ByteArray → Bool) (s : ByteArray) (n : Nat) (q : ByteArray) : Bool := seen q || Hog.metL q.data.toList s.data.toList n
theorem metB_step (seen : ByteArray → Bool) (s : ByteArray) {n : Nat} (hn : n + 8 ≤ s.size) (q : ByteArray) : metB seen s (n + 1) q = (metB seen s n q || decide (q = s.extract n (n + 8))) := by
  unfold metB
  rw [Hog.metL_step (by rw [← Hog.size_len]; exact hn), ← Bool.or_assoc]
  congr 1
  rw [Bool.eq_iff_iff, decide_eq_true_eq, decide_eq_true_eq, piece_mk, show n + 8 - n = 8 by omega]
  exact ⟨fun h => by rw [← h, Hog.data_mk], fun h => by rw [h, Hog.mk_data]⟩

set_option maxRecDepth 100000 in
set_option maxHeartbeats 1000000 in
theorem meet_ok (m b : Nat) (s : ByteArray) (keys seen : ByteArray → Bool) (w : World) (hs : s.size < 1000000) (hb : b < 1000000000000) (h : ∃ f, MapF w m f ∧ Tal keys seen b f) :
    Calls Tryd.prog 31 #[.map (some m), .string s] w fun e w' => e = .returned (.tuple #[]) ∧ (∃ f, MapF w' m f ∧ Tal keys (metB seen s (s.size + 1 - 8)) (b + s.size) f) ∧ w.grownBy w' (some m) := by
  have HF := hide h
  have hsi : (s.size : Int) < 1000000 := by omega
  clear h
  go_enter Tryd.func31, Tryd.ntmps31
  go_wp2
  go_loopw [4] (fun i wr => ∃ k : Nat, 8 ≤ k ∧ k ≤ s.size + 8 ∧ Hid (k = 8 ∨ k ≤ s.size + 1) ∧ i = .int .i64 k ∧ Hid (∃ f, MapF wr m f ∧ Tal keys (metB seen s (k - 8)) (b + (k - 8)) f) ∧ Hid (w.grownBy wr (some m))) (fun i _ => s.size + 8 - (intOf i).toNat)
  case atStart =>
    refine ⟨8, Nat.le_refl _, by omega, .inl rfl, rfl, ?_, grown_refl _ _⟩
    obtain ⟨f, h1, h2⟩ := HF.out
    exact ⟨f, h1, h2.more (fun q => by unfold metB; rw [Nat.sub_self, Hog.metL_zero, Bool.or_false]) (by omega)⟩
  case round =>
    obtain ⟨k, hk8, hk, hke, rfl, hex, hgr⟩ := hrel
    by_cases hlt : k ≤ s.size
    · obtain ⟨f, h1, h2⟩ := hex.out
      have hki : (k : Int) ≤ (s.size : Int) := by omega
      have hk8i : (8 : Int) ≤ (k : Int) := by omega
      have e8 : k - 8 + 8 = k := by omega
      have hst := metB_step seen s (n := k - 8) (by omega)
      rw [e8] at hst
      have HST := hide hst
      have HM := hide h1
      have HT := hide h2
      clear h1 h2 hex e8 hst
      cases hf : f (s.extract (k - 8) k) with
      | none =>
        have HN := hide hf
        have z1 : Hid (atF f (s.extract (k - 8) k) = 0) := by unfold atF; rw [hf]; exact hide rfl
        have z2 : Hid ((f (s.extract (k - 8) k)).isSome = false) := by rw [hf]; exact hide rfl
        clear hf
        go_wp2_with (at_lookup; refine wpList_lookF rfl _ _ rfl m f rfl HM.out (s.extract (k - 8) k) rfl 0 false z1.out z2.out ?_)
        go_roundw
        case rel =>
          refine ⟨k + 1, by omega, by omega, .inr (by omega), by go_num, ⟨f, HM.out, ?_⟩, hgr⟩
          rw [show k + 1 - 8 = k - 8 + 1 by omega]
          exact HT.out.miss HN.out HST.out
        case measure => simp [intOf]; omega
      | some y =>
        obtain ⟨z, rfl, hz⟩ := HT.out.some hf
        have hzi : (z : Int) ≤ 2000000000000 := by omega
        have hz0 : (0 : Int) ≤ (z : Int) := by omega
        have HN := hide hf
        have z1 : Hid (atF f (s.extract (k - 8) k) = (z : Int)) := by unfold atF; rw [hf]; exact hide rfl
        have z2 : Hid ((f (s.extract (k - 8) k)).isSome = true) := by rw [hf]; exact hide rfl
        clear hf
        go_wp2_with (first
          | (at_lookup; refine wpList_lookF rfl _ _ rfl m f rfl HM.out (s.extract (k - 8) k) rfl (z : Int) true z1.out z2.out ?_)
          | (at_mapUpdate; refine wpList_putF rfl _ _ _ rfl m f rfl HM.out (s.extract (k - 8) k) rfl ((z : Int) + 1) rfl ?_; intro w1 hm1 hg1; have HM1 := hide hm1; have HG1 := hide hg1; clear hm1 hg1)
          | go_in)
        go_roundw
        case rel =>
          refine ⟨k + 1, by omega, by omega, .inr (by omega), by go_num, ⟨_, HM1.out, ?_⟩, grown_trans hgr.out HG1.out⟩
          rw [show k + 1 - 8 = k - 8 + 1 by omega]
          exact HT.out.hit HN.out HST.out
        case measure => simp [intOf]; omega
    · have hki : (s.size : Int) < (k : Int) := by omega
      go_wp2
      go_end0
      refine ⟨rfl, ?_, hgr.out⟩
      obtain ⟨f, h1, h2⟩ := hex.out
      refine ⟨f, h1, h2.more (fun q => ?_) (by omega)⟩
      rw [show k - 8 = s.size + 1 - 8 by have := hke.out; omega]
end Go.Proofs.YtinjbijigjfdfaaDoor
