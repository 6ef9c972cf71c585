/- The walk of the document's own answer, chapter 5: Read. -/
import Derived.Test.YtlepahfbbdjdgaaDoorI4
import Derived.Test.YtlepahfbbdjdgaaDoorH3
namespace Go.Proofs.YtlepahfbbdjdgaaDoor
open Go.RowKit

theorem drop_len {l x r : List UInt8} {a : Nat} (h : l.drop a = x ++ r) : x.length ≤ l.length - a := by
  have := congrArg List.length h
  rw [List.length_drop, List.length_append] at this
  omega
theorem drop_more {l x r : List UInt8} {a : Nat} (h : l.drop a = x ++ r) : l.drop (a + x.length) = r := by
  rw [← List.drop_drop, h, List.drop_left]
theorem rN_lay {l r : List UInt8} {a : Nat} {n : Int} (hn : I64 n) (h : l.drop a = numL n ++ r) : rN l (a, false) = (n, (a + 8, false)) := by
  have hl := drop_len h
  rw [numL_len] at hl
  rw [rN_good (by simp only [Bool.false_eq_true, false_or]; omega)]
  have e : (l.drop a).take 8 = numL n := by rw [h, ← numL_len n, List.take_left]
  simp only []
  rw [e]
  unfold numL
  rw [val_bytes (bitsN_lt n), sign_bits hn]
theorem rT_lay {l x r : List UInt8} {a : Nat} (h : l.drop a = x ++ r) : rT l x.length (a, false) = (x, (a + x.length, false)) := by
  rw [rT_good rfl (drop_len h)]
  simp only []
  rw [h, List.take_left]
theorem rX_lay {l x r : List UInt8} {a : Nat} (hx : x.length < 9223372036854775808) (h : l.drop a = textL x ++ r) : rX l (a, false) = (x, (a + (textL x).length, false)) := by
  have h1 : l.drop a = numL x.length ++ (x ++ (zerosN (fillN x.length) ++ r)) := by rw [h]; unfold textL; simp
  have e1 := rN_lay (n := x.length) (by unfold I64; omega) h1
  have h2 : l.drop (a + 8) = x ++ (zerosN (fillN x.length) ++ r) := by have := drop_more h1; rwa [numL_len] at this
  have e2 := rT_lay h2
  have h3 : l.drop (a + 8 + x.length) = zerosN (fillN x.length) ++ r := drop_more h2
  have e3 := rT_lay h3
  rw [zerosN_len] at e3
  rw [rX_parts l _ _ _ _ _ e1 e2]
  have hlen : (textL x).length = 8 + x.length + fillN x.length := by unfold textL; rw [List.length_append, List.length_append, numL_len, zerosN_len]
  rw [hlen]
  by_cases h8 : (x.length : Int).tmod 8 = 0
  · rw [if_neg (by simp [h8])]
    have : fillN x.length = 0 := by rw [rem8] at h8; unfold fillN; omega
    rw [this]
    simp only [Prod.mk.injEq, true_and, and_true]
    omega
  · rw [if_pos ⟨rfl, h8⟩]
    have e8 : (8 : Int) - (x.length : Int).tmod 8 = (fillN x.length : Nat) := by rw [rem8] at h8 ⊢; unfold fillN; omega
    rw [e8, e3]
    simp only [Prod.mk.injEq, true_and, and_true]
    omega
theorem rX_len {l x : List UInt8} {s s' : FS} (h : rX l s = (x, s')) : x.length ≤ l.length := by
  obtain ⟨n, s1, h1⟩ : ∃ n s1, rN l s = (n, s1) := ⟨_, _, (Prod.eta _).symm⟩
  obtain ⟨y, s2, h2⟩ : ∃ x s2, rT l n s1 = (x, s2) := ⟨_, _, (Prod.eta _).symm⟩
  rw [rX_parts l s n s1 y s2 h1 h2] at h
  obtain ⟨rfl, _⟩ := Prod.mk.inj h
  unfold rT at h2
  split at h2
  · obtain ⟨rfl, _⟩ := Prod.mk.inj h2; simp
  · obtain ⟨rfl, _⟩ := Prod.mk.inj h2; simp; omega

/-- The bytes l are those of the nodes T. -/
def Tells (l : List UInt8) (T : List Nd) : Prop := (∀ n ∈ T, FitN n) ∧ T.length ≤ 400 ∧ l = layL T
theorem tells_of {l : List UInt8} (h : readB l = true) : ∃ T, Tells l T ∧ mayN T = true := by
  obtain ⟨a, b, c, d⟩ := readB_sound h
  exact ⟨_, ⟨b, c, d⟩, a⟩
theorem Tells.head {l : List UInt8} {T : List Nd} (h : Tells l T) : rX l (0, false) = (markL, (16, false)) ∧ rN l (16, false) = ((T.length : Int), (24, false)) := by
  obtain ⟨h1, h2, rfl⟩ := h
  have e : layL T = textL markL ++ (numL T.length ++ nodesL T) := by unfold layL headL; simp
  have k1 : (layL T).drop 0 = textL markL ++ (numL T.length ++ nodesL T) := by rw [List.drop_zero, e]
  have l16 : (textL markL).length = 16 := by rw [textL_len]; rfl
  refine ⟨?_, ?_⟩
  · have := rX_lay (by decide) k1
    rwa [l16] at this
  · have k2 := drop_more k1
    rw [l16] at k2
    exact rN_lay (by unfold I64; omega) k2
theorem Tells.at {l : List UInt8} {T : List Nd} (h : Tells l T) {k : Nat} {n : Nd} (hn : T[k]? = some n) : ∃ r, l.drop (24 + (nodesL (T.take k)).length) = nodeL n ++ r := by
  obtain ⟨h1, h2, rfl⟩ := h
  obtain ⟨hk, rfl⟩ := List.getElem?_eq_some_iff.1 hn
  refine ⟨nodesL (T.drop (k + 1)), ?_⟩
  have e : layL T = (headL T.length ++ nodesL (T.take k)) ++ (nodeL T[k] ++ nodesL (T.drop (k + 1))) := by
    unfold layL
    rw [List.append_assoc, ← nodesL_cons, ← List.drop_eq_getElem_cons hk, ← nodesL_app, List.take_append_drop]
  have hl : (headL T.length ++ nodesL (T.take k)).length = 24 + (nodesL (T.take k)).length := by rw [List.length_append, headL_len]
  rw [e, ← hl, List.drop_left]
/-- A node of it is read. -/
theorem Tells.node {l : List UInt8} {T : List Nd} (h : Tells l T) {k : Nat} {n : Nd} (hn : T[k]? = some n) {p : List UInt8} {s1 : FS} {kd : Int} {s2 : FS} {d : List UInt8} {s3 : FS}
    (e1 : rX l (24 + (nodesL (T.take k)).length, false) = (p, s1)) (e2 : rN l s1 = (kd, s2)) (e3 : rX l s2 = (d, s3)) :
    (Hog.mk p, kd, Hog.mk d) = n ∧ s3 = (24 + (nodesL (T.take (k + 1))).length, false) := by
  obtain ⟨r, hr⟩ := h.at hn
  obtain ⟨f1, f2, f3⟩ := h.1 n (List.mem_of_getElem? hn)
  rw [Hog.size_len] at f2 f3
  have k1 : l.drop (24 + (nodesL (T.take k)).length) = textL n.1.data.toList ++ (numL n.2.1 ++ (textL n.2.2.data.toList ++ r)) := by rw [hr]; unfold nodeL; simp
  have g1 := rX_lay f2 k1
  rw [e1] at g1
  obtain ⟨rfl, rfl⟩ := Prod.mk.inj g1
  have k2 := drop_more k1
  have g2 := rN_lay f1 k2
  rw [e2] at g2
  obtain ⟨rfl, rfl⟩ := Prod.mk.inj g2
  have k3 := drop_more k2
  rw [numL_len] at k3
  have g3 := rX_lay f3 k3
  rw [e3] at g3
  obtain ⟨rfl, rfl⟩ := Prod.mk.inj g3
  refine ⟨by rw [Hog.data_mk, Hog.data_mk], ?_⟩
  rw [nodesL_step hn, List.length_append]
  have hl : (nodeL n).length = (textL n.1.data.toList).length + 8 + (textL n.2.2.data.toList).length := by unfold nodeL; rw [List.length_append, List.length_append, numL_len]
  rw [hl]
  simp only [Prod.mk.injEq, and_true]
  omega
end Go.Proofs.YtlepahfbbdjdgaaDoor
