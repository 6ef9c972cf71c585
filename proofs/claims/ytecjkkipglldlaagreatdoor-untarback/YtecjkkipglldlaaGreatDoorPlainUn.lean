/- Reading a tar, plainly: entries, nodes, trees; a tar is of one tree alone. Nothing here names the program. -/
import Derived.Test.YtecjkkipglldlaaGreatDoorPlainUt
namespace Go.Proofs.YtecjkkipglldlaaGreatDoor.Hog
open Go

/-- What is read of an entry: its header's name, kind and link, its bytes; whether it is one; what stands behind. -/
structure EntU where
  name : List UInt8
  kind : Int
  link : List UInt8
  data : List UInt8
  ok : Bool
  rest : List UInt8
/-- How many bytes n are, filled up. -/
def fullN (n : Nat) : Nat := (n + 511) / 512 * 512
/-- Behind a header. -/
def restU (l : List UInt8) : List UInt8 := if 512 ≤ l.length then l.drop (min 512 l.length) else l
def headU (l : List UInt8) : List UInt8 := if 512 ≤ l.length then l.take 512 else []
def bodyU (l : List UInt8) : Option (List UInt8 × Int × Int × List UInt8) → EntU
  | none => ⟨[], 0, [], [], false, restU l⟩
  | some (nm, k, sz, lk) => if sz.toNat ≤ (restU l).length then ⟨nm, k, lk, (restU l).take sz.toNat, true, (restU l).drop (min (fullN sz.toNat) (restU l).length)⟩ else ⟨nm, k, lk, [], false, restU l⟩
def entU (l : List UInt8) : EntU := bodyU l (readH (headU l))
/-- The node of an entry. -/
def nodeE (nm : List UInt8) (k : Int) (lk d : List UInt8) : Nd := (mk (if nm = [46] then [] else nm), k, mk (if k = 4 then lk else d))
/-- What is read of a node: the node, whether it is one, what stands behind. -/
def nodeU (l : List UInt8) : Nd × Bool × List UInt8 :=
  if (entU l).ok = true ∧ (entU l).kind = 5 then
    (nodeE (amendF (entU l).data.length (entU l).data ((entU (entU l).rest).name, (entU (entU l).rest).link)).1 (entU (entU l).rest).kind
      (amendF (entU l).data.length (entU l).data ((entU (entU l).rest).name, (entU (entU l).rest).link)).2 (entU (entU l).rest).data, (entU (entU l).rest).ok, (entU (entU l).rest).rest)
  else (nodeE (entU l).name (entU l).kind (entU l).link (entU l).data, (entU l).ok, (entU l).rest)
def nodesF : Nat → List UInt8 → List Nd
  | 0, _ => []
  | f + 1, l => if (nodeU l).2.1 = true then (nodeU l).1 :: nodesF f (nodeU l).2.2 else []

theorem ent_here {e : EntL} (hf : Fits e) (R : List UInt8) : entU (entL e ++ R) = ⟨e.name.take 100, e.kind, e.link.take 100, e.data, true, R⟩ := by
  have hh := headE_len hf
  have e1 : entL e ++ R = headE e ++ (e.data ++ (zeros (fillN e.data.length) ++ R)) := by unfold entL; simp
  have hl : 512 ≤ (entL e ++ R).length := by rw [e1, List.length_append, hh]; omega
  have er : restU (entL e ++ R) = e.data ++ (zeros (fillN e.data.length) ++ R) := by
    unfold restU
    rw [if_pos hl, Nat.min_eq_left hl, e1, List.drop_left' hh]
  have eh : headU (entL e ++ R) = headE e := by
    unfold headU
    rw [if_pos hl, e1, List.take_left' hh]
  unfold entU
  rw [eh, show readH (headE e) = some (e.name.take 100, e.kind, (e.data.length : Int), e.link.take 100) from read_head hf.may]
  unfold bodyU
  simp only []
  rw [er, Int.toNat_natCast, if_pos (by rw [List.length_append]; omega), List.take_left' rfl]
  have hm : min (fullN e.data.length) (e.data ++ (zeros (fillN e.data.length) ++ R)).length = (e.data ++ zeros (fillN e.data.length)).length := by
    have := fillN_add e.data.length
    unfold fullN
    simp only [List.length_append, zeros_len]
    omega
  rw [hm, ← List.append_assoc, List.drop_left' rfl]
theorem ent_end (R : List UInt8) : (entU (zeros 1024 ++ R)).ok = false := by
  have e1 : zeros 1024 ++ R = zeros 512 ++ (zeros 512 ++ R) := by rw [← List.append_assoc]; unfold zeros; rw [List.replicate_append_replicate]
  have hl : 512 ≤ (zeros 1024 ++ R).length := by rw [List.length_append, zeros_len]; omega
  have eh : headU (zeros 1024 ++ R) = zeros 512 := by
    unfold headU
    rw [if_pos hl, e1, List.take_left' (zeros_len 512)]
  have er : readH (zeros 512) = none := by
    cases h : readH (zeros 512) with
    | none => rfl
    | some q =>
      exfalso
      obtain ⟨nm, k, sz, lk⟩ := q
      obtain ⟨h1, h2⟩ := read_sound h
      have h3 := head_name h1
      rw [h2] at h3
      refine h1.some ?_
      rw [← h3]
      unfold nameF zeros
      rw [List.take_replicate, show min 100 512 = 99 + 1 from rfl, List.replicate_succ, List.takeWhile_cons]
      rfl
  unfold entU
  rw [eh, er]
  rfl
theorem nodeE_back {n : Nd} (hd : n.1.data.toList ≠ [46]) : nodeE (entE n).name (entE n).kind (entE n).link (entE n).data = n := by
  have e1 : mk (if (entE n).name = [46] then [] else (entE n).name) = n.1 := by
    unfold entE
    simp only []
    by_cases h : n.1.data.toList = []
    · rw [if_pos h, if_pos rfl, ← h, data_mk]
    · rw [if_neg h, if_neg hd, data_mk]
  have e2 : mk (if (entE n).kind = 4 then (entE n).link else (entE n).data) = n.2.2 := by
    unfold entE
    simp only []
    by_cases h : n.2.1 = 4
    · rw [if_pos h, if_pos h, data_mk]
    · rw [if_neg h, if_neg h, data_mk]
  unfold nodeE
  rw [e1, e2]
  rfl
theorem recs_nil {e : EntL} (h : recsE e = []) : e.name.length ≤ 100 ∧ e.link.length ≤ 100 := by
  unfold recsE at h
  rw [List.append_eq_nil_iff] at h
  obtain ⟨h1, h2⟩ := h
  constructor
  · rcases oneR_or pathK e.name with ⟨a, _⟩ | ⟨_, b⟩
    · exact a
    · rw [b] at h1; exact absurd h1 (rec_ne _ _)
  · rcases oneR_or linkK e.link with ⟨a, _⟩ | ⟨_, b⟩
    · exact a
    · rw [b] at h2; exact absurd h2 (rec_ne _ _)
theorem node_here {n : Nd} (h : NodeG n) (hd : n.1.data.toList ≠ [46]) (R : List UInt8) : nodeU (nodeT n ++ R) = (n, true, R) := by
  have hf := entE_fits h
  by_cases hr : recsE (entE n) = []
  · rw [nodeT_one hr]
    obtain ⟨h1, h2⟩ := recs_nil hr
    have hk : (entE n).kind ≠ 5 := by show n.2.1 ≠ 5; rcases h.kind with k | k | k | k <;> omega
    unfold nodeU
    rw [ent_here hf R]
    simp only []
    rw [if_neg (fun h => hk h.2), take_all h1, take_all h2, nodeE_back hd]
  · have hp := paxE_fits (recsE_len hf)
    rw [nodeT_two hr, List.append_assoc]
    unfold nodeU
    rw [ent_here hp, if_pos ⟨rfl, rfl⟩]
    simp only []
    rw [ent_here hf R]
    simp only []
    rw [show (paxE (recsE (entE n))).data = recsE (entE n) from rfl, amendF_recs hf (Nat.le_refl _), nodeE_back hd]
theorem node_end (R : List UInt8) : (nodeU (zeros 1024 ++ R)).2.1 = false := by
  have h0 := ent_end R
  generalize zeros 1024 ++ R = q at h0 ⊢
  unfold nodeU
  rw [if_neg (fun h => by rw [h0] at h; cases h.1)]
  exact h0
theorem path_dot {t : List Nd} (h : mayN t = true) : ∀ n ∈ t, n.1.data.toList ≠ [46] := by
  intro n hn e
  have hg := (may_tree h).good n hn
  unfold goodB at hg
  rw [Bool.and_eq_true] at hg
  have h1 := hg.1
  rw [e] at h1
  revert h1
  decide
theorem nodesF_tree (R : List UInt8) : ∀ (t : List Nd) (f : Nat), (∀ n ∈ t, NodeG n ∧ n.1.data.toList ≠ [46]) → t.length ≤ f → nodesF f (treeT t ++ (zeros 1024 ++ R)) = t
  | [], f, _, _ => by
    cases f with
    | zero => rfl
    | succ f =>
      have h0 := node_end R
      generalize zeros 1024 ++ R = q at h0 ⊢
      rw [show treeT [] = [] from rfl, List.nil_append, nodesF, if_neg (by rw [h0]; decide)]
  | n :: t, f, h, hl => by
    obtain ⟨g, rfl⟩ : ∃ g, f = g + 1 := ⟨f - 1, by rw [List.length_cons] at hl; omega⟩
    have hn := h n (by simp)
    have e : treeT (n :: t) ++ (zeros 1024 ++ R) = nodeT n ++ (treeT t ++ (zeros 1024 ++ R)) := by unfold treeT; rw [List.flatMap_cons, List.append_assoc]
    rw [e, nodesF, node_here hn.1 hn.2, if_pos rfl, nodesF_tree R t g (fun m hm => h m (List.mem_cons_of_mem _ hm)) (by rw [List.length_cons] at hl; omega)]
/-- What was laid is read, whatever stands behind. -/
theorem nodesF_tar {t : List Nd} (h : mayN t = true) (R : List UInt8) : nodesF 400 (tarL t ++ R) = t := by
  unfold tarL
  rw [List.append_assoc]
  exact nodesF_tree R t 400 (fun n hn => ⟨tree_node h n hn, path_dot h n hn⟩) (tree_len h)
/-- A tar is no other tree's, and none begins with another one. -/
theorem tar_free {t u : List Nd} (ht : mayN t = true) (hu : mayN u = true) {x y : List UInt8} (h : tarL t ++ x = tarL u ++ y) : t = u := by
  rw [← nodesF_tar ht x, h, nodesF_tar hu y]
theorem tar_one {t u : List Nd} (ht : mayN t = true) (hu : mayN u = true) (h : tarL t = tarL u) : t = u := tar_free ht hu (x := []) (y := []) (by rw [h])

/-- T is the tree whose tar l is, and e tells nothing; or l is no tree's, and e tells so. -/
def TarIs (l : List UInt8) (T : List Nd) (e : Int) : Prop := (e = 0 ∧ mayN T = true ∧ tarL T = l) ∨ (e = 5 ∧ T = [] ∧ ∀ t, mayN t = true → tarL t ≠ l)
theorem TarIs.one {l : List UInt8} {T U : List Nd} {e f : Int} (h : TarIs l T e) (k : TarIs l U f) : T = U ∧ e = f := by
  rcases h with ⟨rfl, h1, h2⟩ | ⟨rfl, rfl, h2⟩ <;> rcases k with ⟨rfl, k1, k2⟩ | ⟨rfl, rfl, k2⟩
  · exact ⟨tar_one h1 k1 (by rw [h2, k2]), rfl⟩
  · exact absurd h2 (k2 T h1)
  · exact absurd k2 (h2 U k1)
  · exact ⟨rfl, rfl⟩
theorem TarIs.read {l : List UInt8} {T : List Nd} (h : nodesF 400 l = T) {b : Bool} (hb : mayN T = b) :
    (b = true → tarL T = l → TarIs l T 0) ∧ (b = false → TarIs l [] 5) ∧ (tarL T ≠ l → TarIs l [] 5) := by
  have key : ∀ t, mayN t = true → tarL t = l → t = T := fun t ht e => by
    have := nodesF_tar ht []
    rw [List.append_nil, e, h] at this
    exact this.symm
  refine ⟨fun h1 h2 => .inl ⟨rfl, by rw [hb, h1], h2⟩, fun h1 => .inr ⟨rfl, rfl, fun t ht e => ?_⟩, fun h1 => .inr ⟨rfl, rfl, fun t ht e => ?_⟩⟩
  · have := key t ht e
    rw [this, hb, h1] at ht
    cases ht
  · have := key t ht e
    rw [this] at e
    exact h1 e

theorem restU_le (l : List UInt8) : (restU l).length ≤ l.length := by unfold restU; split <;> simp
theorem bodyU_le (l : List UInt8) (r : Option (List UInt8 × Int × Int × List UInt8)) (hr : readH (headU l) = r) : (bodyU l r).name.length ≤ l.length ∧ (bodyU l r).link.length ≤ l.length ∧ (bodyU l r).data.length ≤ l.length ∧ (bodyU l r).rest.length ≤ l.length := by
  have h0 := restU_le l
  cases r with
  | none => exact ⟨Nat.zero_le _, Nat.zero_le _, Nat.zero_le _, h0⟩
  | some q =>
    obtain ⟨nm, k, sz, lk⟩ := q
    obtain ⟨h1, h2⟩ := read_sound hr
    have h3 := head_len h1
    rw [h2] at h3
    have h4 : 512 ≤ l.length := by
      unfold headU at h3
      split at h3
      · assumption
      · cases h3
    have h5 := (fillB_of h1.name).1
    have h6 := (fillB_of h1.link).1
    unfold bodyU
    simp only []
    split
    · refine ⟨by show nm.length ≤ _; omega, by show lk.length ≤ _; omega, ?_, ?_⟩
      · show ((restU l).take sz.toNat).length ≤ _
        rw [List.length_take]; omega
      · show ((restU l).drop _).length ≤ _
        rw [List.length_drop]; omega
    · exact ⟨by show nm.length ≤ _; omega, by show lk.length ≤ _; omega, Nat.zero_le _, h0⟩
theorem entU_le (l : List UInt8) : (entU l).name.length ≤ l.length ∧ (entU l).link.length ≤ l.length ∧ (entU l).data.length ≤ l.length ∧ (entU l).rest.length ≤ l.length := bodyU_le l _ rfl
theorem nodeE_le {nm lk d : List UInt8} {k : Int} {M : Nat} (h1 : nm.length ≤ M) (h2 : lk.length ≤ M) (h3 : d.length ≤ M) : (nodeE nm k lk d).1.size ≤ M ∧ (nodeE nm k lk d).2.2.size ≤ M := by
  unfold nodeE
  constructor
  · rw [mk_size]; split
    · exact Nat.zero_le _
    · exact h1
  · rw [mk_size]; split
    · exact h2
    · exact h3
theorem nodeU_le (l : List UInt8) : (nodeU l).1.1.size ≤ l.length ∧ (nodeU l).1.2.2.size ≤ l.length ∧ (nodeU l).2.2.length ≤ l.length := by
  obtain ⟨a1, a2, a3, a4⟩ := entU_le l
  obtain ⟨b1, b2, b3, b4⟩ := entU_le (entU l).rest
  unfold nodeU
  split
  · have hm := amendF_le (M := l.length) (entU l).data.length (entU l).data ((entU (entU l).rest).name, (entU (entU l).rest).link) a3 ⟨by simp only []; omega, by simp only []; omega⟩
    obtain ⟨c1, c2⟩ := nodeE_le (k := (entU (entU l).rest).kind) hm.1 hm.2 (show (entU (entU l).rest).data.length ≤ l.length by omega)
    exact ⟨c1, c2, by simp only []; omega⟩
  · obtain ⟨c1, c2⟩ := nodeE_le (k := (entU l).kind) a1 a2 a3
    exact ⟨c1, c2, a4⟩
theorem nodesF_le : ∀ (f : Nat) (l : List UInt8), (nodesF f l).length ≤ f ∧ ∀ n ∈ nodesF f l, n.1.size ≤ l.length ∧ n.2.2.size ≤ l.length
  | 0, l => ⟨by simp [nodesF], fun n hn => by simp [nodesF] at hn⟩
  | f + 1, l => by
    obtain ⟨a1, a2, a3⟩ := nodeU_le l
    rw [nodesF]
    split
    · obtain ⟨b1, b2⟩ := nodesF_le f (nodeU l).2.2
      refine ⟨by rw [List.length_cons]; omega, fun n hn => ?_⟩
      rcases List.mem_cons.1 hn with rfl | hn
      · exact ⟨a1, a2⟩
      · have := b2 n hn
        omega
    · exact ⟨by simp, fun n hn => by cases hn⟩
end Go.Proofs.YtecjkkipglldlaaGreatDoor.Hog
