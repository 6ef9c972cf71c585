/- Texts that stand together, joined: PlainJ, PlainTar, PlainDec, PlainUt, PlainUn, PlainUr, PlainUs. -/
import Derived.Test.YtecjkkipglldlaaGreatDoorPlainE
import Derived.Test.YtecjkkipglldlaaGreatDoorPlainF
import Derived.Lib.ItoaNum
import Derived.Lib.AtoiAllCases
import Derived.Lib.IndexMore
import Derived.Lib.IndexLaws
/- Tars, plainly: records, entries, what a tree's nodes come to. Nothing here names the program. -/
namespace Go.Proofs.YtecjkkipglldlaaGreatDoor.Hog
open Go

def decL (n : Nat) : List UInt8 := Lib.decDigits n
theorem decL_len (n : Nat) : (decL n).length = Lib.nDigits n := Lib.decDigits_length n
theorem decL_one {n : Nat} (h : n < 10) : decL n = [UInt8.ofNat (48 + n)] := Lib.decDigits_one h
theorem decL_more {n : Nat} (h : ¬ n < 10) : decL n = decL (n / 10) ++ [UInt8.ofNat (48 + n % 10)] := by unfold decL; rw [Lib.decDigits, dif_neg h]
theorem nDigits_mono : ∀ {a b : Nat}, a ≤ b → Lib.nDigits a ≤ Lib.nDigits b := by
  intro a
  induction a using Nat.strongRecOn with
  | _ a ih =>
    intro b h
    by_cases ha : a < 10
    · rw [Lib.nDigits_small ha]; exact Lib.nDigits_pos b
    · rw [Lib.nDigits_big ha, Lib.nDigits_big (u := b) (by omega)]
      have := ih (a / 10) (by omega) (b := b / 10) (by omega)
      omega
theorem nDigits_le {n k : Nat} (h : n < 10 ^ (k + 1)) : Lib.nDigits n ≤ k + 1 := by
  induction k generalizing n with
  | zero => rw [Lib.nDigits_small (by simpa using h)]; exact Nat.le_refl _
  | succ k ih =>
    by_cases h1 : n < 10
    · rw [Lib.nDigits_small h1]; omega
    · rw [Lib.nDigits_big h1]
      have := ih (n := n / 10) (by rw [Nat.pow_succ] at h; omega)
      omega

/-- D is the least count of digits that counts itself right. -/
structure IsDig (r D : Nat) : Prop where
  pos : 1 ≤ D
  small : D ≤ 8
  right : Lib.nDigits (r + D) = D
  least : ∀ j, 1 ≤ j → j < D → Lib.nDigits (r + j) ≠ j
def digF (r : Nat) : Nat → Nat → Nat
  | 0, d => d
  | f + 1, d => if Lib.nDigits (r + d) = d then d else digF r f (d + 1)
def digR (r : Nat) : Nat := digF r 8 1
theorem digF_is {r : Nat} (hr : Lib.nDigits (r + 8) ≤ 8) : ∀ f d, 1 ≤ d → d + f = 9 → d ≤ Lib.nDigits (r + d) → (∀ j, 1 ≤ j → j < d → Lib.nDigits (r + j) ≠ j) → d ≤ 8 → IsDig r (digF r f d) := by
  intro f
  induction f with
  | zero => intro d h1 h2 _ _ h5; omega
  | succ f ih =>
    intro d h1 h2 h3 h4 h5
    rw [digF]
    split
    · rename_i h; exact ⟨h1, h5, h, h4⟩
    · rename_i h
      have h8 : d ≠ 8 := fun e => by subst e; omega
      have hm := nDigits_mono (show r + d ≤ r + (d + 1) by omega)
      refine ih (d + 1) (by omega) (by omega) (by omega) (fun j hj1 hj2 => ?_) (by omega)
      by_cases hjd : j = d
      · subst hjd; exact h
      · exact h4 j hj1 (by omega)
theorem digR_is {r : Nat} (hr : r < 10000000) : IsDig r (digR r) :=
  digF_is (nDigits_le (k := 7) (by omega)) 8 1 (by omega) (by omega) (Lib.nDigits_pos _) (fun j h1 h2 => by omega) (by omega)
theorem IsDig.one {r D E : Nat} (h : IsDig r D) (k : IsDig r E) : D = E := by
  rcases Nat.lt_trichotomy D E with h1 | h1 | h1
  · exact absurd h.right (k.least D h.pos h1)
  · exact h1
  · exact absurd k.right (h.least E k.pos h1)

/-- What stands behind a record's digits. -/
def restL (k v : List UInt8) : List UInt8 := [32] ++ k ++ [61] ++ v ++ [10]
theorem restL_len (k v : List UInt8) : (restL k v).length = k.length + v.length + 3 := by unfold restL; simp; omega
def recN (k v : List UInt8) : Nat := (restL k v).length + digR (restL k v).length
def recL (k v : List UInt8) : List UInt8 := decL (recN k v) ++ restL k v
theorem recL_len {k v : List UInt8} (h : k.length + v.length < 1000000) : (recL k v).length = recN k v := by
  have hd := digR_is (r := (restL k v).length) (by rw [restL_len]; omega)
  unfold recL
  rw [List.length_append, decL_len]
  unfold recN at *
  rw [hd.right]; omega
theorem recN_le {k v : List UInt8} (h : k.length + v.length < 1000000) : recN k v ≤ k.length + v.length + 11 := by
  have hd := digR_is (r := (restL k v).length) (by rw [restL_len]; omega)
  have := hd.small
  unfold recN
  rw [restL_len] at *; omega
/-- A record of fewer than 1,000 bytes has fewer than four digits. -/
theorem digR_small {r : Nat} (h : r < 990) : digR r ≤ 3 := by
  have hd := digR_is (r := r) (by omega)
  have h1 := nDigits_le (n := r + 8) (k := 2) (by omega)
  have h2 := nDigits_mono (show r + digR r ≤ r + 8 by have := hd.small; omega)
  rw [hd.right] at h2; omega

/-- An entry: its name, its kind, where it goes, its bytes. -/
structure EntL where
  name : List UInt8
  kind : Int
  link : List UInt8
  data : List UInt8
def pathK : List UInt8 := [112, 97, 116, 104]
def linkK : List UInt8 := [108, 105, 110, 107, 112, 97, 116, 104]
def paxN : List UInt8 := [112, 97, 120]
def entE (n : Nd) : EntL := ⟨if n.1.data.toList = [] then [46] else n.1.data.toList, n.2.1, if n.2.1 = 4 then n.2.2.data.toList else [], if n.2.1 = 4 then [] else n.2.2.data.toList⟩
def oneR (k v : List UInt8) : List UInt8 := if v.length ≤ 100 then [] else recL k v
def recsE (e : EntL) : List UInt8 := oneR pathK e.name ++ oneR linkK e.link
def paxE (m : List UInt8) : EntL := ⟨paxN, 5, [], m⟩
def entsN (n : Nd) : List EntL := if recsE (entE n) = [] then [entE n] else [paxE (recsE (entE n)), entE n]
def fillN (k : Nat) : Nat := (512 - k % 512) % 512
def zeros (k : Nat) : List UInt8 := List.replicate k 0
def headE (e : EntL) : List UInt8 := headH (e.name.take 100) e.kind e.data.length (e.link.take 100)
def entL (e : EntL) : List UInt8 := headE e ++ (e.data ++ zeros (fillN e.data.length))
def nodeT (n : Nd) : List UInt8 := (entsN n).flatMap entL
def treeT (t : List Nd) : List UInt8 := t.flatMap nodeT
def tarL (t : List Nd) : List UInt8 := treeT t ++ zeros 1024
def countT (t : List Nd) : Nat := (t.map fun n => (entsN n).length).sum

/-- An entry that has a header. -/
structure Fits (e : EntL) : Prop where
  may : May (e.name.take 100) e.kind e.data.length (e.link.take 100)
  name : e.name.length ≤ 300
  link : e.link.length ≤ 500
  data : e.data.length ≤ 1000
theorem fillN_lt (k : Nat) : fillN k < 512 := Nat.mod_lt _ (by decide)
theorem fillN_add (k : Nat) : k + fillN k = (k + 511) / 512 * 512 := by unfold fillN; omega
theorem fillN_mod (k : Nat) : (k + fillN k) % 512 = 0 := by rw [fillN_add]; omega
theorem headE_len {e : EntL} (h : Fits e) : (headE e).length = 512 := head_len h.may
theorem entL_len {e : EntL} (h : Fits e) : (entL e).length = 512 + (e.data.length + 511) / 512 * 512 := by
  unfold entL
  rw [List.length_append, headE_len h, List.length_append, zeros, List.length_replicate, fillN_add]
theorem cut_mem : ∀ (p : List UInt8) (c : UInt8), c ∈ p → c = 47 ∨ ∃ x ∈ cutL p, c ∈ x
  | d :: r, c, h => by
    by_cases hd : d = 47
    · subst hd
      rcases List.mem_cons.1 h with rfl | h
      · exact .inl rfl
      · rcases cut_mem r c h with h | ⟨x, hx, hc⟩
        · exact .inl h
        · exact .inr ⟨x, by rw [cut_stroke]; exact List.mem_cons_of_mem _ hx, hc⟩
    · obtain ⟨u, t, e⟩ : ∃ u t, cutL r = u :: t := by
        cases e : cutL r with
        | nil => exact absurd e (cut_ne r)
        | cons u t => exact ⟨u, t, rfl⟩
      rw [cut_other d r u t hd e]
      rcases List.mem_cons.1 h with rfl | h
      · exact .inr ⟨_, List.mem_cons_self, List.mem_cons_self⟩
      · rcases cut_mem r c h with h | ⟨x, hx, hc⟩
        · exact .inl h
        · rw [e] at hx
          rcases List.mem_cons.1 hx with rfl | hx
          · exact .inr ⟨_, List.mem_cons_self, List.mem_cons_of_mem _ hc⟩
          · exact .inr ⟨x, List.mem_cons_of_mem _ hx, hc⟩
theorem may_zero {p : List UInt8} (h : mayL p = true) : (0 : UInt8) ∉ p := by
  intro h0
  have hne : p ≠ [] := fun e => by rw [e] at h0; cases h0
  have h2 := (may_parts h).2.2
  unfold cutC at h2
  rw [if_neg hne] at h2
  rcases cut_mem p 0 h0 with e | ⟨x, hx, hc⟩
  · cases e
  · exact (part_parts (List.all_eq_true.1 h2 x hx)).2.2.2 hc
/-- What a good node is. -/
structure NodeG (n : Nd) : Prop where
  path : n.1.data.toList.length ≤ 200
  free : (0 : UInt8) ∉ n.1.data.toList
  kind : n.2.1 = 1 ∨ n.2.1 = 2 ∨ n.2.1 = 3 ∨ n.2.1 = 4
  data : n.2.2.data.toList.length ≤ 400
  dir : n.2.1 = 1 → n.2.2.data.toList = []
  link : n.2.1 = 4 → n.2.2.data.toList ≠ [] ∧ (0 : UInt8) ∉ n.2.2.data.toList
theorem good_node {n : Nd} (h : goodB n = true) : NodeG n := by
  unfold goodB ruleB at h
  rw [Bool.and_eq_true] at h
  obtain ⟨h1, h2⟩ := h
  have hs : ∀ d : ByteArray, dataShort d = true → d.data.toList.length ≤ 400 := fun d hd => by unfold dataShort at hd; rw [decide_eq_true_eq, Hog.size_len] at hd; exact hd
  by_cases k1 : n.2.1 = 1
  · rw [if_pos k1, dataEmpty_iff] at h2
    exact ⟨(may_parts h1).1, may_zero h1, .inl k1, by rw [h2]; decide, fun _ => h2, fun e => by omega⟩
  rw [if_neg k1] at h2
  by_cases k2 : n.2.1 = 2 ∨ n.2.1 = 3
  · rw [if_pos k2] at h2
    exact ⟨(may_parts h1).1, may_zero h1, by omega, hs _ h2, fun e => by omega, fun e => by omega⟩
  rw [if_neg k2] at h2
  by_cases k4 : n.2.1 = 4
  · rw [if_pos k4] at h2
    unfold dataLink dataFree at h2
    simp only [Bool.and_eq_true, Bool.not_eq_true', decide_eq_true_eq] at h2
    refine ⟨(may_parts h1).1, may_zero h1, by omega, hs _ h2.1.2, fun e => by omega, fun _ => ⟨fun e => ?_, h2.2⟩⟩
    rw [(dataEmpty_iff _).2 e] at h2
    exact absurd h2.1.1 (by decide)
  · rw [if_neg k4] at h2; cases h2
theorem tree_node {t : List Nd} (h : mayN t = true) : ∀ n ∈ t, NodeG n := fun n hn => good_node ((may_tree h).good n hn)
theorem tree_len {t : List Nd} (h : mayN t = true) : t.length ≤ 400 := (may_tree h).len

theorem fill_take {l : List UInt8} (h : (0 : UInt8) ∉ l) : fillB (l.take 100) = true := by
  unfold fillB
  rw [decide_eq_true (show (l.take 100).length ≤ 100 by rw [List.length_take]; omega), decide_eq_true (show ¬ (0 : UInt8) ∈ l.take 100 from fun hm => h (List.mem_of_mem_take hm))]; rfl
theorem octR_size {n : Nat} (h : n < 8589934592) : octR n 11 = true := by
  unfold octR
  rw [decide_eq_true_eq]
  refine ⟨by omega, by omega, by omega, ?_⟩
  rw [Int.toNat_natCast]
  have : 8 ^ (11 : Int).toNat = 8589934592 := by decide
  omega
theorem entE_fits {n : Nd} (h : NodeG n) : Fits (entE n) := by
  have hname : (entE n).name ≠ [] ∧ (0 : UInt8) ∉ (entE n).name ∧ (entE n).name.length ≤ 200 := by
    unfold entE
    by_cases e : n.1.data.toList = []
    · simp only [e, if_true]; decide
    · simp only [if_neg e]; exact ⟨e, h.free, h.path⟩
  have hdata : (entE n).data.length ≤ 400 := by
    unfold entE
    simp only
    split
    · decide
    · exact h.data
  have hlink : (0 : UInt8) ∉ (entE n).link ∧ (entE n).link.length ≤ 400 := by
    unfold entE
    simp only
    split
    · rename_i e; exact ⟨(h.link e).2, h.data⟩
    · exact ⟨by decide, by decide⟩
  refine ⟨⟨octR_size (by omega), ?_, fill_take hname.2.1, fill_take hlink.1, ?_⟩, by omega, by omega, by omega⟩
  · intro e
    rw [List.take_eq_nil_iff] at e
    rcases e with e | e
    · omega
    · exact hname.1 e
  · unfold mayK
    rw [decide_eq_true_eq]
    by_cases k4 : n.2.1 = 4
    · refine .inr (.inl ⟨k4, ?_, ?_⟩)
      · unfold entE; simp only [k4, if_true]; rfl
      · unfold entE
        simp only [k4, if_true]
        intro e
        rw [List.take_eq_nil_iff] at e
        rcases e with e | e
        · omega
        · exact (h.link k4).1 e
    · have el : (entE n).link.take 100 = [] := by unfold entE; simp only [if_neg k4]; rfl
      have ed : (entE n).data = n.2.2.data.toList := by unfold entE; simp only [if_neg k4]
      have ek : (entE n).kind = n.2.1 := rfl
      rcases h.kind with k | k | k | k
      · exact .inl ⟨by rw [ek]; exact k, by rw [ed, h.dir k]; rfl, el⟩
      · exact .inr (.inr ⟨.inl (by rw [ek]; exact k), el⟩)
      · exact .inr (.inr ⟨.inr (.inl (by rw [ek]; exact k)), el⟩)
      · exact absurd k k4
theorem oneR_len {k v : List UInt8} (hk : k.length ≤ 10) (hv : v.length ≤ 500) : (oneR k v).length ≤ v.length + 16 := by
  unfold oneR
  split
  · simp
  · rw [recL_len (by omega)]
    have h3 := digR_small (r := (restL k v).length) (by rw [restL_len]; omega)
    unfold recN
    rw [restL_len] at *; omega
theorem recsE_len {e : EntL} (h : Fits e) : (recsE e).length ≤ 832 := by
  unfold recsE
  rw [List.length_append]
  have := oneR_len (k := pathK) (v := e.name) (by decide) (by have := h.name; omega)
  have := oneR_len (k := linkK) (v := e.link) (by decide) h.link
  have := h.name
  have := h.link
  omega
theorem paxE_fits {m : List UInt8} (h : m.length ≤ 832) : Fits (paxE m) :=
  ⟨⟨octR_size (by show m.length < _; omega), show paxN.take 100 ≠ [] by decide, show fillB (paxN.take 100) = true by decide, show fillB (([] : List UInt8).take 100) = true by decide, by unfold mayK; rw [decide_eq_true_eq]; exact .inr (.inr ⟨.inr (.inr rfl), rfl⟩)⟩, by show (3 : Nat) ≤ 300; decide, by show (0 : Nat) ≤ 500; decide, by show m.length ≤ 1000; omega⟩
theorem entsN_fits {n : Nd} (h : NodeG n) : ∀ e ∈ entsN n, Fits e := by
  intro e he
  have hf := entE_fits h
  unfold entsN at he
  split at he
  · rw [List.mem_singleton] at he; subst he; exact hf
  · rcases List.mem_cons.1 he with rfl | he
    · exact paxE_fits (recsE_len hf)
    · rw [List.mem_singleton] at he; subst he; exact hf
theorem entL_le {e : EntL} (h : Fits e) : (entL e).length ≤ 1536 := by rw [entL_len h]; have := h.data; omega
theorem flat_le {B : Nat} {α : Type} (f : α → List UInt8) : ∀ (l : List α), (∀ x ∈ l, (f x).length ≤ B) → (l.flatMap f).length ≤ l.length * B
  | [], _ => by simp
  | x :: l, h => by
    have h1 := h x (by simp)
    have h2 := flat_le f l (fun y hy => h y (List.mem_cons_of_mem _ hy))
    rw [List.flatMap_cons, List.length_append, List.length_cons, Nat.add_mul]
    omega
theorem entsN_len (n : Nd) : 1 ≤ (entsN n).length ∧ (entsN n).length ≤ 2 := by unfold entsN; split <;> simp
theorem nodeT_le {n : Nd} (h : NodeG n) : (nodeT n).length ≤ 3072 := by
  have := flat_le (B := 1536) entL (entsN n) (fun e he => entL_le (entsN_fits h e he))
  have h2 := (entsN_len n).2
  unfold nodeT
  have : (entsN n).length * 1536 ≤ 2 * 1536 := Nat.mul_le_mul_right _ h2
  omega
theorem treeT_le {t : List Nd} (h : ∀ n ∈ t, NodeG n) (hl : t.length ≤ 400) (k : Nat) : (treeT (t.take k)).length ≤ 1228800 := by
  have h1 := flat_le (B := 3072) nodeT (t.take k) (fun n hn => nodeT_le (h n (List.mem_of_mem_take hn)))
  have h2 : (t.take k).length ≤ 400 := by rw [List.length_take]; omega
  unfold treeT
  omega
theorem treeT_step {t : List Nd} {k : Nat} {n : Nd} (h : t[k]? = some n) : treeT (t.take (k + 1)) = treeT (t.take k) ++ nodeT n := by
  obtain ⟨h1, rfl⟩ := List.getElem?_eq_some_iff.1 h
  unfold treeT
  rw [List.take_succ_eq_append_getElem h1, List.flatMap_append, List.flatMap_cons, List.flatMap_nil, List.append_nil]
theorem countT_step {t : List Nd} {k : Nat} {n : Nd} (h : t[k]? = some n) : countT (t.take (k + 1)) = countT (t.take k) + (entsN n).length := by
  obtain ⟨h1, rfl⟩ := List.getElem?_eq_some_iff.1 h
  unfold countT
  rw [List.take_succ_eq_append_getElem h1, List.map_append, List.sum_append]
  simp
theorem countT_le {t : List Nd} (k : Nat) : countT (t.take k) ≤ 2 * k := by
  induction k with
  | zero => simp [countT]
  | succ k ih =>
    by_cases h : k < t.length
    · rw [countT_step (List.getElem?_eq_getElem h)]
      have := (entsN_len t[k]).2
      omega
    · rw [List.take_of_length_le (by omega)] at ih ⊢
      omega
theorem nodeT_one {n : Nd} (h : recsE (entE n) = []) : nodeT n = entL (entE n) := by unfold nodeT entsN; rw [if_pos h]; simp
theorem nodeT_two {n : Nd} (h : recsE (entE n) ≠ []) : nodeT n = entL (paxE (recsE (entE n))) ++ entL (entE n) := by unfold nodeT entsN; rw [if_neg h]; simp
theorem zeros_len (k : Nat) : (zeros k).length = k := List.length_replicate
theorem zeros_snoc (k : Nat) : zeros k ++ [0] = zeros (k + 1) := by unfold zeros; rw [List.replicate_succ']
end Go.Proofs.YtecjkkipglldlaaGreatDoor.Hog
/- Where the entries of a tar lie, plainly. Nothing here names the program. -/
namespace Go.Proofs.YtecjkkipglldlaaGreatDoor.Hog
open Go

/-- The bytes ahead: all of the first i nodes (f false), or also the entry that says more of the next (f true); p entries. -/
def StateT (t : List Nd) (i : Nat) (f : Bool) (a p : Nat) : Prop :=
  (f = false ∧ a = (treeT (t.take i)).length ∧ p = countT (t.take i)) ∨
  (f = true ∧ ∃ x, t[i]? = some x ∧ recsE (entE x) ≠ [] ∧ a = (treeT (t.take i)).length + (entL (paxE (recsE (entE x)))).length ∧ p = countT (t.take i) + 1)
theorem treeT_all {t : List Nd} {i : Nat} {x : Nd} (h : t[i]? = some x) : treeT t = treeT (t.take i) ++ (nodeT x ++ treeT (t.drop (i + 1))) := by
  obtain ⟨hi, rfl⟩ := List.getElem?_eq_some_iff.1 h
  have e : t = t.take i ++ (t[i] :: t.drop (i + 1)) := by rw [← List.drop_eq_getElem_cons hi, List.take_append_drop]
  conv => lhs; rw [e]
  unfold treeT
  rw [List.flatMap_append, List.flatMap_cons]
/-- What comes next: the end; or the entry of the node i; or the one that says more of it. -/
theorem state_next {t : List Nd} {i a p : Nat} {f : Bool} (h : StateT t i f a p) (hi : i ≤ t.length) :
    (i = t.length ∧ a + 1024 = (tarL t).length ∧ p = countT t ∧ (tarL t).drop a = zeros 1024) ∨
    ∃ x, t[i]? = some x ∧ ((∃ R, (tarL t).drop a = entL (entE x) ++ R ∧ 1024 ≤ R.length ∧ StateT t (i + 1) false (a + (entL (entE x)).length) (p + 1)) ∨
      (∃ R, (tarL t).drop a = entL (paxE (recsE (entE x))) ++ R ∧ 1024 ≤ R.length ∧ StateT t i true (a + (entL (paxE (recsE (entE x)))).length) (p + 1))) := by
  rcases h with ⟨rfl, ha, hp⟩ | ⟨rfl, x, hx, hr, ha, hp⟩
  · by_cases hl : i < t.length
    · obtain ⟨x, hx⟩ : ∃ x, t[i]? = some x := ⟨t[i], List.getElem?_eq_getElem hl⟩
      refine .inr ⟨x, hx, ?_⟩
      have e : (tarL t).drop a = nodeT x ++ (treeT (t.drop (i + 1)) ++ zeros 1024) := by
        unfold tarL
        rw [treeT_all hx, List.append_assoc, List.append_assoc, ha, List.drop_left' rfl]
      by_cases hr : recsE (entE x) = []
      · refine .inl ⟨_, by rw [e, nodeT_one hr], by rw [List.length_append, zeros_len]; omega, .inl ⟨rfl, ?_, ?_⟩⟩
        · rw [treeT_step hx, List.length_append, nodeT_one hr, ha]
        · rw [countT_step hx, hp]; unfold entsN; rw [if_pos hr]; rfl
      · refine .inr ⟨entL (entE x) ++ (treeT (t.drop (i + 1)) ++ zeros 1024), by rw [e, nodeT_two hr, List.append_assoc], by rw [List.length_append, List.length_append, zeros_len]; omega, .inr ⟨rfl, x, hx, hr, ?_, ?_⟩⟩
        · rw [ha]
        · rw [hp]
    · have hit : i = t.length := by omega
      rw [hit, List.take_length] at ha hp
      refine .inl ⟨hit, ?_, hp, ?_⟩
      · unfold tarL; rw [List.length_append, zeros_len, ha]
      · unfold tarL; rw [ha, List.drop_left' rfl]
  · refine .inr ⟨x, hx, .inl ⟨treeT (t.drop (i + 1)) ++ zeros 1024, ?_, by rw [List.length_append, zeros_len]; omega, .inl ⟨rfl, ?_, ?_⟩⟩⟩
    · unfold tarL
      rw [treeT_all hx, nodeT_two hr, List.append_assoc, List.append_assoc, List.append_assoc, ← List.append_assoc (treeT (t.take i)), List.drop_left' (by rw [List.length_append, ha])]
    · rw [treeT_step hx, List.length_append, nodeT_two hr, List.length_append, ha]; omega
    · rw [countT_step hx, hp]; unfold entsN; rw [if_neg hr]; rfl
theorem state_start (t : List Nd) : StateT t 0 false 0 0 := .inl ⟨rfl, by simp [treeT], by simp [countT]⟩
/-- A header, read where an entry begins. -/
theorem entry_here {z R : List UInt8} {a : Nat} {e : EntL} (hf : Fits e) (h : z.drop a = entL e ++ R) (hR : 1024 ≤ R.length) :
    (z.drop a).take 512 = headE e ∧ a + (entL e).length + R.length = z.length ∧ readH (headE e) = some (e.name.take 100, e.kind, (e.data.length : Int), e.link.take 100) := by
  refine ⟨?_, ?_, read_head hf.may⟩
  · rw [h]
    unfold entL
    rw [List.append_assoc, List.take_left' (headE_len hf)]
  · have h1 := congrArg List.length h
    rw [List.length_drop, List.length_append] at h1
    omega
theorem tarL_mod {t : List Nd} (h : ∀ n ∈ t, NodeG n) : (tarL t).length % 512 = 0 := by
  have key : ∀ t : List Nd, (∀ n ∈ t, NodeG n) → (treeT t).length % 512 = 0 := by
    intro t
    induction t with
    | nil => intro _; rfl
    | cons x t ih =>
      intro h
      have h1 := ih (fun n hn => h n (List.mem_cons_of_mem _ hn))
      have h2 : (nodeT x).length % 512 = 0 := by
        have hx := h x (by simp)
        have hf := entE_fits hx
        by_cases hr : recsE (entE x) = []
        · rw [nodeT_one hr, entL_len hf]; omega
        · rw [nodeT_two hr, List.length_append, entL_len hf, entL_len (paxE_fits (recsE_len hf))]; omega
      unfold treeT at h1 ⊢
      rw [List.flatMap_cons, List.length_append]
      omega
  unfold tarL
  rw [List.length_append, zeros_len]
  have := key t h
  omega
end Go.Proofs.YtecjkkipglldlaaGreatDoor.Hog
/- Decimal digits read back, plainly. Nothing here names the program. -/
namespace Go.Proofs.YtecjkkipglldlaaGreatDoor.Hog
open Go
/-- The number of these decimal digits. -/
def valD (l : List UInt8) : Nat := l.foldl (fun a c => a * 10 + (c.toNat - 48)) 0
theorem valD_nil : valD [] = 0 := rfl
theorem valD_snoc (l : List UInt8) (c : UInt8) : valD (l ++ [c]) = valD l * 10 + (c.toNat - 48) := by unfold valD; rw [List.foldl_append]; rfl
theorem valD_step {l : List UInt8} {k : Nat} {x : UInt8} (hx : l[k]? = some x) : valD (l.take (k + 1)) = valD (l.take k) * 10 + (x.toNat - 48) := by
  obtain ⟨h1, rfl⟩ := List.getElem?_eq_some_iff.1 hx
  rw [List.take_succ_eq_append_getElem h1, valD_snoc]
theorem dig_byte {n : Nat} (h : n < 10) : (UInt8.ofNat (48 + n)).toNat = 48 + n := by rw [UInt8.toNat_ofNat']; omega
theorem valD_dec (n : Nat) : valD (decL n) = n := by
  induction n using Nat.strongRecOn with
  | _ n ih =>
    by_cases h : n < 10
    · rw [decL_one h]
      have := valD_snoc [] (UInt8.ofNat (48 + n))
      rw [List.nil_append, dig_byte h] at this
      rw [this, valD_nil]; omega
    · rw [decL_more h, valD_snoc, ih (n / 10) (by omega), dig_byte (Nat.mod_lt _ (by decide))]; omega
theorem dec_digits (n : Nat) : ∀ c ∈ decL n, 48 ≤ c.toNat ∧ c.toNat ≤ 57 := by
  induction n using Nat.strongRecOn with
  | _ n ih =>
    intro c hc
    by_cases h : n < 10
    · rw [decL_one h, List.mem_singleton] at hc
      subst hc
      rw [dig_byte h]; omega
    · rw [decL_more h, List.mem_append, List.mem_singleton] at hc
      rcases hc with hc | rfl
      · exact ih (n / 10) (by omega) c hc
      · rw [dig_byte (Nat.mod_lt _ (by decide))]; omega
theorem dec_first (n : Nat) (h0 : 0 < n) : ∃ c r, decL n = c :: r ∧ c.toNat ≠ 48 := by
  induction n using Nat.strongRecOn with
  | _ n ih =>
    by_cases h : n < 10
    · exact ⟨_, [], decL_one h, by rw [dig_byte h]; omega⟩
    · obtain ⟨c, r, e, hc⟩ := ih (n / 10) (by omega) (by omega)
      exact ⟨c, r ++ [UInt8.ofNat (48 + n % 10)], by rw [decL_more h, e]; rfl, hc⟩
theorem valD_lt (l : List UInt8) : (∀ c ∈ l, c.toNat ≤ 57) → valD l < 10 ^ l.length := by
  intro h
  have key : ∀ (l : List UInt8) (a : Nat), (∀ c ∈ l, c.toNat ≤ 57) → l.foldl (fun a c => a * 10 + (c.toNat - 48)) a < (a + 1) * 10 ^ l.length := by
    intro l
    induction l with
    | nil => intro a _; simp
    | cons c l ih =>
      intro a h
      have h1 := ih (a * 10 + (c.toNat - 48)) (fun x hx => h x (List.mem_cons_of_mem _ hx))
      have h2 := h c (by simp)
      rw [List.foldl_cons, List.length_cons, Nat.pow_succ]
      have h3 : (a * 10 + (c.toNat - 48) + 1) * 10 ^ l.length ≤ ((a + 1) * 10) * 10 ^ l.length := Nat.mul_le_mul_right _ (by omega)
      rw [Nat.mul_assoc (a + 1) 10, Nat.mul_comm 10] at h3
      omega
  have := key l 0 h
  unfold valD
  omega
end Go.Proofs.YtecjkkipglldlaaGreatDoor.Hog
/- Reading a tar, plainly: records, entries, nodes; what was laid is read, whatever stands behind. Nothing here names the program. -/
namespace Go.Proofs.YtecjkkipglldlaaGreatDoor.Hog
open Go

/-- The bytes ahead of the first c; those behind it. -/
def aheadC (c : UInt8) (l : List UInt8) : List UInt8 := l.takeWhile (· != c)
def behindC (c : UInt8) (l : List UInt8) : List UInt8 := l.drop ((aheadC c l).length + 1)
theorem ahead_here {c : UInt8} {a r : List UInt8} (h : c ∉ a) : aheadC c (a ++ c :: r) = a := by
  unfold aheadC
  induction a with
  | nil => simp
  | cons x a ih =>
    have hx : (x != c) = true := by rw [bne_iff_ne]; intro e; exact h (by simp [e])
    rw [List.cons_append, List.takeWhile_cons, if_pos hx, ih (fun hm => h (List.mem_cons_of_mem _ hm))]
theorem ahead_none {c : UInt8} {a : List UInt8} (h : c ∉ a) : aheadC c a = a := by
  unfold aheadC
  induction a with
  | nil => rfl
  | cons x a ih =>
    have hx : (x != c) = true := by rw [bne_iff_ne]; intro e; exact h (by simp [e])
    rw [List.takeWhile_cons, if_pos hx, ih (fun hm => h (List.mem_cons_of_mem _ hm))]
theorem behind_here {c : UInt8} {a r : List UInt8} (h : c ∉ a) : behindC c (a ++ c :: r) = r := by
  unfold behindC
  rw [ahead_here h, show a ++ c :: r = (a ++ [c]) ++ r by simp, List.drop_left' (by simp)]
theorem ahead_le (c : UInt8) (l : List UInt8) : (aheadC c l).length ≤ l.length := (List.takeWhile_prefix _).length_le
theorem cut_one (c : UInt8) (l : List UInt8) : (Lib.cut l [c]).1 = aheadC c l ∧ (Lib.cut l [c]).2.1 = behindC c l := by
  unfold Lib.cut
  rw [Lib.index_one]
  have hge := Lib.indexByte_ge l c
  by_cases h0 : 0 ≤ Lib.indexByte l c
  · obtain ⟨i, hi⟩ : ∃ i : Nat, Lib.indexByte l c = i := ⟨_, (Int.toNat_of_nonneg h0).symm⟩
    obtain ⟨h1, h2⟩ := Lib.indexByte_some hi
    obtain ⟨h3, h4⟩ := List.getElem?_eq_some_iff.1 h1
    have e : l = l.take i ++ c :: l.drop (i + 1) := by rw [← h4, ← List.drop_eq_getElem_cons h3, List.take_append_drop]
    have hn : c ∉ l.take i := by
      intro hm
      obtain ⟨k, hk, e2⟩ := List.getElem_of_mem hm
      rw [List.length_take] at hk
      refine h2 k (by omega) ?_
      rw [List.getElem_take] at e2
      rw [← e2]
      exact List.getElem?_eq_getElem _
    rw [if_pos h0, hi]
    constructor
    · show l.take (i : Int).toNat = _
      conv => rhs; rw [e, ahead_here hn]
      rfl
    · show l.drop ((i : Int).toNat + [c].length) = _
      conv => rhs; rw [e, behind_here hn]
      rfl
  · have e0 : Lib.indexByte l c = -1 := by omega
    have hn : c ∉ l := by
      intro hm
      obtain ⟨k, hk, e2⟩ := List.getElem_of_mem hm
      exact Lib.indexByte_none e0 k (by rw [List.getElem?_eq_getElem hk, e2])
    rw [if_neg h0]
    constructor
    · rw [ahead_none hn]
    · show [] = _
      unfold behindC
      rw [ahead_none hn, List.drop_eq_nil_iff.2 (by omega)]

/-- Without one line's end at the end. -/
def trimN (l : List UInt8) : List UInt8 := Lib.trimSuffix l [10]
theorem trimN_snoc (l : List UInt8) : trimN (l ++ [10]) = l := by
  unfold trimN Lib.trimSuffix Lib.hasSuffix
  rw [if_pos (by simp)]
  simp
theorem trimN_le (l : List UInt8) : (trimN l).length ≤ l.length := by
  unfold trimN Lib.trimSuffix
  split
  · rw [List.length_take]; omega
  · exact Nat.le_refl _

/-- How many bytes a record has that begins so. -/
def lenR (s : List UInt8) : Option Nat := match Lib.atoiAll (aheadC 32 s) with
  | .ok n => if n ≤ (aheadC 32 s).length ∨ n > s.length then none else some n.toNat
  | _ => none
/-- The first record taken apart: what it is of, what it says, what stands behind it. -/
def cutP (s : List UInt8) : List UInt8 × List UInt8 × List UInt8 := match lenR s with
  | none => ([], [], [])
  | some n => (aheadC 61 ((s.drop ((aheadC 32 s).length + 1)).take (n - ((aheadC 32 s).length + 1))), trimN (behindC 61 ((s.drop ((aheadC 32 s).length + 1)).take (n - ((aheadC 32 s).length + 1)))), s.drop n)
theorem lenR_some {s : List UInt8} {n : Nat} (h : lenR s = some n) : (aheadC 32 s).length < n ∧ n ≤ s.length ∧ Lib.atoiAll (aheadC 32 s) = .ok (n : Int) := by
  unfold lenR at h
  cases e : Lib.atoiAll (aheadC 32 s)
  · rename_i v
    rw [e] at h
    simp only [] at h
    split at h
    · cases h
    · rename_i hn
      have := Option.some.inj h
      have hv : v = (n : Int) := by omega
      exact ⟨by omega, by omega, by rw [hv]⟩
  · rw [e] at h; cases h
  · rw [e] at h; cases h
theorem cutP_rest (s : List UInt8) (h : s ≠ []) : (cutP s).2.2.length < s.length ∧ (cutP s).2.1.length ≤ s.length := by
  have hl : 0 < s.length := List.length_pos_iff.2 h
  unfold cutP
  cases e : lenR s with
  | none => exact ⟨hl, Nat.zero_le _⟩
  | some n =>
    have := lenR_some e
    refine ⟨?_, ?_⟩
    · show (s.drop n).length < _
      rw [List.length_drop]; omega
    · refine Nat.le_trans (trimN_le _) ?_
      unfold behindC
      rw [List.length_drop, List.length_take, List.length_drop]
      omega
/-- What records say of a name and a link. -/
def putP (k v : List UInt8) (p : List UInt8 × List UInt8) : List UInt8 × List UInt8 := if k = pathK then (v, p.2) else if k = linkK then (p.1, v) else p
def amendF : Nat → List UInt8 → List UInt8 × List UInt8 → List UInt8 × List UInt8
  | 0, _, p => p
  | f + 1, s, p => if s = [] then p else amendF f (cutP s).2.2 (putP (cutP s).1 (cutP s).2.1 p)
theorem amendF_nil (f : Nat) (p : List UInt8 × List UInt8) : amendF f [] p = p := by cases f <;> simp [amendF]
theorem amendF_step {f : Nat} {s : List UInt8} (p : List UInt8 × List UInt8) (hs : s ≠ []) (hf : s.length ≤ f) : ∃ g, (cutP s).2.2.length ≤ g ∧ amendF f s p = amendF g (cutP s).2.2 (putP (cutP s).1 (cutP s).2.1 p) := by
  have hl : 0 < s.length := List.length_pos_iff.2 hs
  have hc := (cutP_rest s hs).1
  cases f with
  | zero => omega
  | succ f => exact ⟨f, by omega, by rw [amendF, if_neg hs]⟩
theorem putP_le {M : Nat} {k v : List UInt8} {p : List UInt8 × List UInt8} (hv : v.length ≤ M) (hp : p.1.length ≤ M ∧ p.2.length ≤ M) : (putP k v p).1.length ≤ M ∧ (putP k v p).2.length ≤ M := by
  unfold putP
  split
  · exact ⟨hv, hp.2⟩
  · split
    · exact ⟨hp.1, hv⟩
    · exact hp
theorem amendF_le {M : Nat} : ∀ (f : Nat) (s : List UInt8) (p : List UInt8 × List UInt8), s.length ≤ M → p.1.length ≤ M ∧ p.2.length ≤ M → (amendF f s p).1.length ≤ M ∧ (amendF f s p).2.length ≤ M
  | 0, _, _, _, hp => hp
  | f + 1, s, p, hs, hp => by
    rw [amendF]
    split
    · exact hp
    · rename_i hn
      have hc := cutP_rest s hn
      exact amendF_le f _ _ (by omega) (putP_le (by omega) hp)

theorem parse_dig : ∀ (l : List UInt8) (a : Nat), (∀ c ∈ l, 48 ≤ c.toNat ∧ c.toNat ≤ 57) → l.foldl (fun a c => a * 10 + (c.toNat - 48)) a < 1000000000 → Lib.parseUint10 a l = .ok (l.foldl (fun a c => a * 10 + (c.toNat - 48)) a)
  | [], a, _, _ => rfl
  | c :: l, a, h, hv => by
    have hge : ∀ (l : List UInt8) (a : Nat), a ≤ l.foldl (fun a c => a * 10 + (c.toNat - 48)) a := by
      intro l
      induction l with
      | nil => intro a; exact Nat.le_refl _
      | cons c l ih => intro a; rw [List.foldl_cons]; exact Nat.le_trans (by omega) (ih _)
    have h1 := h c (by simp)
    rw [List.foldl_cons] at hv ⊢
    have h2 := hge l (a * 10 + (c.toNat - 48))
    rw [Lib.parseUint10, if_pos h1, if_neg (by omega), if_neg (by omega)]
    exact parse_dig l _ (fun x hx => h x (List.mem_cons_of_mem _ hx)) hv
theorem atoi_dec {n : Nat} (h0 : 0 < n) (hn : n < 1000000000) : Lib.atoiAll (decL n) = .ok (n : Int) := by
  obtain ⟨c, r, e, _⟩ := dec_first n h0
  have hd := dec_digits n
  have hc := hd c (by rw [e]; simp)
  have hp : Lib.parseMag (decL n) = .ok n := by
    unfold Lib.parseMag
    rw [if_neg (by rw [e]; simp), parse_dig _ 0 hd (by have := valD_dec n; unfold valD at this; omega)]
    have := valD_dec n
    unfold valD at this
    rw [this]
  rw [e] at hp ⊢
  rw [Lib.atoiAll_plain c r (by omega) (by omega), hp]
  unfold Lib.signless
  simp only []
  rw [if_neg (by omega)]

theorem cutP_here {k v r : List UInt8} (hk : (61 : UInt8) ∉ k) (hs : k.length + v.length < 1000000) : cutP (recL k v ++ r) = (k, v, r) := by
  obtain ⟨n, hn⟩ : ∃ n, recN k v = n := ⟨_, rfl⟩
  have hl : (recL k v).length = n := by rw [recL_len hs, hn]
  have hle := recN_le hs
  have hdl : (decL n).length < n := by
    have : (recL k v).length = (decL n).length + (restL k v).length := by unfold recL; rw [List.length_append, hn]
    rw [restL_len] at this; omega
  have h32 : (32 : UInt8) ∉ decL n := fun hm => by have h := (dec_digits n 32 hm).1; exact absurd h (by decide)
  have e1 : recL k v ++ r = decL n ++ 32 :: (k ++ 61 :: (v ++ 10 :: r)) := by unfold recL restL; rw [hn]; simp
  have ea : aheadC 32 (recL k v ++ r) = decL n := by rw [e1, ahead_here h32]
  have elen : lenR (recL k v ++ r) = some n := by
    unfold lenR
    rw [ea, atoi_dec (by omega) (by omega)]
    simp only []
    rw [if_neg (by rw [List.length_append, hl]; omega), Int.toNat_natCast]
  have et : ((recL k v ++ r).drop ((decL n).length + 1)).take (n - ((decL n).length + 1)) = k ++ 61 :: (v ++ [10]) := by
    have e2 : (recL k v ++ r) = (decL n ++ [32]) ++ ((k ++ 61 :: (v ++ [10])) ++ r) := by rw [e1]; simp
    rw [e2, List.drop_left' (by simp), List.take_left' ?_]
    have : (recL k v).length = (decL n).length + (restL k v).length := by unfold recL; rw [List.length_append, hn]
    rw [restL_len] at this
    simp only [List.length_append, List.length_cons, List.length_nil]
    omega
  unfold cutP
  rw [elen]
  simp only []
  rw [ea, et, ahead_here hk, behind_here hk, trimN_snoc, List.drop_left' hl]
theorem rec_ne (k v : List UInt8) : recL k v ≠ [] := by unfold recL restL; simp
theorem amendF_rec {f : Nat} {k v r : List UInt8} {p : List UInt8 × List UInt8} (hk : (61 : UInt8) ∉ k) (hs : k.length + v.length < 1000000) : amendF (f + 1) (recL k v ++ r) p = amendF f r (putP k v p) := by
  rw [amendF, if_neg (by simp [rec_ne]), cutP_here hk hs]
theorem oneR_or (k v : List UInt8) : (v.length ≤ 100 ∧ oneR k v = []) ∨ (100 < v.length ∧ oneR k v = recL k v) := by
  unfold oneR
  split
  · exact .inl ⟨by assumption, rfl⟩
  · exact .inr ⟨by omega, rfl⟩
theorem put_path (v : List UInt8) (p : List UInt8 × List UInt8) : putP pathK v p = (v, p.2) := by unfold putP; rw [if_pos rfl]
theorem put_link (v : List UInt8) (p : List UInt8 × List UInt8) : putP linkK v p = (p.1, v) := by unfold putP; rw [if_neg (by decide), if_pos rfl]
theorem take_all {l : List UInt8} (h : l.length ≤ 100) : l.take 100 = l := List.take_of_length_le h
/-- What an entry's records say of it is what it has. -/
theorem amendF_recs {e : EntL} (hf : Fits e) {f : Nat} (h2 : (recsE e).length ≤ f) : amendF f (recsE e) (e.name.take 100, e.link.take 100) = (e.name, e.link) := by
  have hn := hf.name
  have hl := hf.link
  have hp : (61 : UInt8) ∉ pathK := by decide
  have hq : (61 : UInt8) ∉ linkK := by decide
  have lp : pathK.length = 4 := rfl
  have lq : linkK.length = 8 := rfl
  unfold recsE at h2 ⊢
  rcases oneR_or pathK e.name with ⟨n1, e1⟩ | ⟨n1, e1⟩ <;> rcases oneR_or linkK e.link with ⟨l1, e2⟩ | ⟨l1, e2⟩ <;> rw [e1, e2] at h2 ⊢
  · rw [List.append_nil, amendF_nil, take_all n1, take_all l1]
  · rw [List.nil_append] at h2 ⊢
    obtain ⟨g, rfl⟩ : ∃ g, f = g + 1 := ⟨f - 1, by have := List.length_pos_iff.2 (rec_ne linkK e.link); omega⟩
    rw [show recL linkK e.link = recL linkK e.link ++ [] by simp, amendF_rec hq (by omega), put_link, amendF_nil, take_all n1]
  · obtain ⟨g, rfl⟩ : ∃ g, f = g + 1 := ⟨f - 1, by have := List.length_pos_iff.2 (rec_ne pathK e.name); rw [List.length_append] at h2; omega⟩
    rw [amendF_rec hp (by omega), put_path, amendF_nil, take_all l1]
  · have p1 := List.length_pos_iff.2 (rec_ne pathK e.name)
    have p2 := List.length_pos_iff.2 (rec_ne linkK e.link)
    rw [List.length_append] at h2
    obtain ⟨g, rfl⟩ : ∃ g, f = g + 2 := ⟨f - 2, by omega⟩
    rw [amendF_rec hp (by omega), put_path, show recL linkK e.link = recL linkK e.link ++ [] by simp, amendF_rec hq (by omega), put_link, amendF_nil]
end Go.Proofs.YtecjkkipglldlaaGreatDoor.Hog
/- Reading a tar, plainly: entries, nodes, trees; a tar is of one tree alone. Nothing here names the program. -/
namespace Go.Proofs.YtecjkkipglldlaaGreatDoor.Hog
open Go

/-- What is read of an entry: its header's name, kind and link, its bytes; whether it is one; what stands behind. -/
structure EntU where
  name : List UInt8
  kind : Int
  link : List UInt8
  data : List UInt8
  ok : Bool
  rest : List UInt8
/-- How many bytes n are, filled up. -/
def fullN (n : Nat) : Nat := (n + 511) / 512 * 512
/-- Behind a header. -/
def restU (l : List UInt8) : List UInt8 := if 512 ≤ l.length then l.drop (min 512 l.length) else l
def headU (l : List UInt8) : List UInt8 := if 512 ≤ l.length then l.take 512 else []
def bodyU (l : List UInt8) : Option (List UInt8 × Int × Int × List UInt8) → EntU
  | none => ⟨[], 0, [], [], false, restU l⟩
  | some (nm, k, sz, lk) => if sz.toNat ≤ (restU l).length then ⟨nm, k, lk, (restU l).take sz.toNat, true, (restU l).drop (min (fullN sz.toNat) (restU l).length)⟩ else ⟨nm, k, lk, [], false, restU l⟩
def entU (l : List UInt8) : EntU := bodyU l (readH (headU l))
/-- The node of an entry. -/
def nodeE (nm : List UInt8) (k : Int) (lk d : List UInt8) : Nd := (mk (if nm = [46] then [] else nm), k, mk (if k = 4 then lk else d))
/-- What is read of a node: the node, whether it is one, what stands behind. -/
def nodeU (l : List UInt8) : Nd × Bool × List UInt8 :=
  if (entU l).ok = true ∧ (entU l).kind = 5 then
    (nodeE (amendF (entU l).data.length (entU l).data ((entU (entU l).rest).name, (entU (entU l).rest).link)).1 (entU (entU l).rest).kind
      (amendF (entU l).data.length (entU l).data ((entU (entU l).rest).name, (entU (entU l).rest).link)).2 (entU (entU l).rest).data, (entU (entU l).rest).ok, (entU (entU l).rest).rest)
  else (nodeE (entU l).name (entU l).kind (entU l).link (entU l).data, (entU l).ok, (entU l).rest)
def nodesF : Nat → List UInt8 → List Nd
  | 0, _ => []
  | f + 1, l => if (nodeU l).2.1 = true then (nodeU l).1 :: nodesF f (nodeU l).2.2 else []

theorem ent_here {e : EntL} (hf : Fits e) (R : List UInt8) : entU (entL e ++ R) = ⟨e.name.take 100, e.kind, e.link.take 100, e.data, true, R⟩ := by
  have hh := headE_len hf
  have e1 : entL e ++ R = headE e ++ (e.data ++ (zeros (fillN e.data.length) ++ R)) := by unfold entL; simp
  have hl : 512 ≤ (entL e ++ R).length := by rw [e1, List.length_append, hh]; omega
  have er : restU (entL e ++ R) = e.data ++ (zeros (fillN e.data.length) ++ R) := by
    unfold restU
    rw [if_pos hl, Nat.min_eq_left hl, e1, List.drop_left' hh]
  have eh : headU (entL e ++ R) = headE e := by
    unfold headU
    rw [if_pos hl, e1, List.take_left' hh]
  unfold entU
  rw [eh, show readH (headE e) = some (e.name.take 100, e.kind, (e.data.length : Int), e.link.take 100) from read_head hf.may]
  unfold bodyU
  simp only []
  rw [er, Int.toNat_natCast, if_pos (by rw [List.length_append]; omega), List.take_left' rfl]
  have hm : min (fullN e.data.length) (e.data ++ (zeros (fillN e.data.length) ++ R)).length = (e.data ++ zeros (fillN e.data.length)).length := by
    have := fillN_add e.data.length
    unfold fullN
    simp only [List.length_append, zeros_len]
    omega
  rw [hm, ← List.append_assoc, List.drop_left' rfl]
theorem ent_end (R : List UInt8) : (entU (zeros 1024 ++ R)).ok = false := by
  have e1 : zeros 1024 ++ R = zeros 512 ++ (zeros 512 ++ R) := by rw [← List.append_assoc]; unfold zeros; rw [List.replicate_append_replicate]
  have hl : 512 ≤ (zeros 1024 ++ R).length := by rw [List.length_append, zeros_len]; omega
  have eh : headU (zeros 1024 ++ R) = zeros 512 := by
    unfold headU
    rw [if_pos hl, e1, List.take_left' (zeros_len 512)]
  have er : readH (zeros 512) = none := by
    cases h : readH (zeros 512) with
    | none => rfl
    | some q =>
      exfalso
      obtain ⟨nm, k, sz, lk⟩ := q
      obtain ⟨h1, h2⟩ := read_sound h
      have h3 := head_name h1
      rw [h2] at h3
      refine h1.some ?_
      rw [← h3]
      unfold nameF zeros
      rw [List.take_replicate, show min 100 512 = 99 + 1 from rfl, List.replicate_succ, List.takeWhile_cons]
      rfl
  unfold entU
  rw [eh, er]
  rfl
theorem nodeE_back {n : Nd} (hd : n.1.data.toList ≠ [46]) : nodeE (entE n).name (entE n).kind (entE n).link (entE n).data = n := by
  have e1 : mk (if (entE n).name = [46] then [] else (entE n).name) = n.1 := by
    unfold entE
    simp only []
    by_cases h : n.1.data.toList = []
    · rw [if_pos h, if_pos rfl, ← h, data_mk]
    · rw [if_neg h, if_neg hd, data_mk]
  have e2 : mk (if (entE n).kind = 4 then (entE n).link else (entE n).data) = n.2.2 := by
    unfold entE
    simp only []
    by_cases h : n.2.1 = 4
    · rw [if_pos h, if_pos h, data_mk]
    · rw [if_neg h, if_neg h, data_mk]
  unfold nodeE
  rw [e1, e2]
  rfl
theorem recs_nil {e : EntL} (h : recsE e = []) : e.name.length ≤ 100 ∧ e.link.length ≤ 100 := by
  unfold recsE at h
  rw [List.append_eq_nil_iff] at h
  obtain ⟨h1, h2⟩ := h
  constructor
  · rcases oneR_or pathK e.name with ⟨a, _⟩ | ⟨_, b⟩
    · exact a
    · rw [b] at h1; exact absurd h1 (rec_ne _ _)
  · rcases oneR_or linkK e.link with ⟨a, _⟩ | ⟨_, b⟩
    · exact a
    · rw [b] at h2; exact absurd h2 (rec_ne _ _)
theorem node_here {n : Nd} (h : NodeG n) (hd : n.1.data.toList ≠ [46]) (R : List UInt8) : nodeU (nodeT n ++ R) = (n, true, R) := by
  have hf := entE_fits h
  by_cases hr : recsE (entE n) = []
  · rw [nodeT_one hr]
    obtain ⟨h1, h2⟩ := recs_nil hr
    have hk : (entE n).kind ≠ 5 := by show n.2.1 ≠ 5; rcases h.kind with k | k | k | k <;> omega
    unfold nodeU
    rw [ent_here hf R]
    simp only []
    rw [if_neg (fun h => hk h.2), take_all h1, take_all h2, nodeE_back hd]
  · have hp := paxE_fits (recsE_len hf)
    rw [nodeT_two hr, List.append_assoc]
    unfold nodeU
    rw [ent_here hp, if_pos ⟨rfl, rfl⟩]
    simp only []
    rw [ent_here hf R]
    simp only []
    rw [show (paxE (recsE (entE n))).data = recsE (entE n) from rfl, amendF_recs hf (Nat.le_refl _), nodeE_back hd]
theorem node_end (R : List UInt8) : (nodeU (zeros 1024 ++ R)).2.1 = false := by
  have h0 := ent_end R
  generalize zeros 1024 ++ R = q at h0 ⊢
  unfold nodeU
  rw [if_neg (fun h => by rw [h0] at h; cases h.1)]
  exact h0
theorem path_dot {t : List Nd} (h : mayN t = true) : ∀ n ∈ t, n.1.data.toList ≠ [46] := by
  intro n hn e
  have hg := (may_tree h).good n hn
  unfold goodB at hg
  rw [Bool.and_eq_true] at hg
  have h1 := hg.1
  rw [e] at h1
  revert h1
  decide
theorem nodesF_tree (R : List UInt8) : ∀ (t : List Nd) (f : Nat), (∀ n ∈ t, NodeG n ∧ n.1.data.toList ≠ [46]) → t.length ≤ f → nodesF f (treeT t ++ (zeros 1024 ++ R)) = t
  | [], f, _, _ => by
    cases f with
    | zero => rfl
    | succ f =>
      have h0 := node_end R
      generalize zeros 1024 ++ R = q at h0 ⊢
      rw [show treeT [] = [] from rfl, List.nil_append, nodesF, if_neg (by rw [h0]; decide)]
  | n :: t, f, h, hl => by
    obtain ⟨g, rfl⟩ : ∃ g, f = g + 1 := ⟨f - 1, by rw [List.length_cons] at hl; omega⟩
    have hn := h n (by simp)
    have e : treeT (n :: t) ++ (zeros 1024 ++ R) = nodeT n ++ (treeT t ++ (zeros 1024 ++ R)) := by unfold treeT; rw [List.flatMap_cons, List.append_assoc]
    rw [e, nodesF, node_here hn.1 hn.2, if_pos rfl, nodesF_tree R t g (fun m hm => h m (List.mem_cons_of_mem _ hm)) (by rw [List.length_cons] at hl; omega)]
/-- What was laid is read, whatever stands behind. -/
theorem nodesF_tar {t : List Nd} (h : mayN t = true) (R : List UInt8) : nodesF 400 (tarL t ++ R) = t := by
  unfold tarL
  rw [List.append_assoc]
  exact nodesF_tree R t 400 (fun n hn => ⟨tree_node h n hn, path_dot h n hn⟩) (tree_len h)
/-- A tar is no other tree's, and none begins with another one. -/
theorem tar_free {t u : List Nd} (ht : mayN t = true) (hu : mayN u = true) {x y : List UInt8} (h : tarL t ++ x = tarL u ++ y) : t = u := by
  rw [← nodesF_tar ht x, h, nodesF_tar hu y]
theorem tar_one {t u : List Nd} (ht : mayN t = true) (hu : mayN u = true) (h : tarL t = tarL u) : t = u := tar_free ht hu (x := []) (y := []) (by rw [h])

/-- T is the tree whose tar l is, and e tells nothing; or l is no tree's, and e tells so. -/
def TarIs (l : List UInt8) (T : List Nd) (e : Int) : Prop := (e = 0 ∧ mayN T = true ∧ tarL T = l) ∨ (e = 5 ∧ T = [] ∧ ∀ t, mayN t = true → tarL t ≠ l)
theorem TarIs.one {l : List UInt8} {T U : List Nd} {e f : Int} (h : TarIs l T e) (k : TarIs l U f) : T = U ∧ e = f := by
  rcases h with ⟨rfl, h1, h2⟩ | ⟨rfl, rfl, h2⟩ <;> rcases k with ⟨rfl, k1, k2⟩ | ⟨rfl, rfl, k2⟩
  · exact ⟨tar_one h1 k1 (by rw [h2, k2]), rfl⟩
  · exact absurd h2 (k2 T h1)
  · exact absurd k2 (h2 U k1)
  · exact ⟨rfl, rfl⟩
theorem TarIs.read {l : List UInt8} {T : List Nd} (h : nodesF 400 l = T) {b : Bool} (hb : mayN T = b) :
    (b = true → tarL T = l → TarIs l T 0) ∧ (b = false → TarIs l [] 5) ∧ (tarL T ≠ l → TarIs l [] 5) := by
  have key : ∀ t, mayN t = true → tarL t = l → t = T := fun t ht e => by
    have := nodesF_tar ht []
    rw [List.append_nil, e, h] at this
    exact this.symm
  refine ⟨fun h1 h2 => .inl ⟨rfl, by rw [hb, h1], h2⟩, fun h1 => .inr ⟨rfl, rfl, fun t ht e => ?_⟩, fun h1 => .inr ⟨rfl, rfl, fun t ht e => ?_⟩⟩
  · have := key t ht e
    rw [this, hb, h1] at ht
    cases ht
  · have := key t ht e
    rw [this] at e
    exact h1 e

theorem restU_le (l : List UInt8) : (restU l).length ≤ l.length := by unfold restU; split <;> simp
theorem bodyU_le (l : List UInt8) (r : Option (List UInt8 × Int × Int × List UInt8)) (hr : readH (headU l) = r) : (bodyU l r).name.length ≤ l.length ∧ (bodyU l r).link.length ≤ l.length ∧ (bodyU l r).data.length ≤ l.length ∧ (bodyU l r).rest.length ≤ l.length := by
  have h0 := restU_le l
  cases r with
  | none => exact ⟨Nat.zero_le _, Nat.zero_le _, Nat.zero_le _, h0⟩
  | some q =>
    obtain ⟨nm, k, sz, lk⟩ := q
    obtain ⟨h1, h2⟩ := read_sound hr
    have h3 := head_len h1
    rw [h2] at h3
    have h4 : 512 ≤ l.length := by
      unfold headU at h3
      split at h3
      · assumption
      · cases h3
    have h5 := (fillB_of h1.name).1
    have h6 := (fillB_of h1.link).1
    unfold bodyU
    simp only []
    split
    · refine ⟨by show nm.length ≤ _; omega, by show lk.length ≤ _; omega, ?_, ?_⟩
      · show ((restU l).take sz.toNat).length ≤ _
        rw [List.length_take]; omega
      · show ((restU l).drop _).length ≤ _
        rw [List.length_drop]; omega
    · exact ⟨by show nm.length ≤ _; omega, by show lk.length ≤ _; omega, Nat.zero_le _, h0⟩
theorem entU_le (l : List UInt8) : (entU l).name.length ≤ l.length ∧ (entU l).link.length ≤ l.length ∧ (entU l).data.length ≤ l.length ∧ (entU l).rest.length ≤ l.length := bodyU_le l _ rfl
theorem nodeE_le {nm lk d : List UInt8} {k : Int} {M : Nat} (h1 : nm.length ≤ M) (h2 : lk.length ≤ M) (h3 : d.length ≤ M) : (nodeE nm k lk d).1.size ≤ M ∧ (nodeE nm k lk d).2.2.size ≤ M := by
  unfold nodeE
  constructor
  · rw [mk_size]; split
    · exact Nat.zero_le _
    · exact h1
  · rw [mk_size]; split
    · exact h2
    · exact h3
theorem nodeU_le (l : List UInt8) : (nodeU l).1.1.size ≤ l.length ∧ (nodeU l).1.2.2.size ≤ l.length ∧ (nodeU l).2.2.length ≤ l.length := by
  obtain ⟨a1, a2, a3, a4⟩ := entU_le l
  obtain ⟨b1, b2, b3, b4⟩ := entU_le (entU l).rest
  unfold nodeU
  split
  · have hm := amendF_le (M := l.length) (entU l).data.length (entU l).data ((entU (entU l).rest).name, (entU (entU l).rest).link) a3 ⟨by simp only []; omega, by simp only []; omega⟩
    obtain ⟨c1, c2⟩ := nodeE_le (k := (entU (entU l).rest).kind) hm.1 hm.2 (show (entU (entU l).rest).data.length ≤ l.length by omega)
    exact ⟨c1, c2, by simp only []; omega⟩
  · obtain ⟨c1, c2⟩ := nodeE_le (k := (entU l).kind) a1 a2 a3
    exact ⟨c1, c2, a4⟩
theorem nodesF_le : ∀ (f : Nat) (l : List UInt8), (nodesF f l).length ≤ f ∧ ∀ n ∈ nodesF f l, n.1.size ≤ l.length ∧ n.2.2.size ≤ l.length
  | 0, l => ⟨by simp [nodesF], fun n hn => by simp [nodesF] at hn⟩
  | f + 1, l => by
    obtain ⟨a1, a2, a3⟩ := nodeU_le l
    rw [nodesF]
    split
    · obtain ⟨b1, b2⟩ := nodesF_le f (nodeU l).2.2
      refine ⟨by rw [List.length_cons]; omega, fun n hn => ?_⟩
      rcases List.mem_cons.1 hn with rfl | hn
      · exact ⟨a1, a2⟩
      · have := b2 n hn
        omega
    · exact ⟨by simp, fun n hn => by cases hn⟩
end Go.Proofs.YtecjkkipglldlaaGreatDoor.Hog
/- Records as the document's own reader takes them apart, plainly. Nothing here names the program. -/
namespace Go.Proofs.YtecjkkipglldlaaGreatDoor.Hog
open Go

/-- l is these records, one behind the other. -/
def RecsIs (rs : List (List UInt8 × List UInt8)) (l : List UInt8) : Prop := (∀ r ∈ rs, (r.1 = pathK ∨ r.1 = linkK) ∧ r.2.length ≤ 500) ∧ l = rs.flatMap fun r => recL r.1 r.2
def putsP (rs : List (List UInt8 × List UInt8)) (p : List UInt8 × List UInt8) : List UInt8 × List UInt8 := rs.foldl (fun p r => putP r.1 r.2 p) p
def path5 : List UInt8 := [112, 97, 116, 104, 61]
def link9 : List UInt8 := [108, 105, 110, 107, 112, 97, 116, 104, 61]
/-- What a record's middle says, as the document's reader asks it. -/
def putR (r : List UInt8) (p : List UInt8 × List UInt8) : List UInt8 × List UInt8 := (if 5 ≤ r.length ∧ r.take 5 = path5 then r.drop 5 else p.1, if 9 ≤ r.length ∧ r.take 9 = link9 then r.drop 9 else p.2)
theorem putR_is {k v : List UInt8} (hk : k = pathK ∨ k = linkK) (p : List UInt8 × List UInt8) : putR (k ++ 61 :: v) p = putP k v p := by
  rcases hk with rfl | rfl
  · have e : pathK ++ 61 :: v = 112 :: 97 :: 116 :: 104 :: 61 :: v := rfl
    rw [e, put_path]
    unfold putR
    have h1 : 5 ≤ (112 :: 97 :: 116 :: 104 :: 61 :: v : List UInt8).length ∧ (112 :: 97 :: 116 :: 104 :: 61 :: v : List UInt8).take 5 = path5 := ⟨by simp, rfl⟩
    have h2 : ¬ (9 ≤ (112 :: 97 :: 116 :: 104 :: 61 :: v : List UInt8).length ∧ (112 :: 97 :: 116 :: 104 :: 61 :: v : List UInt8).take 9 = link9) := by
      rintro ⟨_, h⟩
      unfold link9 at h
      rw [List.take_succ_cons] at h
      exact absurd (List.cons.inj h).1 (by decide)
    rw [if_pos h1, if_neg h2]
    rfl
  · have e : linkK ++ 61 :: v = 108 :: 105 :: 110 :: 107 :: 112 :: 97 :: 116 :: 104 :: 61 :: v := rfl
    rw [e, put_link]
    unfold putR
    have h1 : 9 ≤ (108 :: 105 :: 110 :: 107 :: 112 :: 97 :: 116 :: 104 :: 61 :: v : List UInt8).length ∧ (108 :: 105 :: 110 :: 107 :: 112 :: 97 :: 116 :: 104 :: 61 :: v : List UInt8).take 9 = link9 := ⟨by simp, rfl⟩
    have h2 : ¬ (5 ≤ (108 :: 105 :: 110 :: 107 :: 112 :: 97 :: 116 :: 104 :: 61 :: v : List UInt8).length ∧ (108 :: 105 :: 110 :: 107 :: 112 :: 97 :: 116 :: 104 :: 61 :: v : List UInt8).take 5 = path5) := by
      rintro ⟨_, h⟩
      unfold path5 at h
      rw [List.take_succ_cons] at h
      exact absurd (List.cons.inj h).1 (by decide)
    rw [if_neg h2, if_pos h1]
    rfl
theorem putR_le {r : List UInt8} {p : List UInt8 × List UInt8} {M : Nat} (hr : r.length ≤ M) (hp : p.1.length ≤ M ∧ p.2.length ≤ M) : (putR r p).1.length ≤ M ∧ (putR r p).2.length ≤ M := by
  unfold putR
  constructor
  · show (if _ then _ else _ : List UInt8).length ≤ M
    split
    · rw [List.length_drop]; omega
    · exact hp.1
  · show (if _ then _ else _ : List UInt8).length ≤ M
    split
    · rw [List.length_drop]; omega
    · exact hp.2
theorem recs_none {rs : List (List UInt8 × List UInt8)} {l : List UInt8} (h : RecsIs rs l) (hl : l = []) : rs = [] := by
  cases rs with
  | nil => rfl
  | cons r rs =>
    have h2 := h.2
    rw [hl, List.flatMap_cons] at h2
    have := (List.append_eq_nil_iff.1 h2.symm).1
    exact absurd this (rec_ne _ _)
/-- Where the digits end. -/
def DigEnd (l : List UInt8) (j : Nat) : Prop := (∀ c ∈ l.take j, 48 ≤ c.toNat ∧ c.toNat ≤ 57) ∧ j ≤ 6 ∧ j ≤ l.length ∧ (j = l.length ∨ j = 6 ∨ ∃ c, l[j]? = some c ∧ ¬ (48 ≤ c.toNat ∧ c.toNat ≤ 57))
/-- A record, taken apart: how many digits, their number, the middle, the rest. -/
theorem rec_apart {k v R l : List UInt8} {j : Nat} (hk : k = pathK ∨ k = linkK) (hv : v.length ≤ 500) (hl : l = recL k v ++ R) (hj : DigEnd l j) :
    j + 1 < valD (l.take j) ∧ valD (l.take j) ≤ l.length ∧ (l.drop (j + 1)).take (valD (l.take j) - 1 - (j + 1)) = k ++ 61 :: v ∧ l.drop (valD (l.take j)) = R := by
  obtain ⟨n, hn⟩ : ∃ n, recN k v = n := ⟨_, rfl⟩
  have hkl : k.length ≤ 8 := by rcases hk with rfl | rfl <;> decide
  have hs : k.length + v.length < 1000000 := by omega
  have hlen : (recL k v).length = n := by rw [recL_len hs, hn]
  have hsum : (recL k v).length = (decL n).length + (restL k v).length := by unfold recL; rw [List.length_append, hn]
  have hrest := restL_len k v
  have hD : (decL n).length ≤ 3 := by
    rw [decL_len, ← hn]
    unfold recN
    rw [(digR_is (r := (restL k v).length) (by omega)).right]
    exact digR_small (by omega)
  have e1 : l = decL n ++ 32 :: (k ++ 61 :: (v ++ 10 :: R)) := by rw [hl]; unfold recL restL; rw [hn]; simp
  obtain ⟨d, hd⟩ : ∃ d, decL n = d := ⟨_, rfl⟩
  have hdig : ∀ c ∈ d, 48 ≤ c.toNat ∧ c.toNat ≤ 57 := by rw [← hd]; exact dec_digits n
  have hval : valD d = n := by rw [← hd]; exact valD_dec n
  rw [hd] at e1 hsum hD
  obtain ⟨h1, h2, h3, h4⟩ := hj
  have hat : l[d.length]? = some 32 := by rw [e1, List.getElem?_append_right (Nat.le_refl _), Nat.sub_self]; rfl
  have hll : d.length < l.length := (List.getElem?_eq_some_iff.1 hat).1
  have hjd : j = d.length := by
    rcases Nat.lt_trichotomy j d.length with h | h | h
    · exfalso
      rcases h4 with h4 | h4 | ⟨c, hc, hno⟩
      · omega
      · omega
      · apply hno
        rw [e1, List.getElem?_append_left h] at hc
        exact hdig c (List.mem_of_getElem? hc)
    · exact h
    · exfalso
      have hm : (32 : UInt8) ∈ l.take j := by
        apply List.mem_of_getElem? (i := d.length)
        rw [List.getElem?_take_of_lt h, hat]
      exact absurd (h1 32 hm).1 (by decide)
  subst hjd
  have htk : l.take d.length = d := by rw [e1, List.take_left' rfl]
  rw [htk, hval]
  refine ⟨by omega, ?_, ?_, ?_⟩
  · rw [hl, List.length_append, hlen]; omega
  · have e2 : l = (d ++ [32]) ++ ((k ++ 61 :: v) ++ (10 :: R)) := by rw [e1]; simp
    rw [e2, List.drop_left' (by simp), List.take_left' ?_]
    simp only [List.length_append, List.length_cons]
    omega
  · rw [hl, List.drop_left' hlen]
/-- What a header's entry's records say to the document's reader. -/
theorem recs_of {e : EntL} (hf : Fits e) : ∃ rs, RecsIs rs (recsE e) ∧ putsP rs ([], []) = (if e.name.length ≤ 100 then [] else e.name, if e.link.length ≤ 100 then [] else e.link) := by
  have hn := hf.name
  have hl := hf.link
  unfold recsE
  rcases oneR_or pathK e.name with ⟨n1, e1⟩ | ⟨n1, e1⟩ <;> rcases oneR_or linkK e.link with ⟨l1, e2⟩ | ⟨l1, e2⟩ <;> rw [e1, e2]
  · exact ⟨[], ⟨fun r hr => (by cases hr), rfl⟩, by rw [if_pos n1, if_pos l1]; rfl⟩
  · refine ⟨[(linkK, e.link)], ⟨fun r hr => ?_, by simp⟩, ?_⟩
    · rw [List.mem_singleton.1 hr]; exact ⟨.inr rfl, hl⟩
    · rw [if_pos n1, if_neg (by omega)]
      show putP linkK e.link ([], []) = _
      rw [put_link]
  · refine ⟨[(pathK, e.name)], ⟨fun r hr => ?_, by simp⟩, ?_⟩
    · rw [List.mem_singleton.1 hr]; exact ⟨.inl rfl, by show e.name.length ≤ 500; omega⟩
    · rw [if_neg (by omega), if_pos l1]
      show putP pathK e.name ([], []) = _
      rw [put_path]
  · refine ⟨[(pathK, e.name), (linkK, e.link)], ⟨fun r hr => ?_, by simp⟩, ?_⟩
    · rcases List.mem_cons.1 hr with rfl | hr
      · exact ⟨.inl rfl, by show e.name.length ≤ 500; omega⟩
      · rw [List.mem_singleton.1 hr]; exact ⟨.inr rfl, hl⟩
    · rw [if_neg (by omega), if_neg (by omega)]
      show putP linkK e.link (putP pathK e.name ([], [])) = _
      rw [put_path, put_link]
end Go.Proofs.YtecjkkipglldlaaGreatDoor.Hog
/- The document's own reader of tars, plainly: what it has read so far of a tree's tar, at each step. Nothing here names the program. -/
namespace Go.Proofs.YtecjkkipglldlaaGreatDoor.Hog
open Go

def pickN (v : List UInt8) : List UInt8 := if v.length ≤ 100 then [] else v
theorem pick_or (v : List UInt8) : (if pickN v = [] then v.take 100 else pickN v) = v := by
  unfold pickN
  by_cases h : v.length ≤ 100
  · rw [if_pos h, if_pos rfl, take_all h]
  · rw [if_neg h, if_neg (fun e => by rw [e] at h; simp at h)]
/-- If l is a tree's tar: T1 are its first nodes, a is how many bytes theirs are, and maybe those that say more of the next one, which say p and q. -/
def UpTo (l : List UInt8) (T1 : List Nd) (a : Nat) (p q : List UInt8) : Prop := ∀ t, mayN t = true → tarL t = l → ∃ i f c, StateT t i f a c ∧ i ≤ t.length ∧ T1 = t.take i ∧ (f = false → p = [] ∧ q = []) ∧ (f = true → ∃ x, t[i]? = some x ∧ p = pickN (entE x).name ∧ q = pickN (entE x).link)
/-- If l is a tree's tar, it is T1's. -/
def AllOf (l : List UInt8) (T1 : List Nd) : Prop := ∀ t, mayN t = true → tarL t = l → T1 = t
theorem TarIs.all {l : List UInt8} {T : List Nd} (h : AllOf l T) {b : Bool} (hb : mayN T = b) :
    (b = true → tarL T = l → TarIs l T 0) ∧ (b = false → TarIs l [] 5) ∧ (tarL T ≠ l → TarIs l [] 5) := by
  refine ⟨fun h1 h2 => .inl ⟨rfl, by rw [hb, h1], h2⟩, fun h1 => .inr ⟨rfl, rfl, fun t ht e => ?_⟩, fun h1 => .inr ⟨rfl, rfl, fun t ht e => ?_⟩⟩
  · have := h t ht e
    rw [← this, hb, h1] at ht
    cases ht
  · have := h t ht e
    rw [← this] at e
    exact h1 e
theorem upto_start (l : List UInt8) : UpTo l [] 0 [] [] := fun t _ _ => ⟨0, false, 0, state_start t, Nat.zero_le _, by simp, fun _ => ⟨rfl, rfl⟩, fun e => by cases e⟩

/-- What stands where an entry begins. -/
theorem here_parts {z R : List UInt8} {a : Nat} {e : EntL} (hf : Fits e) (h : z.drop a = entL e ++ R) (hR : 1024 ≤ R.length) :
    readH ((z.drop a).take 512) = some (e.name.take 100, e.kind, (e.data.length : Int), e.link.take 100) ∧ a + 512 + fullN e.data.length + 1024 ≤ z.length ∧ (z.drop (a + 512)).take e.data.length = e.data ∧ (entL e).length = 512 + fullN e.data.length := by
  obtain ⟨h1, h2, h3⟩ := entry_here hf h hR
  have h4 := entL_len hf
  have h5 : (entL e).length = 512 + fullN e.data.length := h4
  refine ⟨by rw [h1]; exact h3, by omega, ?_, h5⟩
  have e1 : z.drop (a + 512) = e.data ++ (zeros (fillN e.data.length) ++ R) := by
    rw [← List.drop_drop, h]
    unfold entL
    rw [List.append_assoc, List.drop_left' (headE_len hf), List.append_assoc]
  rw [e1, List.take_left' rfl]
theorem end_none : readH ((zeros 1024).take 512) = none := by
  cases hr : readH ((zeros 1024).take 512) with
  | none => rfl
  | some r =>
    exfalso
    obtain ⟨nm, k, sz, lk⟩ := r
    have h2 := (read_sound hr).1.some
    have h3 := head_name (read_sound hr).1
    rw [(read_sound hr).2] at h3
    apply h2
    rw [← h3]
    unfold nameF zeros
    rw [List.take_replicate, List.take_replicate, show min 100 (min 512 1024) = 99 + 1 from rfl, List.replicate_succ, List.takeWhile_cons]
    rfl
/-- What comes next: the end; the entry of the node i; or the one that says more of it. -/
def NextU (l : List UInt8) (t : List Nd) (i a c : Nat) (f : Bool) : Prop :=
  (i = t.length ∧ a + 1024 = l.length ∧ readH ((l.drop a).take 512) = none) ∨
  (∃ x, t[i]? = some x ∧ readH ((l.drop a).take 512) = some ((entE x).name.take 100, (entE x).kind, ((entE x).data.length : Int), (entE x).link.take 100) ∧ a + 512 + fullN (entE x).data.length + 1024 ≤ l.length ∧ (l.drop (a + 512)).take (entE x).data.length = (entE x).data ∧ StateT t (i + 1) false (a + 512 + fullN (entE x).data.length) (c + 1) ∧ (f = false → recsE (entE x) = [])) ∨
  (∃ x, t[i]? = some x ∧ readH ((l.drop a).take 512) = some (paxN, 5, ((recsE (entE x)).length : Int), []) ∧ a + 512 + fullN (recsE (entE x)).length + 1024 ≤ l.length ∧ (l.drop (a + 512)).take (recsE (entE x)).length = recsE (entE x) ∧ StateT t i true (a + 512 + fullN (recsE (entE x)).length) (c + 1))
theorem nodeT_unlike {x : Nd} {R R' : List UInt8} (hg : NodeG x) (h : entL (entE x) ++ R = entL (paxE (recsE (entE x))) ++ R') : False := by
  have hf := entE_fits hg
  have hp := paxE_fits (recsE_len hf)
  have h1 := ent_here hf R
  have h2 := ent_here hp R'
  rw [h, h2] at h1
  have h3 := congrArg EntU.kind h1
  have h4 : (5 : Int) = x.2.1 := h3
  rcases hg.kind with k | k | k | k <;> omega
theorem next_is {l : List UInt8} {t : List Nd} {i a c : Nat} {f : Bool} (ht : mayN t = true) (hl : tarL t = l) (h : StateT t i f a c) (hi : i ≤ t.length) : NextU l t i a c f := by
  have hG := tree_node ht
  rcases state_next h hi with ⟨h1, h2, _, h4⟩ | ⟨x, hx, ⟨R, h1, h2, h3⟩ | ⟨R, h1, h2, h3⟩⟩
  · rw [hl] at h2 h4
    exact .inl ⟨h1, h2, by rw [h4]; exact end_none⟩
  · rw [hl] at h1
    have hg := hG x (List.mem_of_getElem? hx)
    obtain ⟨k1, k2, k3, k4⟩ := here_parts (entE_fits hg) h1 h2
    rw [k4] at h3
    refine .inr (.inl ⟨x, hx, k1, k2, k3, by rw [Nat.add_assoc]; exact h3, fun hff => ?_⟩)
    cases hr : recsE (entE x) with
    | nil => rfl
    | cons y ys =>
      exfalso
      have hne : recsE (entE x) ≠ [] := by rw [hr]; simp
      rcases h with ⟨_, ha, _⟩ | ⟨hf2, _⟩
      · have e : l.drop a = nodeT x ++ (treeT (t.drop (i + 1)) ++ zeros 1024) := by
          rw [← hl]
          unfold tarL
          rw [treeT_all hx, List.append_assoc, List.append_assoc, ha, List.drop_left' rfl]
        rw [nodeT_two hne, List.append_assoc, h1] at e
        exact nodeT_unlike hg e
      · rw [hff] at hf2; cases hf2
  · rw [hl] at h1
    have hg := hG x (List.mem_of_getElem? hx)
    obtain ⟨k1, k2, k3, k4⟩ := here_parts (paxE_fits (recsE_len (entE_fits hg))) h1 h2
    rw [k4] at h3
    exact .inr (.inr ⟨x, hx, k1, k2, k3, by rw [Nat.add_assoc]; exact h3⟩)

section
variable {l : List UInt8} {T1 : List Nd} {a : Nat} {p q : List UInt8}
theorem upto_short (h : UpTo l T1 a p q) (hs : l.length < a + 512) : AllOf l T1 := fun t ht hl => by
  obtain ⟨i, f, c, h1, h2, h3, _⟩ := h t ht hl
  exfalso
  rcases next_is ht hl h1 h2 with ⟨_, k, _⟩ | ⟨_, _, _, k, _⟩ | ⟨_, _, _, k, _⟩ <;> omega
theorem upto_many (h : UpTo l T1 a p q) (hs : 400 < T1.length) : AllOf l T1 := fun t ht hl => by
  obtain ⟨i, f, c, h1, h2, h3, _⟩ := h t ht hl
  exfalso
  have := tree_len ht
  rw [h3, List.length_take] at hs
  omega
theorem upto_none (h : UpTo l T1 a p q) (hn : readH ((l.drop a).take 512) = none) : AllOf l T1 := fun t ht hl => by
  obtain ⟨i, f, c, h1, h2, h3, _⟩ := h t ht hl
  rcases next_is ht hl h1 h2 with ⟨k, _, _⟩ | ⟨_, _, k, _⟩ | ⟨_, _, k, _⟩
  · rw [h3, k, List.take_length]
  · rw [hn] at k; cases k
  · rw [hn] at k; cases k
theorem upto_over {nm lk : List UInt8} {kd : Int} {sz : Nat} (h : UpTo l T1 a p q) (hr : readH ((l.drop a).take 512) = some (nm, kd, (sz : Int), lk)) (ho : l.length < a + 512 + sz) : AllOf l T1 := fun t ht hl => by
  obtain ⟨i, f, c, h1, h2, h3, _⟩ := h t ht hl
  exfalso
  rcases next_is ht hl h1 h2 with ⟨_, _, k⟩ | ⟨x, _, k, k2, _⟩ | ⟨x, _, k, k2, _⟩
  · rw [hr] at k; cases k
  · rw [hr] at k
    simp only [Option.some.injEq, Prod.mk.injEq] at k
    have e : sz = (entE x).data.length := by omega
    unfold fullN at k2
    omega
  · rw [hr] at k
    simp only [Option.some.injEq, Prod.mk.injEq] at k
    have e : sz = (recsE (entE x)).length := by omega
    unfold fullN at k2
    omega
theorem upto_pax {nm lk p' q' : List UInt8} {sz : Nat} (h : UpTo l T1 a p q) (hr : readH ((l.drop a).take 512) = some (nm, 5, (sz : Int), lk)) (hd : ∀ rs, RecsIs rs ((l.drop (a + 512)).take sz) → putsP rs ([], []) = (p', q')) : UpTo l T1 (a + 512 + fullN sz) p' q' := fun t ht hl => by
  obtain ⟨i, f, c, h1, h2, h3, _⟩ := h t ht hl
  rcases next_is ht hl h1 h2 with ⟨_, _, k⟩ | ⟨x, hx, k, k2, _⟩ | ⟨x, hx, k, k2, k3, k4⟩
  · rw [hr] at k; cases k
  · exfalso
    rw [hr] at k
    simp only [Option.some.injEq, Prod.mk.injEq] at k
    have k5 : (5 : Int) = x.2.1 := k.2.1
    rcases (tree_node ht x (List.mem_of_getElem? hx)).kind with e | e | e | e <;> omega
  · rw [hr] at k
    simp only [Option.some.injEq, Prod.mk.injEq] at k
    obtain rfl : sz = (recsE (entE x)).length := by omega
    obtain ⟨rs, r1, r2⟩ := recs_of (entE_fits (tree_node ht x (List.mem_of_getElem? hx)))
    rw [k3] at hd
    have h5 := hd rs r1
    rw [r2] at h5
    simp only [Prod.mk.injEq] at h5
    exact ⟨i, true, c + 1, k4, h2, h3, (fun e => by cases e), fun _ => ⟨x, hx, h5.1.symm, h5.2.symm⟩⟩
theorem upto_node {nm lk : List UInt8} {kd : Int} {sz : Nat} (h : UpTo l T1 a p q) (hr : readH ((l.drop a).take 512) = some (nm, kd, (sz : Int), lk)) (h5 : kd ≠ 5) :
    UpTo l (T1 ++ [nodeE (if p = [] then nm else p) kd (if q = [] then lk else q) ((l.drop (a + 512)).take sz)]) (a + 512 + fullN sz) [] [] := fun t ht hl => by
  obtain ⟨i, f, c, h1, h2, h3, h4, h6⟩ := h t ht hl
  rcases next_is ht hl h1 h2 with ⟨_, _, k⟩ | ⟨x, hx, k, k2, k3, k4, k5⟩ | ⟨x, hx, k, _⟩
  · rw [hr] at k; cases k
  · rw [hr] at k
    simp only [Option.some.injEq, Prod.mk.injEq] at k
    obtain ⟨rfl, rfl, hsz, rfl⟩ := k
    obtain rfl : sz = (entE x).data.length := by omega
    have hpq : (if p = [] then (entE x).name.take 100 else p) = (entE x).name ∧ (if q = [] then (entE x).link.take 100 else q) = (entE x).link := by
      cases f with
      | false =>
        obtain ⟨rfl, rfl⟩ := h4 rfl
        obtain ⟨n1, n2⟩ := recs_nil (k5 rfl)
        rw [if_pos rfl, if_pos rfl, take_all n1, take_all n2]
        exact ⟨rfl, rfl⟩
      | true =>
        obtain ⟨x', hx', rfl, rfl⟩ := h6 rfl
        rw [hx] at hx'
        cases hx'
        exact ⟨pick_or _, pick_or _⟩
    rw [hpq.1, hpq.2, k3, nodeE_back (path_dot ht x (List.mem_of_getElem? hx))]
    obtain ⟨hi2, hx2⟩ := List.getElem?_eq_some_iff.1 hx
    refine ⟨i + 1, false, c + 1, k4, hi2, ?_, fun _ => ⟨rfl, rfl⟩, fun e => by cases e⟩
    rw [h3, List.take_succ_eq_append_getElem hi2, hx2]
  · exfalso
    rw [hr] at k
    simp only [Option.some.injEq, Prod.mk.injEq] at k
    exact h5 k.2.1
end
end Go.Proofs.YtecjkkipglldlaaGreatDoor.Hog
