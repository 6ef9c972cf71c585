/- Tars, plainly: records, entries, what a tree's nodes come to. Nothing here names the program. -/
import Derived.Test.YtecjkkipglldlaaGreatDoorPlainE
import Derived.Test.YtecjkkipglldlaaGreatDoorPlainF
import Derived.Lib.ItoaNum
namespace Go.Proofs.YtecjkkipglldlaaGreatDoor.Hog
open Go

def decL (n : Nat) : List UInt8 := Lib.decDigits n
theorem decL_len (n : Nat) : (decL n).length = Lib.nDigits n := Lib.decDigits_length n
theorem decL_one {n : Nat} (h : n < 10) : decL n = [UInt8.ofNat (48 + n)] := Lib.decDigits_one h
theorem decL_more {n : Nat} (h : ¬ n < 10) : decL n = decL (n / 10) ++ [UInt8.ofNat (48 + n % 10)] := by unfold decL; rw [Lib.decDigits, dif_neg h]
theorem nDigits_mono : ∀ {a b : Nat}, a ≤ b → Lib.nDigits a ≤ Lib.nDigits b := by
  intro a
  induction a using Nat.strongRecOn with
  | _ a ih =>
    intro b h
    by_cases ha : a < 10
    · rw [Lib.nDigits_small ha]; exact Lib.nDigits_pos b
    · rw [Lib.nDigits_big ha, Lib.nDigits_big (u := b) (by omega)]
      have := ih (a / 10) (by omega) (b := b / 10) (by omega)
      omega
theorem nDigits_le {n k : Nat} (h : n < 10 ^ (k + 1)) : Lib.nDigits n ≤ k + 1 := by
  induction k generalizing n with
  | zero => rw [Lib.nDigits_small (by simpa using h)]; exact Nat.le_refl _
  | succ k ih =>
    by_cases h1 : n < 10
    · rw [Lib.nDigits_small h1]; omega
    · rw [Lib.nDigits_big h1]
      have := ih (n := n / 10) (by rw [Nat.pow_succ] at h; omega)
      omega

/-- D is the least count of digits that counts itself right. -/
structure IsDig (r D : Nat) : Prop where
  pos : 1 ≤ D
  small : D ≤ 8
  right : Lib.nDigits (r + D) = D
  least : ∀ j, 1 ≤ j → j < D → Lib.nDigits (r + j) ≠ j
def digF (r : Nat) : Nat → Nat → Nat
  | 0, d => d
  | f + 1, d => if Lib.nDigits (r + d) = d then d else digF r f (d + 1)
def digR (r : Nat) : Nat := digF r 8 1
theorem digF_is {r : Nat} (hr : Lib.nDigits (r + 8) ≤ 8) : ∀ f d, 1 ≤ d → d + f = 9 → d ≤ Lib.nDigits (r + d) → (∀ j, 1 ≤ j → j < d → Lib.nDigits (r + j) ≠ j) → d ≤ 8 → IsDig r (digF r f d) := by
  intro f
  induction f with
  | zero => intro d h1 h2 _ _ h5; omega
  | succ f ih =>
    intro d h1 h2 h3 h4 h5
    rw [digF]
    split
    · rename_i h; exact ⟨h1, h5, h, h4⟩
    · rename_i h
      have h8 : d ≠ 8 := fun e => by subst e; omega
      have hm := nDigits_mono (show r + d ≤ r + (d + 1) by omega)
      refine ih (d + 1) (by omega) (by omega) (by omega) (fun j hj1 hj2 => ?_) (by omega)
      by_cases hjd : j = d
      · subst hjd; exact h
      · exact h4 j hj1 (by omega)
theorem digR_is {r : Nat} (hr : r < 10000000) : IsDig r (digR r) :=
  digF_is (nDigits_le (k := 7) (by omega)) 8 1 (by omega) (by omega) (Lib.nDigits_pos _) (fun j h1 h2 => by omega) (by omega)
theorem IsDig.one {r D E : Nat} (h : IsDig r D) (k : IsDig r E) : D = E := by
  rcases Nat.lt_trichotomy D E with h1 | h1 | h1
  · exact absurd h.right (k.least D h.pos h1)
  · exact h1
  · exact absurd k.right (h.least E k.pos h1)

/-- What stands behind a record's digits. -/
def restL (k v : List UInt8) : List UInt8 := [32] ++ k ++ [61] ++ v ++ [10]
theorem restL_len (k v : List UInt8) : (restL k v).length = k.length + v.length + 3 := by unfold restL; simp; omega
def recN (k v : List UInt8) : Nat := (restL k v).length + digR (restL k v).length
def recL (k v : List UInt8) : List UInt8 := decL (recN k v) ++ restL k v
theorem recL_len {k v : List UInt8} (h : k.length + v.length < 1000000) : (recL k v).length = recN k v := by
  have hd := digR_is (r := (restL k v).length) (by rw [restL_len]; omega)
  unfold recL
  rw [List.length_append, decL_len]
  unfold recN at *
  rw [hd.right]; omega
theorem recN_le {k v : List UInt8} (h : k.length + v.length < 1000000) : recN k v ≤ k.length + v.length + 11 := by
  have hd := digR_is (r := (restL k v).length) (by rw [restL_len]; omega)
  have := hd.small
  unfold recN
  rw [restL_len] at *; omega
/-- A record of fewer than 1,000 bytes has fewer than four digits. -/
theorem digR_small {r : Nat} (h : r < 990) : digR r ≤ 3 := by
  have hd := digR_is (r := r) (by omega)
  have h1 := nDigits_le (n := r + 8) (k := 2) (by omega)
  have h2 := nDigits_mono (show r + digR r ≤ r + 8 by have := hd.small; omega)
  rw [hd.right] at h2; omega

/-- An entry: its name, its kind, where it goes, its bytes. -/
structure EntL where
  name : List UInt8
  kind : Int
  link : List UInt8
  data : List UInt8
def pathK : List UInt8 := [112, 97, 116, 104]
def linkK : List UInt8 := [108, 105, 110, 107, 112, 97, 116, 104]
def paxN : List UInt8 := [112, 97, 120]
def entE (n : Nd) : EntL := ⟨if n.1.data.toList = [] then [46] else n.1.data.toList, n.2.1, if n.2.1 = 4 then n.2.2.data.toList else [], if n.2.1 = 4 then [] else n.2.2.data.toList⟩
def oneR (k v : List UInt8) : List UInt8 := if v.length ≤ 100 then [] else recL k v
def recsE (e : EntL) : List UInt8 := oneR pathK e.name ++ oneR linkK e.link
def paxE (m : List UInt8) : EntL := ⟨paxN, 5, [], m⟩
def entsN (n : Nd) : List EntL := if recsE (entE n) = [] then [entE n] else [paxE (recsE (entE n)), entE n]
def fillN (k : Nat) : Nat := (512 - k % 512) % 512
def zeros (k : Nat) : List UInt8 := List.replicate k 0
def headE (e : EntL) : List UInt8 := headH (e.name.take 100) e.kind e.data.length (e.link.take 100)
def entL (e : EntL) : List UInt8 := headE e ++ (e.data ++ zeros (fillN e.data.length))
def nodeT (n : Nd) : List UInt8 := (entsN n).flatMap entL
def treeT (t : List Nd) : List UInt8 := t.flatMap nodeT
def tarL (t : List Nd) : List UInt8 := treeT t ++ zeros 1024
def countT (t : List Nd) : Nat := (t.map fun n => (entsN n).length).sum

/-- An entry that has a header. -/
structure Fits (e : EntL) : Prop where
  may : May (e.name.take 100) e.kind e.data.length (e.link.take 100)
  name : e.name.length ≤ 300
  link : e.link.length ≤ 500
  data : e.data.length ≤ 1000
theorem fillN_lt (k : Nat) : fillN k < 512 := Nat.mod_lt _ (by decide)
theorem fillN_add (k : Nat) : k + fillN k = (k + 511) / 512 * 512 := by unfold fillN; omega
theorem fillN_mod (k : Nat) : (k + fillN k) % 512 = 0 := by rw [fillN_add]; omega
theorem headE_len {e : EntL} (h : Fits e) : (headE e).length = 512 := head_len h.may
theorem entL_len {e : EntL} (h : Fits e) : (entL e).length = 512 + (e.data.length + 511) / 512 * 512 := by
  unfold entL
  rw [List.length_append, headE_len h, List.length_append, zeros, List.length_replicate, fillN_add]
theorem cut_mem : ∀ (p : List UInt8) (c : UInt8), c ∈ p → c = 47 ∨ ∃ x ∈ cutL p, c ∈ x
  | d :: r, c, h => by
    by_cases hd : d = 47
    · subst hd
      rcases List.mem_cons.1 h with rfl | h
      · exact .inl rfl
      · rcases cut_mem r c h with h | ⟨x, hx, hc⟩
        · exact .inl h
        · exact .inr ⟨x, by rw [cut_stroke]; exact List.mem_cons_of_mem _ hx, hc⟩
    · obtain ⟨u, t, e⟩ : ∃ u t, cutL r = u :: t := by
        cases e : cutL r with
        | nil => exact absurd e (cut_ne r)
        | cons u t => exact ⟨u, t, rfl⟩
      rw [cut_other d r u t hd e]
      rcases List.mem_cons.1 h with rfl | h
      · exact .inr ⟨_, List.mem_cons_self, List.mem_cons_self⟩
      · rcases cut_mem r c h with h | ⟨x, hx, hc⟩
        · exact .inl h
        · rw [e] at hx
          rcases List.mem_cons.1 hx with rfl | hx
          · exact .inr ⟨_, List.mem_cons_self, List.mem_cons_of_mem _ hc⟩
          · exact .inr ⟨x, List.mem_cons_of_mem _ hx, hc⟩
theorem may_zero {p : List UInt8} (h : mayL p = true) : (0 : UInt8) ∉ p := by
  intro h0
  have hne : p ≠ [] := fun e => by rw [e] at h0; cases h0
  have h2 := (may_parts h).2.2
  unfold cutC at h2
  rw [if_neg hne] at h2
  rcases cut_mem p 0 h0 with e | ⟨x, hx, hc⟩
  · cases e
  · exact (part_parts (List.all_eq_true.1 h2 x hx)).2.2.2 hc
/-- What a good node is. -/
structure NodeG (n : Nd) : Prop where
  path : n.1.data.toList.length ≤ 200
  free : (0 : UInt8) ∉ n.1.data.toList
  kind : n.2.1 = 1 ∨ n.2.1 = 2 ∨ n.2.1 = 3 ∨ n.2.1 = 4
  data : n.2.2.data.toList.length ≤ 400
  dir : n.2.1 = 1 → n.2.2.data.toList = []
  link : n.2.1 = 4 → n.2.2.data.toList ≠ [] ∧ (0 : UInt8) ∉ n.2.2.data.toList
theorem good_node {n : Nd} (h : goodB n = true) : NodeG n := by
  unfold goodB ruleB at h
  rw [Bool.and_eq_true] at h
  obtain ⟨h1, h2⟩ := h
  have hs : ∀ d : ByteArray, dataShort d = true → d.data.toList.length ≤ 400 := fun d hd => by unfold dataShort at hd; rw [decide_eq_true_eq, Hog.size_len] at hd; exact hd
  by_cases k1 : n.2.1 = 1
  · rw [if_pos k1, dataEmpty_iff] at h2
    exact ⟨(may_parts h1).1, may_zero h1, .inl k1, by rw [h2]; decide, fun _ => h2, fun e => by omega⟩
  rw [if_neg k1] at h2
  by_cases k2 : n.2.1 = 2 ∨ n.2.1 = 3
  · rw [if_pos k2] at h2
    exact ⟨(may_parts h1).1, may_zero h1, by omega, hs _ h2, fun e => by omega, fun e => by omega⟩
  rw [if_neg k2] at h2
  by_cases k4 : n.2.1 = 4
  · rw [if_pos k4] at h2
    unfold dataLink dataFree at h2
    simp only [Bool.and_eq_true, Bool.not_eq_true', decide_eq_true_eq] at h2
    refine ⟨(may_parts h1).1, may_zero h1, by omega, hs _ h2.1.2, fun e => by omega, fun _ => ⟨fun e => ?_, h2.2⟩⟩
    rw [(dataEmpty_iff _).2 e] at h2
    exact absurd h2.1.1 (by decide)
  · rw [if_neg k4] at h2; cases h2
theorem tree_node {t : List Nd} (h : mayN t = true) : ∀ n ∈ t, NodeG n := fun n hn => good_node ((may_tree h).good n hn)
theorem tree_len {t : List Nd} (h : mayN t = true) : t.length ≤ 400 := (may_tree h).len

theorem fill_take {l : List UInt8} (h : (0 : UInt8) ∉ l) : fillB (l.take 100) = true := by
  unfold fillB
  rw [decide_eq_true (show (l.take 100).length ≤ 100 by rw [List.length_take]; omega), decide_eq_true (show ¬ (0 : UInt8) ∈ l.take 100 from fun hm => h (List.mem_of_mem_take hm))]; rfl
theorem octR_size {n : Nat} (h : n < 8589934592) : octR n 11 = true := by
  unfold octR
  rw [decide_eq_true_eq]
  refine ⟨by omega, by omega, by omega, ?_⟩
  rw [Int.toNat_natCast]
  have : 8 ^ (11 : Int).toNat = 8589934592 := by decide
  omega
theorem entE_fits {n : Nd} (h : NodeG n) : Fits (entE n) := by
  have hname : (entE n).name ≠ [] ∧ (0 : UInt8) ∉ (entE n).name ∧ (entE n).name.length ≤ 200 := by
    unfold entE
    by_cases e : n.1.data.toList = []
    · simp only [e, if_true]; decide
    · simp only [if_neg e]; exact ⟨e, h.free, h.path⟩
  have hdata : (entE n).data.length ≤ 400 := by
    unfold entE
    simp only
    split
    · decide
    · exact h.data
  have hlink : (0 : UInt8) ∉ (entE n).link ∧ (entE n).link.length ≤ 400 := by
    unfold entE
    simp only
    split
    · rename_i e; exact ⟨(h.link e).2, h.data⟩
    · exact ⟨by decide, by decide⟩
  refine ⟨⟨octR_size (by omega), ?_, fill_take hname.2.1, fill_take hlink.1, ?_⟩, by omega, by omega, by omega⟩
  · intro e
    rw [List.take_eq_nil_iff] at e
    rcases e with e | e
    · omega
    · exact hname.1 e
  · unfold mayK
    rw [decide_eq_true_eq]
    by_cases k4 : n.2.1 = 4
    · refine .inr (.inl ⟨k4, ?_, ?_⟩)
      · unfold entE; simp only [k4, if_true]; rfl
      · unfold entE
        simp only [k4, if_true]
        intro e
        rw [List.take_eq_nil_iff] at e
        rcases e with e | e
        · omega
        · exact (h.link k4).1 e
    · have el : (entE n).link.take 100 = [] := by unfold entE; simp only [if_neg k4]; rfl
      have ed : (entE n).data = n.2.2.data.toList := by unfold entE; simp only [if_neg k4]
      have ek : (entE n).kind = n.2.1 := rfl
      rcases h.kind with k | k | k | k
      · exact .inl ⟨by rw [ek]; exact k, by rw [ed, h.dir k]; rfl, el⟩
      · exact .inr (.inr ⟨.inl (by rw [ek]; exact k), el⟩)
      · exact .inr (.inr ⟨.inr (.inl (by rw [ek]; exact k)), el⟩)
      · exact absurd k k4
theorem oneR_len {k v : List UInt8} (hk : k.length ≤ 10) (hv : v.length ≤ 500) : (oneR k v).length ≤ v.length + 16 := by
  unfold oneR
  split
  · simp
  · rw [recL_len (by omega)]
    have h3 := digR_small (r := (restL k v).length) (by rw [restL_len]; omega)
    unfold recN
    rw [restL_len] at *; omega
theorem recsE_len {e : EntL} (h : Fits e) : (recsE e).length ≤ 832 := by
  unfold recsE
  rw [List.length_append]
  have := oneR_len (k := pathK) (v := e.name) (by decide) (by have := h.name; omega)
  have := oneR_len (k := linkK) (v := e.link) (by decide) h.link
  have := h.name
  have := h.link
  omega
theorem paxE_fits {m : List UInt8} (h : m.length ≤ 832) : Fits (paxE m) :=
  ⟨⟨octR_size (by show m.length < _; omega), show paxN.take 100 ≠ [] by decide, show fillB (paxN.take 100) = true by decide, show fillB (([] : List UInt8).take 100) = true by decide, by unfold mayK; rw [decide_eq_true_eq]; exact .inr (.inr ⟨.inr (.inr rfl), rfl⟩)⟩, by show (3 : Nat) ≤ 300; decide, by show (0 : Nat) ≤ 500; decide, by show m.length ≤ 1000; omega⟩
theorem entsN_fits {n : Nd} (h : NodeG n) : ∀ e ∈ entsN n, Fits e := by
  intro e he
  have hf := entE_fits h
  unfold entsN at he
  split at he
  · rw [List.mem_singleton] at he; subst he; exact hf
  · rcases List.mem_cons.1 he with rfl | he
    · exact paxE_fits (recsE_len hf)
    · rw [List.mem_singleton] at he; subst he; exact hf
theorem entL_le {e : EntL} (h : Fits e) : (entL e).length ≤ 1536 := by rw [entL_len h]; have := h.data; omega
theorem flat_le {B : Nat} {α : Type} (f : α → List UInt8) : ∀ (l : List α), (∀ x ∈ l, (f x).length ≤ B) → (l.flatMap f).length ≤ l.length * B
  | [], _ => by simp
  | x :: l, h => by
    have h1 := h x (by simp)
    have h2 := flat_le f l (fun y hy => h y (List.mem_cons_of_mem _ hy))
    rw [List.flatMap_cons, List.length_append, List.length_cons, Nat.add_mul]
    omega
theorem entsN_len (n : Nd) : 1 ≤ (entsN n).length ∧ (entsN n).length ≤ 2 := by unfold entsN; split <;> simp
theorem nodeT_le {n : Nd} (h : NodeG n) : (nodeT n).length ≤ 3072 := by
  have := flat_le (B := 1536) entL (entsN n) (fun e he => entL_le (entsN_fits h e he))
  have h2 := (entsN_len n).2
  unfold nodeT
  have : (entsN n).length * 1536 ≤ 2 * 1536 := Nat.mul_le_mul_right _ h2
  omega
theorem treeT_le {t : List Nd} (h : ∀ n ∈ t, NodeG n) (hl : t.length ≤ 400) (k : Nat) : (treeT (t.take k)).length ≤ 1228800 := by
  have h1 := flat_le (B := 3072) nodeT (t.take k) (fun n hn => nodeT_le (h n (List.mem_of_mem_take hn)))
  have h2 : (t.take k).length ≤ 400 := by rw [List.length_take]; omega
  unfold treeT
  omega
theorem treeT_step {t : List Nd} {k : Nat} {n : Nd} (h : t[k]? = some n) : treeT (t.take (k + 1)) = treeT (t.take k) ++ nodeT n := by
  obtain ⟨h1, rfl⟩ := List.getElem?_eq_some_iff.1 h
  unfold treeT
  rw [List.take_succ_eq_append_getElem h1, List.flatMap_append, List.flatMap_cons, List.flatMap_nil, List.append_nil]
theorem countT_step {t : List Nd} {k : Nat} {n : Nd} (h : t[k]? = some n) : countT (t.take (k + 1)) = countT (t.take k) + (entsN n).length := by
  obtain ⟨h1, rfl⟩ := List.getElem?_eq_some_iff.1 h
  unfold countT
  rw [List.take_succ_eq_append_getElem h1, List.map_append, List.sum_append]
  simp
theorem countT_le {t : List Nd} (k : Nat) : countT (t.take k) ≤ 2 * k := by
  induction k with
  | zero => simp [countT]
  | succ k ih =>
    by_cases h : k < t.length
    · rw [countT_step (List.getElem?_eq_getElem h)]
      have := (entsN_len t[k]).2
      omega
    · rw [List.take_of_length_le (by omega)] at ih ⊢
      omega
theorem nodeT_one {n : Nd} (h : recsE (entE n) = []) : nodeT n = entL (entE n) := by unfold nodeT entsN; rw [if_pos h]; simp
theorem nodeT_two {n : Nd} (h : recsE (entE n) ≠ []) : nodeT n = entL (paxE (recsE (entE n))) ++ entL (entE n) := by unfold nodeT entsN; rw [if_neg h]; simp
theorem zeros_len (k : Nat) : (zeros k).length = k := List.length_replicate
theorem zeros_snoc (k : Nat) : zeros k ++ [0] = zeros (k + 1) := by unfold zeros; rw [List.replicate_succ']
end Go.Proofs.YtecjkkipglldlaaGreatDoor.Hog
