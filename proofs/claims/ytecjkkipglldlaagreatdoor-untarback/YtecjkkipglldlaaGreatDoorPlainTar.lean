/- Where the entries of a tar lie, plainly. Nothing here names the program. -/
import Derived.Test.YtecjkkipglldlaaGreatDoorPlainJ
namespace Go.Proofs.YtecjkkipglldlaaGreatDoor.Hog
open Go

/-- The bytes ahead: all of the first i nodes (f false), or also the entry that says more of the next (f true); p entries. -/
def StateT (t : List Nd) (i : Nat) (f : Bool) (a p : Nat) : Prop :=
  (f = false ∧ a = (treeT (t.take i)).length ∧ p = countT (t.take i)) ∨
  (f = true ∧ ∃ x, t[i]? = some x ∧ recsE (entE x) ≠ [] ∧ a = (treeT (t.take i)).length + (entL (paxE (recsE (entE x)))).length ∧ p = countT (t.take i) + 1)
theorem treeT_all {t : List Nd} {i : Nat} {x : Nd} (h : t[i]? = some x) : treeT t = treeT (t.take i) ++ (nodeT x ++ treeT (t.drop (i + 1))) := by
  obtain ⟨hi, rfl⟩ := List.getElem?_eq_some_iff.1 h
  have e : t = t.take i ++ (t[i] :: t.drop (i + 1)) := by rw [← List.drop_eq_getElem_cons hi, List.take_append_drop]
  conv => lhs; rw [e]
  unfold treeT
  rw [List.flatMap_append, List.flatMap_cons]
/-- What comes next: the end; or the entry of the node i; or the one that says more of it. -/
theorem state_next {t : List Nd} {i a p : Nat} {f : Bool} (h : StateT t i f a p) (hi : i ≤ t.length) :
    (i = t.length ∧ a + 1024 = (tarL t).length ∧ p = countT t ∧ (tarL t).drop a = zeros 1024) ∨
    ∃ x, t[i]? = some x ∧ ((∃ R, (tarL t).drop a = entL (entE x) ++ R ∧ 1024 ≤ R.length ∧ StateT t (i + 1) false (a + (entL (entE x)).length) (p + 1)) ∨
      (∃ R, (tarL t).drop a = entL (paxE (recsE (entE x))) ++ R ∧ 1024 ≤ R.length ∧ StateT t i true (a + (entL (paxE (recsE (entE x)))).length) (p + 1))) := by
  rcases h with ⟨rfl, ha, hp⟩ | ⟨rfl, x, hx, hr, ha, hp⟩
  · by_cases hl : i < t.length
    · obtain ⟨x, hx⟩ : ∃ x, t[i]? = some x := ⟨t[i], List.getElem?_eq_getElem hl⟩
      refine .inr ⟨x, hx, ?_⟩
      have e : (tarL t).drop a = nodeT x ++ (treeT (t.drop (i + 1)) ++ zeros 1024) := by
        unfold tarL
        rw [treeT_all hx, List.append_assoc, List.append_assoc, ha, List.drop_left' rfl]
      by_cases hr : recsE (entE x) = []
      · refine .inl ⟨_, by rw [e, nodeT_one hr], by rw [List.length_append, zeros_len]; omega, .inl ⟨rfl, ?_, ?_⟩⟩
        · rw [treeT_step hx, List.length_append, nodeT_one hr, ha]
        · rw [countT_step hx, hp]; unfold entsN; rw [if_pos hr]; rfl
      · refine .inr ⟨entL (entE x) ++ (treeT (t.drop (i + 1)) ++ zeros 1024), by rw [e, nodeT_two hr, List.append_assoc], by rw [List.length_append, List.length_append, zeros_len]; omega, .inr ⟨rfl, x, hx, hr, ?_, ?_⟩⟩
        · rw [ha]
        · rw [hp]
    · have hit : i = t.length := by omega
      rw [hit, List.take_length] at ha hp
      refine .inl ⟨hit, ?_, hp, ?_⟩
      · unfold tarL; rw [List.length_append, zeros_len, ha]
      · unfold tarL; rw [ha, List.drop_left' rfl]
  · refine .inr ⟨x, hx, .inl ⟨treeT (t.drop (i + 1)) ++ zeros 1024, ?_, by rw [List.length_append, zeros_len]; omega, .inl ⟨rfl, ?_, ?_⟩⟩⟩
    · unfold tarL
      rw [treeT_all hx, nodeT_two hr, List.append_assoc, List.append_assoc, List.append_assoc, ← List.append_assoc (treeT (t.take i)), List.drop_left' (by rw [List.length_append, ha])]
    · rw [treeT_step hx, List.length_append, nodeT_two hr, List.length_append, ha]; omega
    · rw [countT_step hx, hp]; unfold entsN; rw [if_neg hr]; rfl
theorem state_start (t : List Nd) : StateT t 0 false 0 0 := .inl ⟨rfl, by simp [treeT], by simp [countT]⟩
/-- A header, read where an entry begins. -/
theorem entry_here {z R : List UInt8} {a : Nat} {e : EntL} (hf : Fits e) (h : z.drop a = entL e ++ R) (hR : 1024 ≤ R.length) :
    (z.drop a).take 512 = headE e ∧ a + (entL e).length + R.length = z.length ∧ readH (headE e) = some (e.name.take 100, e.kind, (e.data.length : Int), e.link.take 100) := by
  refine ⟨?_, ?_, read_head hf.may⟩
  · rw [h]
    unfold entL
    rw [List.append_assoc, List.take_left' (headE_len hf)]
  · have h1 := congrArg List.length h
    rw [List.length_drop, List.length_append] at h1
    omega
theorem tarL_mod {t : List Nd} (h : ∀ n ∈ t, NodeG n) : (tarL t).length % 512 = 0 := by
  have key : ∀ t : List Nd, (∀ n ∈ t, NodeG n) → (treeT t).length % 512 = 0 := by
    intro t
    induction t with
    | nil => intro _; rfl
    | cons x t ih =>
      intro h
      have h1 := ih (fun n hn => h n (List.mem_cons_of_mem _ hn))
      have h2 : (nodeT x).length % 512 = 0 := by
        have hx := h x (by simp)
        have hf := entE_fits hx
        by_cases hr : recsE (entE x) = []
        · rw [nodeT_one hr, entL_len hf]; omega
        · rw [nodeT_two hr, List.length_append, entL_len hf, entL_len (paxE_fits (recsE_len hf))]; omega
      unfold treeT at h1 ⊢
      rw [List.flatMap_cons, List.length_append]
      omega
  unfold tarL
  rw [List.length_append, zeros_len]
  have := key t h
  omega
end Go.Proofs.YtecjkkipglldlaaGreatDoor.Hog
