/- The document's own reader of tars, plainly: what it has read so far of a tree's tar, at each step. Nothing here names the program. -/
import Derived.Test.YtecjkkipglldlaaGreatDoorPlainUr
namespace Go.Proofs.YtecjkkipglldlaaGreatDoor.Hog
open Go

def pickN (v : List UInt8) : List UInt8 := if v.length ≤ 100 then [] else v
theorem pick_or (v : List UInt8) : (if pickN v = [] then v.take 100 else pickN v) = v := by
  unfold pickN
  by_cases h : v.length ≤ 100
  · rw [if_pos h, if_pos rfl, take_all h]
  · rw [if_neg h, if_neg (fun e => by rw [e] at h; simp at h)]
/-- If l is a tree's tar: T1 are its first nodes, a is how many bytes theirs are, and maybe those that say more of the next one, which say p and q. -/
def UpTo (l : List UInt8) (T1 : List Nd) (a : Nat) (p q : List UInt8) : Prop := ∀ t, mayN t = true → tarL t = l → ∃ i f c, StateT t i f a c ∧ i ≤ t.length ∧ T1 = t.take i ∧ (f = false → p = [] ∧ q = []) ∧ (f = true → ∃ x, t[i]? = some x ∧ p = pickN (entE x).name ∧ q = pickN (entE x).link)
/-- If l is a tree's tar, it is T1's. -/
def AllOf (l : List UInt8) (T1 : List Nd) : Prop := ∀ t, mayN t = true → tarL t = l → T1 = t
theorem TarIs.all {l : List UInt8} {T : List Nd} (h : AllOf l T) {b : Bool} (hb : mayN T = b) :
    (b = true → tarL T = l → TarIs l T 0) ∧ (b = false → TarIs l [] 5) ∧ (tarL T ≠ l → TarIs l [] 5) := by
  refine ⟨fun h1 h2 => .inl ⟨rfl, by rw [hb, h1], h2⟩, fun h1 => .inr ⟨rfl, rfl, fun t ht e => ?_⟩, fun h1 => .inr ⟨rfl, rfl, fun t ht e => ?_⟩⟩
  · have := h t ht e
    rw [← this, hb, h1] at ht
    cases ht
  · have := h t ht e
    rw [← this] at e
    exact h1 e
theorem upto_start (l : List UInt8) : UpTo l [] 0 [] [] := fun t _ _ => ⟨0, false, 0, state_start t, Nat.zero_le _, by simp, fun _ => ⟨rfl, rfl⟩, fun e => by cases e⟩

/-- What stands where an entry begins. -/
theorem here_parts {z R : List UInt8} {a : Nat} {e : EntL} (hf : Fits e) (h : z.drop a = entL e ++ R) (hR : 1024 ≤ R.length) :
    readH ((z.drop a).take 512) = some (e.name.take 100, e.kind, (e.data.length : Int), e.link.take 100) ∧ a + 512 + fullN e.data.length + 1024 ≤ z.length ∧ (z.drop (a + 512)).take e.data.length = e.data ∧ (entL e).length = 512 + fullN e.data.length := by
  obtain ⟨h1, h2, h3⟩ := entry_here hf h hR
  have h4 := entL_len hf
  have h5 : (entL e).length = 512 + fullN e.data.length := h4
  refine ⟨by rw [h1]; exact h3, by omega, ?_, h5⟩
  have e1 : z.drop (a + 512) = e.data ++ (zeros (fillN e.data.length) ++ R) := by
    rw [← List.drop_drop, h]
    unfold entL
    rw [List.append_assoc, List.drop_left' (headE_len hf), List.append_assoc]
  rw [e1, List.take_left' rfl]
theorem end_none : readH ((zeros 1024).take 512) = none := by
  cases hr : readH ((zeros 1024).take 512) with
  | none => rfl
  | some r =>
    exfalso
    obtain ⟨nm, k, sz, lk⟩ := r
    have h2 := (read_sound hr).1.some
    have h3 := head_name (read_sound hr).1
    rw [(read_sound hr).2] at h3
    apply h2
    rw [← h3]
    unfold nameF zeros
    rw [List.take_replicate, List.take_replicate, show min 100 (min 512 1024) = 99 + 1 from rfl, List.replicate_succ, List.takeWhile_cons]
    rfl
/-- The cases of what comes next. -/
inductive NextU (l : List UInt8) (t : List Nd) (i a c : Nat) (f : Bool) : Prop
  | fin (h1 : i = t.length) (h2 : a + 1024 = l.length) (h3 : readH ((l.drop a).take 512) = none) : NextU l t i a c f
  | node (x : Nd) (hx : t[i]? = some x) (h1 : readH ((l.drop a).take 512) = some ((entE x).name.take 100, (entE x).kind, ((entE x).data.length : Int), (entE x).link.take 100)) (h2 : a + 512 + fullN (entE x).data.length + 1024 ≤ l.length) (h3 : (l.drop (a + 512)).take (entE x).data.length = (entE x).data) (h4 : StateT t (i + 1) false (a + 512 + fullN (entE x).data.length) (c + 1)) (h5 : f = false → recsE (entE x) = []) : NextU l t i a c f
  | pax (x : Nd) (hx : t[i]? = some x) (h1 : readH ((l.drop a).take 512) = some (paxN, 5, ((recsE (entE x)).length : Int), [])) (h2 : a + 512 + fullN (recsE (entE x)).length + 1024 ≤ l.length) (h3 : (l.drop (a + 512)).take (recsE (entE x)).length = recsE (entE x)) (h4 : StateT t i true (a + 512 + fullN (recsE (entE x)).length) (c + 1)) : NextU l t i a c f
theorem nodeT_unlike {x : Nd} {R R' : List UInt8} (hg : NodeG x) (h : entL (entE x) ++ R = entL (paxE (recsE (entE x))) ++ R') : False := by
  have hf := entE_fits hg
  have hp := paxE_fits (recsE_len hf)
  have h1 := ent_here hf R
  have h2 := ent_here hp R'
  rw [h, h2] at h1
  have h3 := congrArg EntU.kind h1
  have h4 : (5 : Int) = x.2.1 := h3
  rcases hg.kind with k | k | k | k <;> omega
theorem next_is {l : List UInt8} {t : List Nd} {i a c : Nat} {f : Bool} (ht : mayN t = true) (hl : tarL t = l) (h : StateT t i f a c) (hi : i ≤ t.length) : NextU l t i a c f := by
  have hG := tree_node ht
  rcases state_next h hi with ⟨h1, h2, _, h4⟩ | ⟨x, hx, ⟨R, h1, h2, h3⟩ | ⟨R, h1, h2, h3⟩⟩
  · rw [hl] at h2 h4
    exact .fin h1 h2 (by rw [h4]; exact end_none)
  · rw [hl] at h1
    have hg := hG x (List.mem_of_getElem? hx)
    obtain ⟨k1, k2, k3, k4⟩ := here_parts (entE_fits hg) h1 h2
    rw [k4] at h3
    refine .node x hx k1 k2 k3 (by rw [Nat.add_assoc]; exact h3) (fun hff => ?_)
    cases hr : recsE (entE x) with
    | nil => rfl
    | cons y ys =>
      exfalso
      have hne : recsE (entE x) ≠ [] := by rw [hr]; simp
      rcases h with ⟨_, ha, _⟩ | ⟨hf2, _⟩
      · have e : l.drop a = nodeT x ++ (treeT (t.drop (i + 1)) ++ zeros 1024) := by
          rw [← hl]
          unfold tarL
          rw [treeT_all hx, List.append_assoc, List.append_assoc, ha, List.drop_left' rfl]
        rw [nodeT_two hne, List.append_assoc, h1] at e
        exact nodeT_unlike hg e
      · rw [hff] at hf2; cases hf2
  · rw [hl] at h1
    have hg := hG x (List.mem_of_getElem? hx)
    obtain ⟨k1, k2, k3, k4⟩ := here_parts (paxE_fits (recsE_len (entE_fits hg))) h1 h2
    rw [k4] at h3
    exact .pax x hx k1 k2 k3 (by rw [Nat.add_assoc]; exact h3)

section
variable {l : List UInt8} {T1 : List Nd} {a : Nat} {p q : List UInt8}
theorem upto_short (h : UpTo l T1 a p q) (hs : l.length < a + 512) : AllOf l T1 := fun t ht hl => by
  obtain ⟨i, f, c, h1, h2, h3, _⟩ := h t ht hl
  exfalso
  rcases next_is ht hl h1 h2 with ⟨_, k, _⟩ | ⟨_, _, _, k, _⟩ | ⟨_, _, _, k, _⟩ <;> omega
theorem upto_many (h : UpTo l T1 a p q) (hs : 400 < T1.length) : AllOf l T1 := fun t ht hl => by
  obtain ⟨i, f, c, h1, h2, h3, _⟩ := h t ht hl
  exfalso
  have := tree_len ht
  rw [h3, List.length_take] at hs
  omega
theorem upto_none (h : UpTo l T1 a p q) (hn : readH ((l.drop a).take 512) = none) : AllOf l T1 := fun t ht hl => by
  obtain ⟨i, f, c, h1, h2, h3, _⟩ := h t ht hl
  rcases next_is ht hl h1 h2 with ⟨k, _, _⟩ | ⟨_, _, k, _⟩ | ⟨_, _, k, _⟩
  · rw [h3, k, List.take_length]
  · rw [hn] at k; cases k
  · rw [hn] at k; cases k
theorem upto_over {nm lk : List UInt8} {kd : Int} {sz : Nat} (h : UpTo l T1 a p q) (hr : readH ((l.drop a).take 512) = some (nm, kd, (sz : Int), lk)) (ho : l.length < a + 512 + sz) : AllOf l T1 := fun t ht hl => by
  obtain ⟨i, f, c, h1, h2, h3, _⟩ := h t ht hl
  exfalso
  rcases next_is ht hl h1 h2 with ⟨_, _, k⟩ | ⟨x, _, k, k2, _⟩ | ⟨x, _, k, k2, _⟩
  · rw [hr] at k; cases k
  · rw [hr] at k
    simp only [Option.some.injEq, Prod.mk.injEq] at k
    have e : sz = (entE x).data.length := by omega
    unfold fullN at k2
    omega
  · rw [hr] at k
    simp only [Option.some.injEq, Prod.mk.injEq] at k
    have e : sz = (recsE (entE x)).length := by omega
    unfold fullN at k2
    omega
theorem upto_pax {nm lk p' q' : List UInt8} {sz : Nat} (h : UpTo l T1 a p q) (hr : readH ((l.drop a).take 512) = some (nm, 5, (sz : Int), lk)) (hd : ∀ rs, RecsIs rs ((l.drop (a + 512)).take sz) → putsP rs ([], []) = (p', q')) : UpTo l T1 (a + 512 + fullN sz) p' q' := fun t ht hl => by
  obtain ⟨i, f, c, h1, h2, h3, _⟩ := h t ht hl
  rcases next_is ht hl h1 h2 with ⟨_, _, k⟩ | ⟨x, hx, k, k2, _⟩ | ⟨x, hx, k, k2, k3, k4⟩
  · rw [hr] at k; cases k
  · exfalso
    rw [hr] at k
    simp only [Option.some.injEq, Prod.mk.injEq] at k
    have k5 : (5 : Int) = x.2.1 := k.2.1
    rcases (tree_node ht x (List.mem_of_getElem? hx)).kind with e | e | e | e <;> omega
  · rw [hr] at k
    simp only [Option.some.injEq, Prod.mk.injEq] at k
    obtain rfl : sz = (recsE (entE x)).length := by omega
    obtain ⟨rs, r1, r2⟩ := recs_of (entE_fits (tree_node ht x (List.mem_of_getElem? hx)))
    rw [k3] at hd
    have h5 := hd rs r1
    rw [r2] at h5
    simp only [Prod.mk.injEq] at h5
    exact ⟨i, true, c + 1, k4, h2, h3, (fun e => by cases e), fun _ => ⟨x, hx, h5.1.symm, h5.2.symm⟩⟩
theorem upto_node {nm lk : List UInt8} {kd : Int} {sz : Nat} (h : UpTo l T1 a p q) (hr : readH ((l.drop a).take 512) = some (nm, kd, (sz : Int), lk)) (h5 : kd ≠ 5) :
    UpTo l (T1 ++ [nodeE (if p = [] then nm else p) kd (if q = [] then lk else q) ((l.drop (a + 512)).take sz)]) (a + 512 + fullN sz) [] [] := fun t ht hl => by
  obtain ⟨i, f, c, h1, h2, h3, h4, h6⟩ := h t ht hl
  rcases next_is ht hl h1 h2 with ⟨_, _, k⟩ | ⟨x, hx, k, k2, k3, k4, k5⟩ | ⟨x, hx, k, _⟩
  · rw [hr] at k; cases k
  · rw [hr] at k
    simp only [Option.some.injEq, Prod.mk.injEq] at k
    obtain ⟨rfl, rfl, hsz, rfl⟩ := k
    obtain rfl : sz = (entE x).data.length := by omega
    have hpq : (if p = [] then (entE x).name.take 100 else p) = (entE x).name ∧ (if q = [] then (entE x).link.take 100 else q) = (entE x).link := by
      cases f with
      | false =>
        obtain ⟨rfl, rfl⟩ := h4 rfl
        obtain ⟨n1, n2⟩ := recs_nil (k5 rfl)
        rw [if_pos rfl, if_pos rfl, take_all n1, take_all n2]
        exact ⟨rfl, rfl⟩
      | true =>
        obtain ⟨x', hx', rfl, rfl⟩ := h6 rfl
        rw [hx] at hx'
        cases hx'
        exact ⟨pick_or _, pick_or _⟩
    rw [hpq.1, hpq.2, k3, nodeE_back (path_dot ht x (List.mem_of_getElem? hx))]
    obtain ⟨hi2, hx2⟩ := List.getElem?_eq_some_iff.1 hx
    refine ⟨i + 1, false, c + 1, k4, hi2, ?_, fun _ => ⟨rfl, rfl⟩, fun e => by cases e⟩
    rw [h3, List.take_succ_eq_append_getElem hi2, hx2]
  · exfalso
    rw [hr] at k
    simp only [Option.some.injEq, Prod.mk.injEq] at k
    exact h5 k.2.1
end
end Go.Proofs.YtecjkkipglldlaaGreatDoor.Hog
