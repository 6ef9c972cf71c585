/- Plain facts on lists of bytes: what a path's parts are, what joins them, what stands under what. Nothing here names the program. -/
import Derived.Lib.SplitLaws
import Derived.Lib.Split
import Derived.Lib.Join
import Derived.Lib.LastIndexByte
import Derived.Lib.IndexBytes
import Derived.Lib.Strings
import GoSem.Op.String
namespace Go.Proofs.Yticpljjbnfimkaa.Hog
open Go

def mk (l : List UInt8) : ByteArray := ⟨l.toArray⟩
theorem mk_data (l : List UInt8) : (mk l).data.toList = l := by simp [mk]
theorem mk_size (l : List UInt8) : (mk l).size = l.length := by simp [mk, ByteArray.size]
theorem data_mk (s : ByteArray) : mk s.data.toList = s := Lib.mk_data s
theorem mk_toList (l : List UInt8) : (mk l).toList = l := by rw [Lib.toList_data, mk_data]
theorem size_len (s : ByteArray) : s.size = s.data.toList.length := Lib.size_eq s

/-- A text cut at each stroke. -/
def cutL : List UInt8 → List (List UInt8)
  | [] => [[]]
  | c :: r => if c = 47 then [] :: cutL r else
      match cutL r with
      | [] => [[c]]
      | h :: t => (c :: h) :: t

theorem cut_ne : ∀ s, cutL s ≠ []
  | [] => by simp [cutL]
  | c :: r => by
    unfold cutL
    split
    · simp
    · split <;> simp

theorem cut_stroke (r : List UInt8) : cutL (47 :: r) = [] :: cutL r := by rw [cutL]; simp
theorem cut_other (c : UInt8) (r h : List UInt8) (t : List (List UInt8)) (hc : c ≠ 47) (e : cutL r = h :: t) : cutL (c :: r) = (c :: h) :: t := by
  rw [cutL, if_neg hc, e]

theorem cut_no : ∀ s : List UInt8, 47 ∉ s → cutL s = [s]
  | [], _ => rfl
  | c :: r, h => by
    have h1 : c ≠ 47 := fun e => h (by simp [e])
    have h2 : 47 ∉ r := fun e => h (by simp [e])
    exact cut_other c r r [] h1 (cut_no r h2)

theorem cut_at : ∀ a b : List UInt8, 47 ∉ a → cutL (a ++ 47 :: b) = a :: cutL b
  | [], b, _ => cut_stroke b
  | c :: r, b, h => by
    have h1 : c ≠ 47 := fun e => h (by simp [e])
    have h2 : 47 ∉ r := fun e => h (by simp [e])
    exact cut_other c (r ++ 47 :: b) r (cutL b) h1 (cut_at r b h2)

theorem cut_app : ∀ a b : List UInt8, cutL (a ++ 47 :: b) = cutL a ++ cutL b
  | [], b => by simp [cut_stroke, cutL]
  | c :: r, b => by
    by_cases hc : c = 47
    · subst hc
      rw [List.cons_append, cut_stroke, cut_stroke, cut_app r b, List.cons_append]
    · obtain ⟨h, t, e⟩ : ∃ h t, cutL r = h :: t := by
        cases e : cutL r with
        | nil => exact absurd e (cut_ne r)
        | cons h t => exact ⟨h, t, rfl⟩
      rw [List.cons_append, cut_other c (r ++ 47 :: b) h (t ++ cutL b) hc (by rw [cut_app r b, e, List.cons_append]), cut_other c r h t hc e, List.cons_append]

theorem cut_free : ∀ s : List UInt8, ∀ x ∈ cutL s, 47 ∉ x
  | [], x, hx => by simp [cutL] at hx; simp [hx]
  | c :: r, x, hx => by
    by_cases hc : c = 47
    · subst hc
      rw [cut_stroke] at hx
      rcases List.mem_cons.1 hx with rfl | h
      · simp
      · exact cut_free r x h
    · obtain ⟨h, t, e⟩ : ∃ h t, cutL r = h :: t := by
        cases e : cutL r with
        | nil => exact absurd e (cut_ne r)
        | cons h t => exact ⟨h, t, rfl⟩
      rw [cut_other c r h t hc e] at hx
      have ih := cut_free r
      rw [e] at ih
      rcases List.mem_cons.1 hx with rfl | hm
      · intro hh
        rcases List.mem_cons.1 hh with e1 | e1
        · exact hc e1.symm
        · exact ih h (by simp) e1
      · exact ih x (by simp [hm])

/-- Parts joined by strokes. -/
def joinS (xs : List (List UInt8)) : List UInt8 := Lib.join xs [47]
theorem join_nil : joinS [] = [] := rfl
theorem join_one (x : List UInt8) : joinS [x] = x := Lib.join_one x [47]
theorem join_two (x y : List UInt8) (r : List (List UInt8)) : joinS (x :: y :: r) = x ++ 47 :: joinS (y :: r) := by
  unfold joinS
  rw [Lib.join_cons, Lib.join_cons]
  simp [Lib.joinTail]
theorem join_cons (x : List UInt8) (r : List (List UInt8)) (h : r ≠ []) : joinS (x :: r) = x ++ 47 :: joinS r := by
  cases r with
  | nil => exact absurd rfl h
  | cons y t => exact join_two x y t

theorem cut_join : ∀ xs : List (List UInt8), xs ≠ [] → (∀ x ∈ xs, 47 ∉ x) → cutL (joinS xs) = xs
  | [], h, _ => absurd rfl h
  | [x], _, h => by rw [join_one]; exact cut_no x (h x (by simp))
  | x :: y :: r, _, h => by
    rw [join_two, cut_at _ _ (h x (by simp)), cut_join (y :: r) (by simp) (fun z hz => h z (by simp [hz]))]

theorem join_app : ∀ a b : List (List UInt8), a ≠ [] → b ≠ [] → joinS (a ++ b) = joinS a ++ 47 :: joinS b
  | [], _, h, _ => absurd rfl h
  | [x], b, _, h => by rw [List.singleton_append, join_cons x b h, join_one]
  | x :: y :: r, b, _, h => by
    rw [List.cons_append, join_cons x _ (by simp), join_app (y :: r) b (by simp) h, join_two, List.append_assoc, List.cons_append]

theorem join_cut : ∀ s : List UInt8, joinS (cutL s) = s
  | [] => rfl
  | c :: r => by
    by_cases hc : c = 47
    · subst hc
      rw [cut_stroke, join_cons _ _ (cut_ne r), join_cut r, List.nil_append]
    · obtain ⟨h, t, e⟩ : ∃ h t, cutL r = h :: t := by
        cases e : cutL r with
        | nil => exact absurd e (cut_ne r)
        | cons h t => exact ⟨h, t, rfl⟩
      have ih := join_cut r
      rw [e] at ih
      rw [cut_other c r h t hc e]
      cases t with
      | nil => rw [join_one] at ih ⊢; rw [ih]
      | cons y t => rw [join_two] at ih ⊢; rw [List.cons_append, ih]

theorem join_len_le : ∀ (xs : List (List UInt8)) (m : Nat), (∀ x ∈ xs, x.length ≤ m) → (joinS xs).length ≤ xs.length * (m + 1)
  | [], m, _ => by simp [join_nil]
  | [x], m, h => by rw [join_one]; have := h x (by simp); simp; omega
  | x :: y :: r, m, h => by
    have h1 := h x (by simp)
    have ih := join_len_le (y :: r) m (fun z hz => h z (by simp [hz]))
    rw [join_two]
    simp only [List.length_append, List.length_cons] at ih ⊢
    rw [Nat.add_mul (r.length + 1) 1]
    omega

/-- What the library's Split gives at a stroke. -/
theorem split_cut : ∀ (n : Nat) (s : List UInt8), s.length ≤ n → Lib.splitK [47] 0 (Lib.count s [47]) s = cutL s
  | n, s, hn => by
    rcases Lib.index_spec s [47] with ⟨e, hno⟩ | ⟨i, e, hi, hocc, hno⟩
    · rw [Lib.count_miss e]
      have hfree : 47 ∉ s := by
        intro hm
        obtain ⟨k, hk, hv⟩ := List.getElem_of_mem hm
        have h2 := hno k (by omega)
        rw [Lib.occAt, List.drop_eq_getElem_cons hk, hv] at h2
        simp at h2
      rw [cut_no s hfree]
      rfl
    · have hh := Lib.occAt_head (c := 47) (t := []) rfl hocc
      obtain ⟨hlt, hv⟩ := List.getElem?_eq_some_iff.1 hh
      have hs : s = s.take i ++ 47 :: s.drop (i + 1) := by
        conv => lhs; rw [← List.take_append_drop i s, List.drop_eq_getElem_cons hlt, hv]
      have hfree : 47 ∉ s.take i := by
        intro hm
        obtain ⟨k, hk, hv2⟩ := List.getElem_of_mem hm
        have hki : k < i := by simp at hk; omega
        have h2 := hno k hki
        have hks : k < s.length := by omega
        rw [List.getElem_take] at hv2
        rw [Lib.occAt, List.drop_eq_getElem_cons hks, hv2] at h2
        simp at h2
      rw [Lib.count_hit (by simp) e, Nat.add_comm, Lib.splitK, if_neg (by rw [e]; simp), e]
      simp only [Int.toNat_natCast, Nat.add_zero, List.length_cons, List.length_nil, Nat.zero_add]
      have hcut : cutL s = s.take i :: cutL (s.drop (i + 1)) := by
        conv => lhs; rw [hs]
        exact cut_at _ _ hfree
      cases n with
      | zero => omega
      | succ n =>
        rw [split_cut n (s.drop (i + 1)) (by simp; omega), hcut]

theorem splitB_cut (s : ByteArray) : Lib.splitB ⟨#[47]⟩ 0 (Lib.countB s ⟨#[47]⟩) s = (cutL s.data.toList).map mk := by
  have h := Lib.splitB_data ⟨#[47]⟩ 0 (Lib.countB s ⟨#[47]⟩) s
  have h2 : Lib.splitK [47] 0 (Lib.count s.data.toList [47]) s.data.toList = cutL s.data.toList := split_cut _ _ (Nat.le_refl _)
  have h3 : (Lib.splitB ⟨#[47]⟩ 0 (Lib.countB s ⟨#[47]⟩) s).map (·.data.toList) = cutL s.data.toList := h.trans h2
  rw [← h3, List.map_map]
  conv => lhs; rw [← List.map_id (Lib.splitB ⟨#[47]⟩ 0 (Lib.countB s ⟨#[47]⟩) s)]
  exact List.map_congr_left fun x _ => (data_mk x).symm
theorem countB_cut (s : ByteArray) : Lib.countB s ⟨#[47]⟩ + 1 = (cutL s.data.toList).length := by
  have h := congrArg List.length (splitB_cut s)
  rw [Lib.splitB_all ⟨#[47]⟩ (by decide) 0 _ s rfl, List.length_map] at h
  exact h

theorem cut_len : ∀ s : List UInt8, (cutL s).length ≤ s.length + 1
  | [] => by simp [cutL]
  | c :: r => by
    have ih := cut_len r
    by_cases hc : c = 47
    · subst hc; rw [cut_stroke]; simp; exact ih
    · obtain ⟨h, t, e⟩ : ∃ h t, cutL r = h :: t := by
        cases e : cutL r with
        | nil => exact absurd e (cut_ne r)
        | cons h t => exact ⟨h, t, rfl⟩
      rw [cut_other c r h t hc e]; rw [e] at ih; simp at ih ⊢; omega

theorem cut_part_len : ∀ s : List UInt8, ∀ x ∈ cutL s, x.length ≤ s.length
  | [], x, hx => by simp [cutL] at hx; simp [hx]
  | c :: r, x, hx => by
    have ih := cut_part_len r
    by_cases hc : c = 47
    · subst hc
      rw [cut_stroke] at hx
      rcases List.mem_cons.1 hx with rfl | h
      · simp
      · have := ih x h; simp; omega
    · obtain ⟨h, t, e⟩ : ∃ h t, cutL r = h :: t := by
        cases e : cutL r with
        | nil => exact absurd e (cut_ne r)
        | cons h t => exact ⟨h, t, rfl⟩
      rw [cut_other c r h t hc e] at hx
      rw [e] at ih
      rcases List.mem_cons.1 hx with rfl | hm
      · have := ih h (by simp); simp; omega
      · have := ih x (by simp [hm]); simp; omega

/-- May a text be a part? -/
def partL (s : List UInt8) : Bool :=
  !(s.isEmpty || decide (60 < s.length)) && !(s == [46] || s == [46, 46] || Lib.hasPrefix s [46, 119, 104, 46]) && (decide (Lib.indexByte s 47 < 0) && decide (Lib.indexByte s 0 < 0))

theorem indexByte_neg : ∀ (s : List UInt8) (c : UInt8), Lib.indexByte s c < 0 ↔ c ∉ s
  | [], c => by simp [Lib.indexByte]
  | b :: r, c => by
    have ih := indexByte_neg r c
    have ge : -1 ≤ Lib.indexByte r c := by rw [← Lib.index_one]; exact Lib.index_ge r [c]
    rw [Lib.indexByte]
    by_cases hb : b = c
    · subst hb; simp
    · rw [if_neg (by simpa using hb)]
      split
      · rename_i h; have := beq_iff_eq.1 h
        have h2 : c ∉ r := ih.1 (by omega)
        simp [h2, Ne.symm hb]
      · rename_i h; have hne : Lib.indexByte r c ≠ -1 := fun e => h (by simp [e])
        have h2 : ¬ c ∉ r := fun hx => by have := ih.2 hx; omega
        constructor
        · intro hlt; omega
        · intro hx; exact absurd (fun e => hx (by simp [e])) h2

theorem part_parts {s : List UInt8} (h : partL s = true) : s ≠ [] ∧ s.length ≤ 60 ∧ 47 ∉ s ∧ 0 ∉ s := by
  unfold partL at h
  simp only [Bool.and_eq_true, Bool.not_eq_true', Bool.or_eq_false_iff, decide_eq_false_iff_not, decide_eq_true_eq] at h
  obtain ⟨⟨⟨h1, h2⟩, _⟩, h3, h4⟩ := h
  exact ⟨by intro e; subst e; simp at h1, by omega, (indexByte_neg s 47).1 h3, (indexByte_neg s 0).1 h4⟩

def allP (xs : List (List UInt8)) : Bool := decide (xs.length ≤ 10) && xs.all partL
/-- The parts of a text: none, if it is empty. -/
def cutC (p : List UInt8) : List (List UInt8) := if p = [] then [] else cutL p
theorem cutC_part_len (p x : List UInt8) (hx : x ∈ cutC p) : x.length ≤ p.length := by
  unfold cutC at hx
  split at hx
  · cases hx
  · exact cut_part_len p x hx
theorem cutC_len (p : List UInt8) : (cutC p).length ≤ p.length + 1 := by
  unfold cutC
  split
  · simp
  · exact cut_len p
def mayL (p : List UInt8) : Bool := decide (p.length ≤ 200) && allP (cutC p)
def splitL (p : List UInt8) : List (List UInt8) := if mayL p = true then cutC p else []
def joinOk (xs : List (List UInt8)) : Bool := allP xs && decide ((joinS xs).length ≤ 200)
def underL (p d : List UInt8) : Bool := mayL p && mayL d && (p == d || d.isEmpty || Lib.hasPrefix p (d ++ [47]))
def parentOk (p : List UInt8) : Bool := !(p.isEmpty) && mayL p
def parentL (p : List UInt8) : List UInt8 := if parentOk p = true then joinS (cutL p).dropLast else []
def baseL (p : List UInt8) : List UInt8 := if mayL p = true then (cutL p).getLastD [] else []

theorem allP_free {xs : List (List UInt8)} (h : allP xs = true) : ∀ x ∈ xs, 47 ∉ x := by
  unfold allP at h
  simp only [Bool.and_eq_true, List.all_eq_true] at h
  exact fun x hx => (part_parts (h.2 x hx)).2.2.1

theorem join_cutC (p : List UInt8) : joinS (cutC p) = p := by
  unfold cutC
  split
  · rename_i h; rw [h]; rfl
  · exact join_cut p

theorem join_ne {xs : List (List UInt8)} (h : xs ≠ []) (hp : ∀ x ∈ xs, x ≠ []) : joinS xs ≠ [] := by
  cases xs with
  | nil => exact absurd rfl h
  | cons x r =>
    cases r with
    | nil => rw [join_one]; exact hp x (by simp)
    | cons y t => rw [join_two]; simp

theorem cutC_join {xs : List (List UInt8)} (h : xs.all partL = true) : cutC (joinS xs) = xs := by
  cases xs with
  | nil => rfl
  | cons x r =>
    have hall := List.all_eq_true.1 h
    have hne : joinS (x :: r) ≠ [] := join_ne (by simp) (fun y hy => (part_parts (hall y hy)).1)
    unfold cutC
    rw [if_neg hne]
    exact cut_join _ (by simp) (fun y hy => (part_parts (hall y hy)).2.2.1)

theorem may_join {xs : List (List UInt8)} (h : xs.all partL = true) : mayL (joinS xs) = joinOk xs := by
  unfold mayL joinOk
  rw [cutC_join h, Bool.and_comm]

theorem may_parts {p : List UInt8} (h : mayL p = true) : p.length ≤ 200 ∧ (cutC p).length ≤ 10 ∧ (cutC p).all partL = true := by
  unfold mayL allP at h
  simp only [Bool.and_eq_true, decide_eq_true_eq] at h
  exact ⟨h.1, h.2.1, h.2.2⟩

theorem may_root : mayL [] = true := by decide

theorem joinOk_cut {p : List UInt8} (h : mayL p = true) : joinOk (cutC p) = true := by
  have h2 := (may_parts h).2.2
  rw [← may_join h2, join_cutC]; exact h

theorem joinOk_may {xs : List (List UInt8)} (h : joinOk xs = true) : mayL (joinS xs) = true := by
  have : xs.all partL = true := by
    unfold joinOk allP at h
    simp only [Bool.and_eq_true] at h
    exact h.1.2
  rw [may_join this]; exact h

end Go.Proofs.Yticpljjbnfimkaa.Hog
