/- Texts that stand together, joined: Plain, Plain2, PlainT, PlainB. -/
import Derived.Lib.SplitLaws
import Derived.Lib.Split
import Derived.Lib.Join
import Derived.Lib.LastIndexByte
import Derived.Lib.IndexBytes
import Derived.Lib.Strings
import GoSem.Op.String
import Derived.Lib.Bytealg
/- Plain facts on lists of bytes: what a path's parts are, what joins them, what stands under what. Nothing here names the program. -/
namespace Go.Proofs.YtecjkkipglldlaaGreatDoor.Hog
open Go

def mk (l : List UInt8) : ByteArray := ⟨l.toArray⟩
theorem mk_data (l : List UInt8) : (mk l).data.toList = l := by simp [mk]
theorem mk_size (l : List UInt8) : (mk l).size = l.length := by simp [mk, ByteArray.size]
theorem data_mk (s : ByteArray) : mk s.data.toList = s := Lib.mk_data s
theorem mk_toList (l : List UInt8) : (mk l).toList = l := by rw [Lib.toList_data, mk_data]
theorem size_len (s : ByteArray) : s.size = s.data.toList.length := Lib.size_eq s

/-- A text cut at each stroke. -/
def cutL : List UInt8 → List (List UInt8)
  | [] => [[]]
  | c :: r => if c = 47 then [] :: cutL r else
      match cutL r with
      | [] => [[c]]
      | h :: t => (c :: h) :: t

theorem cut_ne : ∀ s, cutL s ≠ []
  | [] => by simp [cutL]
  | c :: r => by
    unfold cutL
    split
    · simp
    · split <;> simp

theorem cut_stroke (r : List UInt8) : cutL (47 :: r) = [] :: cutL r := by rw [cutL]; simp
theorem cut_other (c : UInt8) (r h : List UInt8) (t : List (List UInt8)) (hc : c ≠ 47) (e : cutL r = h :: t) : cutL (c :: r) = (c :: h) :: t := by
  rw [cutL, if_neg hc, e]

theorem cut_no : ∀ s : List UInt8, 47 ∉ s → cutL s = [s]
  | [], _ => rfl
  | c :: r, h => by
    have h1 : c ≠ 47 := fun e => h (by simp [e])
    have h2 : 47 ∉ r := fun e => h (by simp [e])
    exact cut_other c r r [] h1 (cut_no r h2)

theorem cut_at : ∀ a b : List UInt8, 47 ∉ a → cutL (a ++ 47 :: b) = a :: cutL b
  | [], b, _ => cut_stroke b
  | c :: r, b, h => by
    have h1 : c ≠ 47 := fun e => h (by simp [e])
    have h2 : 47 ∉ r := fun e => h (by simp [e])
    exact cut_other c (r ++ 47 :: b) r (cutL b) h1 (cut_at r b h2)

theorem cut_app : ∀ a b : List UInt8, cutL (a ++ 47 :: b) = cutL a ++ cutL b
  | [], b => by simp [cut_stroke, cutL]
  | c :: r, b => by
    by_cases hc : c = 47
    · subst hc
      rw [List.cons_append, cut_stroke, cut_stroke, cut_app r b, List.cons_append]
    · obtain ⟨h, t, e⟩ : ∃ h t, cutL r = h :: t := by
        cases e : cutL r with
        | nil => exact absurd e (cut_ne r)
        | cons h t => exact ⟨h, t, rfl⟩
      rw [List.cons_append, cut_other c (r ++ 47 :: b) h (t ++ cutL b) hc (by rw [cut_app r b, e, List.cons_append]), cut_other c r h t hc e, List.cons_append]

theorem cut_free : ∀ s : List UInt8, ∀ x ∈ cutL s, 47 ∉ x
  | [], x, hx => by simp [cutL] at hx; simp [hx]
  | c :: r, x, hx => by
    by_cases hc : c = 47
    · subst hc
      rw [cut_stroke] at hx
      rcases List.mem_cons.1 hx with rfl | h
      · simp
      · exact cut_free r x h
    · obtain ⟨h, t, e⟩ : ∃ h t, cutL r = h :: t := by
        cases e : cutL r with
        | nil => exact absurd e (cut_ne r)
        | cons h t => exact ⟨h, t, rfl⟩
      rw [cut_other c r h t hc e] at hx
      have ih := cut_free r
      rw [e] at ih
      rcases List.mem_cons.1 hx with rfl | hm
      · intro hh
        rcases List.mem_cons.1 hh with e1 | e1
        · exact hc e1.symm
        · exact ih h (by simp) e1
      · exact ih x (by simp [hm])

/-- Parts joined by strokes. -/
def joinS (xs : List (List UInt8)) : List UInt8 := Lib.join xs [47]
theorem join_nil : joinS [] = [] := rfl
theorem join_one (x : List UInt8) : joinS [x] = x := Lib.join_one x [47]
theorem join_two (x y : List UInt8) (r : List (List UInt8)) : joinS (x :: y :: r) = x ++ 47 :: joinS (y :: r) := by
  unfold joinS
  rw [Lib.join_cons, Lib.join_cons]
  simp [Lib.joinTail]
theorem join_cons (x : List UInt8) (r : List (List UInt8)) (h : r ≠ []) : joinS (x :: r) = x ++ 47 :: joinS r := by
  cases r with
  | nil => exact absurd rfl h
  | cons y t => exact join_two x y t

theorem cut_join : ∀ xs : List (List UInt8), xs ≠ [] → (∀ x ∈ xs, 47 ∉ x) → cutL (joinS xs) = xs
  | [], h, _ => absurd rfl h
  | [x], _, h => by rw [join_one]; exact cut_no x (h x (by simp))
  | x :: y :: r, _, h => by
    rw [join_two, cut_at _ _ (h x (by simp)), cut_join (y :: r) (by simp) (fun z hz => h z (by simp [hz]))]

theorem join_app : ∀ a b : List (List UInt8), a ≠ [] → b ≠ [] → joinS (a ++ b) = joinS a ++ 47 :: joinS b
  | [], _, h, _ => absurd rfl h
  | [x], b, _, h => by rw [List.singleton_append, join_cons x b h, join_one]
  | x :: y :: r, b, _, h => by
    rw [List.cons_append, join_cons x _ (by simp), join_app (y :: r) b (by simp) h, join_two, List.append_assoc, List.cons_append]

theorem join_cut : ∀ s : List UInt8, joinS (cutL s) = s
  | [] => rfl
  | c :: r => by
    by_cases hc : c = 47
    · subst hc
      rw [cut_stroke, join_cons _ _ (cut_ne r), join_cut r, List.nil_append]
    · obtain ⟨h, t, e⟩ : ∃ h t, cutL r = h :: t := by
        cases e : cutL r with
        | nil => exact absurd e (cut_ne r)
        | cons h t => exact ⟨h, t, rfl⟩
      have ih := join_cut r
      rw [e] at ih
      rw [cut_other c r h t hc e]
      cases t with
      | nil => rw [join_one] at ih ⊢; rw [ih]
      | cons y t => rw [join_two] at ih ⊢; rw [List.cons_append, ih]

theorem join_len_le : ∀ (xs : List (List UInt8)) (m : Nat), (∀ x ∈ xs, x.length ≤ m) → (joinS xs).length ≤ xs.length * (m + 1)
  | [], m, _ => by simp [join_nil]
  | [x], m, h => by rw [join_one]; have := h x (by simp); simp; omega
  | x :: y :: r, m, h => by
    have h1 := h x (by simp)
    have ih := join_len_le (y :: r) m (fun z hz => h z (by simp [hz]))
    rw [join_two]
    simp only [List.length_append, List.length_cons] at ih ⊢
    rw [Nat.add_mul (r.length + 1) 1]
    omega

/-- What the library's Split gives at a stroke. -/
theorem split_cut : ∀ (n : Nat) (s : List UInt8), s.length ≤ n → Lib.splitK [47] 0 (Lib.count s [47]) s = cutL s
  | n, s, hn => by
    rcases Lib.index_spec s [47] with ⟨e, hno⟩ | ⟨i, e, hi, hocc, hno⟩
    · rw [Lib.count_miss e]
      have hfree : 47 ∉ s := by
        intro hm
        obtain ⟨k, hk, hv⟩ := List.getElem_of_mem hm
        have h2 := hno k (by omega)
        rw [Lib.occAt, List.drop_eq_getElem_cons hk, hv] at h2
        simp at h2
      rw [cut_no s hfree]
      rfl
    · have hh := Lib.occAt_head (c := 47) (t := []) rfl hocc
      obtain ⟨hlt, hv⟩ := List.getElem?_eq_some_iff.1 hh
      have hs : s = s.take i ++ 47 :: s.drop (i + 1) := by
        conv => lhs; rw [← List.take_append_drop i s, List.drop_eq_getElem_cons hlt, hv]
      have hfree : 47 ∉ s.take i := by
        intro hm
        obtain ⟨k, hk, hv2⟩ := List.getElem_of_mem hm
        have hki : k < i := by simp at hk; omega
        have h2 := hno k hki
        have hks : k < s.length := by omega
        rw [List.getElem_take] at hv2
        rw [Lib.occAt, List.drop_eq_getElem_cons hks, hv2] at h2
        simp at h2
      rw [Lib.count_hit (by simp) e, Nat.add_comm, Lib.splitK, if_neg (by rw [e]; simp), e]
      simp only [Int.toNat_natCast, Nat.add_zero, List.length_cons, List.length_nil, Nat.zero_add]
      have hcut : cutL s = s.take i :: cutL (s.drop (i + 1)) := by
        conv => lhs; rw [hs]
        exact cut_at _ _ hfree
      cases n with
      | zero => omega
      | succ n =>
        rw [split_cut n (s.drop (i + 1)) (by simp; omega), hcut]

theorem splitB_cut (s : ByteArray) : Lib.splitB ⟨#[47]⟩ 0 (Lib.countB s ⟨#[47]⟩) s = (cutL s.data.toList).map mk := by
  have h := Lib.splitB_data ⟨#[47]⟩ 0 (Lib.countB s ⟨#[47]⟩) s
  have h2 : Lib.splitK [47] 0 (Lib.count s.data.toList [47]) s.data.toList = cutL s.data.toList := split_cut _ _ (Nat.le_refl _)
  have h3 : (Lib.splitB ⟨#[47]⟩ 0 (Lib.countB s ⟨#[47]⟩) s).map (·.data.toList) = cutL s.data.toList := h.trans h2
  rw [← h3, List.map_map]
  conv => lhs; rw [← List.map_id (Lib.splitB ⟨#[47]⟩ 0 (Lib.countB s ⟨#[47]⟩) s)]
  exact List.map_congr_left fun x _ => (data_mk x).symm
theorem countB_cut (s : ByteArray) : Lib.countB s ⟨#[47]⟩ + 1 = (cutL s.data.toList).length := by
  have h := congrArg List.length (splitB_cut s)
  rw [Lib.splitB_all ⟨#[47]⟩ (by decide) 0 _ s rfl, List.length_map] at h
  exact h

theorem cut_len : ∀ s : List UInt8, (cutL s).length ≤ s.length + 1
  | [] => by simp [cutL]
  | c :: r => by
    have ih := cut_len r
    by_cases hc : c = 47
    · subst hc; rw [cut_stroke]; simp; exact ih
    · obtain ⟨h, t, e⟩ : ∃ h t, cutL r = h :: t := by
        cases e : cutL r with
        | nil => exact absurd e (cut_ne r)
        | cons h t => exact ⟨h, t, rfl⟩
      rw [cut_other c r h t hc e]; rw [e] at ih; simp at ih ⊢; omega

theorem cut_part_len : ∀ s : List UInt8, ∀ x ∈ cutL s, x.length ≤ s.length
  | [], x, hx => by simp [cutL] at hx; simp [hx]
  | c :: r, x, hx => by
    have ih := cut_part_len r
    by_cases hc : c = 47
    · subst hc
      rw [cut_stroke] at hx
      rcases List.mem_cons.1 hx with rfl | h
      · simp
      · have := ih x h; simp; omega
    · obtain ⟨h, t, e⟩ : ∃ h t, cutL r = h :: t := by
        cases e : cutL r with
        | nil => exact absurd e (cut_ne r)
        | cons h t => exact ⟨h, t, rfl⟩
      rw [cut_other c r h t hc e] at hx
      rw [e] at ih
      rcases List.mem_cons.1 hx with rfl | hm
      · have := ih h (by simp); simp; omega
      · have := ih x (by simp [hm]); simp; omega

/-- May a text be a part? -/
def partL (s : List UInt8) : Bool :=
  !(s.isEmpty || decide (60 < s.length)) && !(s == [46] || s == [46, 46] || Lib.hasPrefix s [46, 119, 104, 46]) && (decide (Lib.indexByte s 47 < 0) && decide (Lib.indexByte s 0 < 0))

theorem indexByte_neg : ∀ (s : List UInt8) (c : UInt8), Lib.indexByte s c < 0 ↔ c ∉ s
  | [], c => by simp [Lib.indexByte]
  | b :: r, c => by
    have ih := indexByte_neg r c
    have ge : -1 ≤ Lib.indexByte r c := by rw [← Lib.index_one]; exact Lib.index_ge r [c]
    rw [Lib.indexByte]
    by_cases hb : b = c
    · subst hb; simp
    · rw [if_neg (by simpa using hb)]
      split
      · rename_i h; have := beq_iff_eq.1 h
        have h2 : c ∉ r := ih.1 (by omega)
        simp [h2, Ne.symm hb]
      · rename_i h; have hne : Lib.indexByte r c ≠ -1 := fun e => h (by simp [e])
        have h2 : ¬ c ∉ r := fun hx => by have := ih.2 hx; omega
        constructor
        · intro hlt; omega
        · intro hx; exact absurd (fun e => hx (by simp [e])) h2

theorem part_parts {s : List UInt8} (h : partL s = true) : s ≠ [] ∧ s.length ≤ 60 ∧ 47 ∉ s ∧ 0 ∉ s := by
  unfold partL at h
  simp only [Bool.and_eq_true, Bool.not_eq_true', Bool.or_eq_false_iff, decide_eq_false_iff_not, decide_eq_true_eq] at h
  obtain ⟨⟨⟨h1, h2⟩, _⟩, h3, h4⟩ := h
  exact ⟨by intro e; subst e; simp at h1, by omega, (indexByte_neg s 47).1 h3, (indexByte_neg s 0).1 h4⟩

def allP (xs : List (List UInt8)) : Bool := decide (xs.length ≤ 10) && xs.all partL
/-- The parts of a text: none, if it is empty. -/
def cutC (p : List UInt8) : List (List UInt8) := if p = [] then [] else cutL p
theorem cutC_part_len (p x : List UInt8) (hx : x ∈ cutC p) : x.length ≤ p.length := by
  unfold cutC at hx
  split at hx
  · cases hx
  · exact cut_part_len p x hx
theorem cutC_len (p : List UInt8) : (cutC p).length ≤ p.length + 1 := by
  unfold cutC
  split
  · simp
  · exact cut_len p
def mayL (p : List UInt8) : Bool := decide (p.length ≤ 200) && allP (cutC p)
def splitL (p : List UInt8) : List (List UInt8) := if mayL p = true then cutC p else []
def joinOk (xs : List (List UInt8)) : Bool := allP xs && decide ((joinS xs).length ≤ 200)
def underL (p d : List UInt8) : Bool := mayL p && mayL d && (p == d || d.isEmpty || Lib.hasPrefix p (d ++ [47]))
def parentOk (p : List UInt8) : Bool := !(p.isEmpty) && mayL p
def parentL (p : List UInt8) : List UInt8 := if parentOk p = true then joinS (cutL p).dropLast else []
def baseL (p : List UInt8) : List UInt8 := if mayL p = true then (cutL p).getLastD [] else []

theorem allP_free {xs : List (List UInt8)} (h : allP xs = true) : ∀ x ∈ xs, 47 ∉ x := by
  unfold allP at h
  simp only [Bool.and_eq_true, List.all_eq_true] at h
  exact fun x hx => (part_parts (h.2 x hx)).2.2.1

theorem join_cutC (p : List UInt8) : joinS (cutC p) = p := by
  unfold cutC
  split
  · rename_i h; rw [h]; rfl
  · exact join_cut p

theorem join_ne {xs : List (List UInt8)} (h : xs ≠ []) (hp : ∀ x ∈ xs, x ≠ []) : joinS xs ≠ [] := by
  cases xs with
  | nil => exact absurd rfl h
  | cons x r =>
    cases r with
    | nil => rw [join_one]; exact hp x (by simp)
    | cons y t => rw [join_two]; simp

theorem cutC_join {xs : List (List UInt8)} (h : xs.all partL = true) : cutC (joinS xs) = xs := by
  cases xs with
  | nil => rfl
  | cons x r =>
    have hall := List.all_eq_true.1 h
    have hne : joinS (x :: r) ≠ [] := join_ne (by simp) (fun y hy => (part_parts (hall y hy)).1)
    unfold cutC
    rw [if_neg hne]
    exact cut_join _ (by simp) (fun y hy => (part_parts (hall y hy)).2.2.1)

theorem may_join {xs : List (List UInt8)} (h : xs.all partL = true) : mayL (joinS xs) = joinOk xs := by
  unfold mayL joinOk
  rw [cutC_join h, Bool.and_comm]

theorem may_parts {p : List UInt8} (h : mayL p = true) : p.length ≤ 200 ∧ (cutC p).length ≤ 10 ∧ (cutC p).all partL = true := by
  unfold mayL allP at h
  simp only [Bool.and_eq_true, decide_eq_true_eq] at h
  exact ⟨h.1, h.2.1, h.2.2⟩

theorem may_root : mayL [] = true := by decide

theorem joinOk_cut {p : List UInt8} (h : mayL p = true) : joinOk (cutC p) = true := by
  have h2 := (may_parts h).2.2
  rw [← may_join h2, join_cutC]; exact h

theorem joinOk_may {xs : List (List UInt8)} (h : joinOk xs = true) : mayL (joinS xs) = true := by
  have : xs.all partL = true := by
    unfold joinOk allP at h
    simp only [Bool.and_eq_true] at h
    exact h.1.2
  rw [may_join this]; exact h

end Go.Proofs.YtecjkkipglldlaaGreatDoor.Hog
/- Plain facts on paths: order, parents, bases, longer paths. Nothing here names the program. -/
namespace Go.Proofs.YtecjkkipglldlaaGreatDoor.Hog
open Go

theorem not_less : ∀ p q : List UInt8, q <+: p → Op.bytesLess p q = false
  | [], q, h => by rw [List.prefix_nil.1 h]; rfl
  | a :: p, [], _ => by rw [Op.bytesLess]
  | a :: p, b :: q, h => by
    obtain ⟨h1, h2⟩ := List.cons_prefix_cons.1 h
    subst h1
    rw [Op.bytesLess, not_less p q h2]
    simp [UInt8.lt_irrefl]

theorem hasPrefix_iff (p d : List UInt8) : Lib.hasPrefix p d = true ↔ d <+: p := by unfold Lib.hasPrefix; exact List.isPrefixOf_iff_prefix

/-- p is d, or stands in it. -/
def In (p d : List UInt8) : Prop := p = d ∨ d = [] ∨ d ++ [47] <+: p

theorem under_iff (p d : List UInt8) : underL p d = true ↔ mayL p = true ∧ mayL d = true ∧ In p d := by
  unfold underL In
  simp only [Bool.and_eq_true, Bool.or_eq_true, beq_iff_eq, List.isEmpty_iff, hasPrefix_iff, and_assoc, or_assoc]

theorem In.pre {p d : List UInt8} (h : In p d) : d <+: p := by
  rcases h with rfl | rfl | h
  · exact List.prefix_refl _
  · exact List.nil_prefix
  · exact (List.prefix_append d [47]).trans h

theorem In.trans {p q r : List UInt8} (h : In p q) (k : In q r) : In p r := by
  rcases k with rfl | rfl | k
  · exact h
  · exact .inr (.inl rfl)
  · exact .inr (.inr (k.trans h.pre))

theorem In.anti {p q : List UInt8} (h : In p q) (k : In q p) : p = q := by
  have h1 := h.pre
  have h2 := k.pre
  exact (List.IsPrefix.eq_of_length h2 (Nat.le_antisymm h2.length_le h1.length_le))

theorem In.two {p q r : List UInt8} (h : In p q) (k : In p r) : In q r ∨ In r q := by
  rcases h with rfl | rfl | h
  · exact .inl k
  · exact .inr (.inr (.inl rfl))
  · rcases k with rfl | rfl | k
    · exact .inr (.inr (.inr h))
    · exact .inl (.inr (.inl rfl))
    · have snoc : ∀ a b : List UInt8, a ++ [47] <+: b ++ [47] → In b a := by
        intro a b hab
        rcases List.prefix_concat_iff.1 (by simpa using hab) with e | e
        · exact .inl (by simpa using e.symm)
        · exact .inr (.inr (by simpa using e))
      rcases List.prefix_or_prefix_of_prefix h k with e | e
      · exact .inr (snoc q r e)
      · exact .inl (snoc r q e)

theorem order1 {p q : List UInt8} (h : underL p q = true) : Op.bytesLess p q = false := not_less p q ((under_iff p q).1 h).2.2.pre
theorem order2 {p q : List UInt8} (h : underL p q = true) (k : underL q p = true) : p = q := ((under_iff p q).1 h).2.2.anti ((under_iff q p).1 k).2.2
theorem order3 {p q r : List UInt8} (h : underL p q = true) (k : underL p r = true) : underL q r = true ∨ underL r q = true := by
  obtain ⟨_, h2, h3⟩ := (under_iff p q).1 h
  obtain ⟨_, k2, k3⟩ := (under_iff p r).1 k
  rcases h3.two k3 with e | e
  · exact .inl ((under_iff q r).2 ⟨h2, k2, e⟩)
  · exact .inr ((under_iff r q).2 ⟨k2, h2, e⟩)
theorem order4 {p q r : List UInt8} (h : underL p q = true) (k : underL q r = true) : underL p r = true := by
  obtain ⟨h1, _, h3⟩ := (under_iff p q).1 h
  obtain ⟨_, k2, k3⟩ := (under_iff q r).1 k
  exact (under_iff p r).2 ⟨h1, k2, h3.trans k3⟩

/-- A text without a stroke has one part; with one, its last part stands behind the last stroke. -/
theorem cut_last (a b : List UInt8) (h : 47 ∉ b) : cutL (a ++ 47 :: b) = cutL a ++ [b] := by rw [cut_app, cut_no b h]

theorem data_at (s : ByteArray) (j : Nat) (h : j < s.size) : s.data.toList[j]? = some (s.data[j]!) := by
  have hj : j < s.data.size := h
  simp [getElem!_pos s.data j hj]

theorem last_cases (s : ByteArray) : (Lib.lastIndexByte s 47 = -1 ∧ 47 ∉ s.data.toList) ∨
    ∃ i : Nat, Lib.lastIndexByte s 47 = i ∧ i < s.size ∧ s.data.toList = s.data.toList.take i ++ 47 :: s.data.toList.drop (i + 1) ∧ 47 ∉ s.data.toList.drop (i + 1) := by
  have byte : ∀ u : UInt8, ((u.toNat : Nat) : Int) = 47 → u = 47 := fun u h => Lib.byte_eq_of_toNat (b := 47) (by rw [h]; rfl)
  have noo : ∀ i, (∀ j, i ≤ j → j < s.size → ((s.data[j]!).toNat : Int) ≠ 47) → 47 ∉ s.data.toList.drop i := by
    intro i hn hm
    obtain ⟨k, hk, hv⟩ := List.getElem_of_mem hm
    rw [List.length_drop, ← size_len] at hk
    have h2 : s.data.toList[i + k]? = some 47 := by
      rw [List.getElem_drop] at hv
      exact List.getElem?_eq_some_iff.2 ⟨_, hv⟩
    rw [data_at s (i + k) (by omega)] at h2
    have h3 : s.data[i + k]! = 47 := by simpa using h2
    exact hn (i + k) (by omega) (by omega) (by rw [h3]; rfl)
  rcases Lib.lastIndexByte_spec s 47 with ⟨e, hn⟩ | ⟨i, hi, e, hc, hn⟩
  · exact .inl ⟨e, by have := noo 0 (fun j _ hj => hn j hj); simpa using this⟩
  · refine .inr ⟨i, e, hi, ?_, noo (i + 1) (fun j h1 h2 => hn j (by omega) h2)⟩
    have hil : i < s.data.toList.length := by rw [← size_len]; exact hi
    have hv : s.data.toList[i] = 47 := by
      have h2 := data_at s i hi
      rw [byte _ hc] at h2
      exact (List.getElem?_eq_some_iff.1 h2).2
    conv => lhs; rw [← List.take_append_drop i s.data.toList, List.drop_eq_getElem_cons hil, hv]

/-- What stands ahead of the last stroke is the last part's parent; what stands behind it is the last part. -/
theorem parent_take (s : ByteArray) : joinS (cutL s.data.toList).dropLast = s.data.toList.take (max (Lib.lastIndexByte s 47) 0).toNat := by
  rcases last_cases s with ⟨e, h⟩ | ⟨i, e, _, h, hn⟩
  · rw [e, cut_no _ h, show (max (-1 : Int) 0).toNat = 0 from rfl]; simp [join_nil]
  · have h2 : cutL s.data.toList = cutL (s.data.toList.take i) ++ [s.data.toList.drop (i + 1)] := by
      conv => lhs; rw [h]
      exact cut_last _ _ hn
    rw [h2, List.dropLast_concat, join_cut, e]
    congr 1
    omega
theorem base_drop (s : ByteArray) : (cutL s.data.toList).getLastD [] = s.data.toList.drop (Lib.lastIndexByte s 47 + 1).toNat := by
  rcases last_cases s with ⟨e, h⟩ | ⟨i, e, _, h, hn⟩
  · rw [e, cut_no _ h]; simp
  · have h2 : cutL s.data.toList = cutL (s.data.toList.take i) ++ [s.data.toList.drop (i + 1)] := by
      conv => lhs; rw [h]
      exact cut_last _ _ hn
    rw [h2, e, show ((i : Int) + 1).toNat = i + 1 by omega]
    simp
theorem last_bounds (s : ByteArray) : -1 ≤ Lib.lastIndexByte s 47 ∧ Lib.lastIndexByte s 47 < s.size := by
  rcases last_cases s with ⟨e, h⟩ | ⟨i, e, hi, h, hn⟩
  · rw [e]; omega
  · rw [e]; omega

/-- A path that is not the root: its parts are its parent's and its base. -/
theorem back_parts {p : List UInt8} (hp : p ≠ []) (hm : mayL p = true) :
    ∃ q x, parentL p = q ∧ baseL p = x ∧ mayL q = true ∧ partL x = true ∧ cutC p = cutC q ++ [x] := by
  obtain ⟨h200, h10, hall⟩ := may_parts hm
  have hC : cutC p = cutL p := by unfold cutC; rw [if_neg hp]
  obtain ⟨x, hsplit⟩ : ∃ x, cutL p = (cutL p).dropLast ++ [x] := ⟨_, (List.dropLast_concat_getLast (cut_ne p)).symm⟩
  have hpar : parentL p = joinS (cutL p).dropLast := by
    unfold parentL parentOk
    rw [if_pos (by simp [hm, hp])]
  have hbase : baseL p = x := by
    unfold baseL
    rw [if_pos hm, hsplit]; simp
  rw [hC] at hall h10
  have hall' : (cutL p).dropLast.all partL = true ∧ partL x = true := by
    rw [hsplit, List.all_append] at hall
    simpa using hall
  have hcq : cutC (joinS (cutL p).dropLast) = (cutL p).dropLast := cutC_join hall'.1
  refine ⟨_, x, hpar, hbase, ?_, hall'.2, ?_⟩
  · unfold mayL allP
    rw [hcq]
    have hlen : (joinS (cutL p).dropLast).length ≤ p.length := by
      have e1 := congrArg List.length (join_cut p)
      rw [hsplit] at e1
      by_cases hd : (cutL p).dropLast = []
      · rw [hd]; simp [join_nil]
      · rw [join_app _ _ hd (by simp)] at e1; simp at e1; omega
    have h10' : (cutL p).dropLast.length ≤ 10 := by rw [List.length_dropLast]; omega
    simp only [Bool.and_eq_true, decide_eq_true_eq]
    exact ⟨by omega, h10', hall'.1⟩
  · rw [hcq, hC]; exact hsplit

theorem joinOk_snoc {p q x : List UInt8} (hm : mayL p = true) (hc : cutC p = cutC q ++ [x]) : joinOk (cutC q ++ [x]) = true ∧ joinS (cutC q ++ [x]) = p := by
  rw [← hc]; exact ⟨joinOk_cut hm, join_cutC p⟩

theorem under_parent {p q x : List UInt8} (hp : mayL p = true) (hq : mayL q = true) (hx : x ≠ []) (hc : cutC p = cutC q ++ [x]) : underL p q = true ∧ underL q p = false := by
  have e : p = joinS (cutC q ++ [x]) := by rw [← hc, join_cutC]
  have hIn : In p q ∧ q.length < p.length := by
    by_cases hq0 : q = []
    · subst hq0
      refine ⟨.inr (.inl rfl), ?_⟩
      rw [e]
      have : cutC [] = [] := rfl
      rw [this, List.nil_append, join_one]
      cases x with
      | nil => exact absurd rfl hx
      | cons a t => simp
    · have hne : cutC q ≠ [] := by unfold cutC; rw [if_neg hq0]; exact cut_ne q
      have e2 : p = q ++ 47 :: x := by rw [e, join_app _ _ hne (by simp), join_cutC, join_one]
      refine ⟨.inr (.inr ⟨x, by rw [e2]; simp⟩), by rw [e2]; simp⟩
  refine ⟨(under_iff p q).2 ⟨hp, hq, hIn.1⟩, ?_⟩
  cases hu : underL q p with
  | false => rfl
  | true => have := (order2 ((under_iff p q).2 ⟨hp, hq, hIn.1⟩) hu); rw [this] at hIn; omega

theorem under_self {p : List UInt8} (hp : mayL p = true) : underL p p = true := (under_iff p p).2 ⟨hp, hp, .inl rfl⟩
theorem under_root {p : List UInt8} (hp : mayL p = true) : underL p [] = true := (under_iff p []).2 ⟨hp, may_root, .inr (.inl rfl)⟩
theorem under_not {p q : List UInt8} (hp : mayL p = false) : underL p q = false := by unfold underL; rw [hp]; rfl
theorem under_not2 {p q : List UInt8} (hq : mayL q = false) : underL p q = false := by unfold underL; rw [hq]; simp

/-- Two paths, the one's parts behind the other's. -/
theorem longer {p q : List UInt8} (hp : mayL p = true) (hq : mayL q = true) :
    (joinS (cutC p ++ cutC q)).length = p.length + q.length + (if p ≠ [] ∧ q ≠ [] then 1 else 0) ∧
    joinOk (cutC p ++ cutC q) = (decide ((cutC p ++ cutC q).length ≤ 10) && decide (p.length + q.length + (if p ≠ [] ∧ q ≠ [] then 1 else 0) ≤ 200)) ∧
    (joinOk (cutC p ++ cutC q) = true → underL (joinS (cutC p ++ cutC q)) p = true ∧ splitL (joinS (cutC p ++ cutC q)) = cutC p ++ cutC q) := by
  have hpa := (may_parts hp).2.2
  have hqa := (may_parts hq).2.2
  have hall : (cutC p ++ cutC q).all partL = true := by rw [List.all_append, hpa, hqa]; rfl
  have c0 : cutC [] = [] := rfl
  have hj : joinS (cutC p ++ cutC q) = if p ≠ [] ∧ q ≠ [] then p ++ 47 :: q else p ++ q := by
    by_cases h1 : p = []
    · subst h1; rw [c0, List.nil_append, join_cutC, if_neg (by simp), List.nil_append]
    · by_cases h2 : q = []
      · subst h2; rw [c0, List.append_nil, join_cutC, if_neg (by simp), List.append_nil]
      · rw [if_pos ⟨h1, h2⟩, join_app _ _ (by unfold cutC; rw [if_neg h1]; exact cut_ne p) (by unfold cutC; rw [if_neg h2]; exact cut_ne q), join_cutC, join_cutC]
  have hl : (joinS (cutC p ++ cutC q)).length = p.length + q.length + (if p ≠ [] ∧ q ≠ [] then 1 else 0) := by
    rw [hj]; split <;> simp <;> omega
  refine ⟨hl, ?_, ?_⟩
  · unfold joinOk allP
    rw [hall, hl, Bool.and_true]
  · intro hok
    have hm := joinOk_may hok
    refine ⟨(under_iff _ p).2 ⟨hm, hp, ?_⟩, ?_⟩
    · rw [hj]
      by_cases h1 : p = []
      · exact .inr (.inl h1)
      · by_cases h2 : q = []
        · rw [if_neg (by simp [h2]), h2, List.append_nil]; exact .inl rfl
        · rw [if_pos ⟨h1, h2⟩]; exact .inr (.inr ⟨q, by simp⟩)
    · unfold splitL
      rw [if_pos hm, cutC_join hall]

end Go.Proofs.YtecjkkipglldlaaGreatDoor.Hog
/- Plain facts on the order of texts as bytes. Nothing here names the program. -/
namespace Go.Proofs.YtecjkkipglldlaaGreatDoor.Hog
open Go

theorem less_irr : ∀ a : List UInt8, Op.bytesLess a a = false
  | [] => rfl
  | c :: r => by simp [Op.bytesLess, less_irr r]
theorem less_trans : ∀ {a b c : List UInt8}, Op.bytesLess a b = true → Op.bytesLess b c = true → Op.bytesLess a c = true
  | a, b, [], _, h => by cases b <;> simp [Op.bytesLess] at h
  | [], b, _ :: _, _, _ => rfl
  | x :: a, [], z :: c, h, _ => by simp [Op.bytesLess] at h
  | x :: a, y :: b, z :: c, h, k => by
    simp only [Op.bytesLess, Bool.or_eq_true, Bool.and_eq_true, decide_eq_true_eq, beq_iff_eq] at h k ⊢
    rcases h with h | ⟨rfl, h⟩
    · rcases k with k | ⟨rfl, k⟩
      · exact .inl (UInt8.lt_trans h k)
      · exact .inl h
    · rcases k with k | ⟨rfl, k⟩
      · exact .inl k
      · exact .inr ⟨rfl, less_trans h k⟩
theorem less_asymm {a b : List UInt8} (h : Op.bytesLess a b = true) : Op.bytesLess b a = false := by
  cases k : Op.bytesLess b a with
  | false => rfl
  | true => have := less_trans h k; rw [less_irr] at this; cases this
theorem less_three : ∀ a b : List UInt8, Op.bytesLess a b = true ∨ a = b ∨ Op.bytesLess b a = true
  | [], [] => .inr (.inl rfl)
  | [], _ :: _ => .inl rfl
  | _ :: _, [] => .inr (.inr rfl)
  | x :: a, y :: b => by
    by_cases h : x < y
    · exact .inl (by simp [Op.bytesLess, h])
    · by_cases k : y < x
      · exact .inr (.inr (by simp [Op.bytesLess, k]))
      · have e : x = y := UInt8.le_antisymm (UInt8.not_lt.1 k) (UInt8.not_lt.1 h)
        subst e
        rcases less_three a b with h | h | h
        · exact .inl (by simp [Op.bytesLess, h])
        · exact .inr (.inl (by rw [h]))
        · exact .inr (.inr (by simp [Op.bytesLess, h]))
theorem cmp_cases : ∀ a b : List UInt8, (Lib.compareBytes a b = -1 ∧ Op.bytesLess a b = true) ∨ (Lib.compareBytes a b = 0 ∧ a = b) ∨ (Lib.compareBytes a b = 1 ∧ Op.bytesLess b a = true)
  | [], [] => .inr (.inl ⟨rfl, rfl⟩)
  | [], _ :: _ => .inl ⟨rfl, rfl⟩
  | _ :: _, [] => .inr (.inr ⟨rfl, rfl⟩)
  | x :: a, y :: b => by
    by_cases h : x < y
    · exact .inl (by simp [Op.bytesLess, Lib.compareBytes, h])
    · by_cases k : y < x
      · exact .inr (.inr (by simp [Op.bytesLess, Lib.compareBytes, k, h]))
      · have e : x = y := UInt8.le_antisymm (UInt8.not_lt.1 k) (UInt8.not_lt.1 h)
        subst e
        rcases cmp_cases a b with ⟨h1, h2⟩ | ⟨h1, h2⟩ | ⟨h1, h2⟩
        · exact .inl (by simp [Op.bytesLess, Lib.compareBytes, h1, h2])
        · exact .inr (.inl (by simp [Lib.compareBytes, h2]; rw [← h2]; exact h2 ▸ h1))
        · exact .inr (.inr (by simp [Op.bytesLess, Lib.compareBytes, h1, h2]))
theorem cmp_neg (a b : List UInt8) : Lib.compareBytes a b < 0 ↔ Op.bytesLess a b = true := by
  rcases cmp_cases a b with ⟨h1, h2⟩ | ⟨h1, h2⟩ | ⟨h1, h2⟩
  · rw [h1, h2]; simp
  · rw [h1, h2, less_irr]; simp
  · rw [h1, less_asymm h2]; simp
theorem cmp_zero (a b : List UInt8) : Lib.compareBytes a b = 0 ↔ a = b := by
  rcases cmp_cases a b with ⟨h1, h2⟩ | ⟨h1, h2⟩ | ⟨h1, h2⟩
  · rw [h1]
    exact ⟨fun h => by simp at h, fun h => by rw [h, less_irr] at h2; cases h2⟩
  · rw [h1, h2]; simp
  · rw [h1]
    exact ⟨fun h => by simp at h, fun h => by rw [h, less_irr] at h2; cases h2⟩
theorem cmp_bounds (a b : List UInt8) : -1 ≤ Lib.compareBytes a b ∧ Lib.compareBytes a b ≤ 1 := by
  rcases cmp_cases a b with ⟨h1, _⟩ | ⟨h1, _⟩ | ⟨h1, _⟩ <;> rw [h1] <;> decide
theorem less_ne {a b : List UInt8} (h : Op.bytesLess a b = true) : a ≠ b := by
  rintro rfl
  rw [less_irr] at h
  cases h
theorem not_less_iff {a b : List UInt8} : Op.bytesLess a b = false ↔ a = b ∨ Op.bytesLess b a = true := by
  rcases less_three a b with h | h | h
  · simp [h, less_asymm h, less_ne h]
  · subst h; simp [less_irr]
  · simp [h, less_asymm h]

end Go.Proofs.YtecjkkipglldlaaGreatDoor.Hog
/- Plain facts on paths that stand under paths: what is left of them, what comes of one behind another. Nothing here names the program. -/
namespace Go.Proofs.YtecjkkipglldlaaGreatDoor.Hog
open Go

theorem cutC_nil : cutC [] = [] := rfl
theorem cutC_ne {p : List UInt8} (h : p ≠ []) : cutC p ≠ [] := by unfold cutC; rw [if_neg h]; exact cut_ne p
theorem cutC_inj {p q : List UInt8} (h : cutC p = cutC q) : p = q := by rw [← join_cutC p, h, join_cutC]
theorem may_all {p : List UInt8} (h : mayL p = true) : (cutC p).all partL = true := (may_parts h).2.2
theorem all_drop {xs : List (List UInt8)} (k : Nat) (h : xs.all partL = true) : (xs.drop k).all partL = true :=
  List.all_eq_true.2 fun x hx => List.all_eq_true.1 h x (List.mem_of_mem_drop hx)
theorem join_tail_len (x : List UInt8) (r : List (List UInt8)) : (joinS r).length ≤ (joinS (x :: r)).length := by
  by_cases h : r = []
  · subst h; simp [join_nil]
  · rw [join_cons x r h]; simp; omega
theorem join_drop_len : ∀ (xs : List (List UInt8)) (k : Nat), (joinS (xs.drop k)).length ≤ (joinS xs).length
  | [], k => by simp
  | x :: r, 0 => by simp
  | x :: r, k + 1 => by rw [List.drop_succ_cons]; exact Nat.le_trans (join_drop_len r k) (join_tail_len x r)

/-- A path stands under another one just if its parts begin with the other's. -/
theorem in_cut {p d : List UInt8} : In p d → cutC d <+: cutC p := by
  rintro (rfl | rfl | ⟨r, hr⟩)
  · exact List.prefix_refl _
  · exact List.nil_prefix
  · by_cases hd : d = []
    · subst hd; exact List.nil_prefix
    · have hp : p ≠ [] := by rw [← hr]; simp
      have e : p = d ++ 47 :: r := by rw [← hr]; simp
      refine ⟨cutL r, ?_⟩
      unfold cutC
      rw [if_neg hd, if_neg hp, e, cut_app]
theorem cut_in {p d : List UInt8} (h : cutC d <+: cutC p) : In p d := by
  obtain ⟨r, hr⟩ := h
  by_cases h0 : r = []
  · subst h0; rw [List.append_nil] at hr; exact .inl (cutC_inj hr).symm
  · by_cases hd : d = []
    · exact .inr (.inl hd)
    · refine .inr (.inr ⟨joinS r, ?_⟩)
      rw [← join_cutC p, ← hr, join_app _ _ (cutC_ne hd) h0, join_cutC]; simp
theorem in_iff {p d : List UInt8} : In p d ↔ cutC d <+: cutC p := ⟨in_cut, cut_in⟩

/-- What is left of p behind d; p behind d. -/
def stripL (p d : List UInt8) : List UInt8 := joinS ((cutC p).drop (cutC d).length)
def behL (d q : List UInt8) : List UInt8 := joinS (cutC d ++ cutC q)
theorem beh_eq (d q : List UInt8) : behL d q = if q = [] then d else if d = [] then q else d ++ 47 :: q := by
  unfold behL
  by_cases h2 : q = []
  · subst h2; rw [if_pos rfl, cutC_nil, List.append_nil, join_cutC]
  · rw [if_neg h2]
    by_cases h1 : d = []
    · subst h1; rw [if_pos rfl, cutC_nil, List.nil_append, join_cutC]
    · rw [if_neg h1, join_app _ _ (cutC_ne h1) (cutC_ne h2), join_cutC, join_cutC]
theorem strip_cut {p d : List UInt8} (hp : mayL p = true) : cutC (stripL p d) = (cutC p).drop (cutC d).length := cutC_join (all_drop _ (may_all hp))
theorem strip_may {p d : List UInt8} (hp : mayL p = true) : mayL (stripL p d) = true := by
  obtain ⟨h1, h2, h3⟩ := may_parts hp
  unfold stripL
  rw [may_join (all_drop _ h3)]
  unfold joinOk allP
  rw [all_drop _ h3]
  have := join_drop_len (cutC p) (cutC d).length
  rw [join_cutC] at this
  simp only [Bool.and_true, Bool.and_eq_true, decide_eq_true_eq]
  exact ⟨by rw [List.length_drop]; omega, by omega⟩
theorem beh_cut {d q : List UInt8} (hd : mayL d = true) (hq : mayL q = true) : cutC (behL d q) = cutC d ++ cutC q :=
  cutC_join (by rw [List.all_append, may_all hd, may_all hq]; rfl)
theorem beh_strip {p d : List UInt8} (h : In p d) : behL d (stripL p d) = p ∨ mayL p = false := by
  cases hp : mayL p with
  | false => exact .inr rfl
  | true =>
    refine .inl ?_
    unfold behL
    rw [strip_cut hp]
    obtain ⟨r, hr⟩ := in_cut h
    rw [← hr, List.drop_left, hr, join_cutC]
theorem beh_strip' {p d : List UInt8} (hp : mayL p = true) (h : In p d) : behL d (stripL p d) = p := by
  rcases beh_strip h with e | e
  · exact e
  · rw [hp] at e; cases e
theorem strip_beh {d q : List UInt8} (hd : mayL d = true) (hq : mayL q = true) : stripL (behL d q) d = q := by
  unfold stripL
  rw [beh_cut hd hq, List.drop_left, join_cutC]
theorem beh_in {d q : List UInt8} (hd : mayL d = true) (hq : mayL q = true) : In (behL d q) d := cut_in (by rw [beh_cut hd hq]; exact List.prefix_append _ _)
theorem strip_self (p : List UInt8) : stripL p p = [] := by unfold stripL; rw [List.drop_length]; rfl
theorem strip_root {p : List UInt8} : stripL p [] = p := by unfold stripL; rw [cutC_nil]; exact join_cutC p
theorem strip_ne {p d : List UInt8} (hp : mayL p = true) (h : In p d) (hne : p ≠ d) : stripL p d ≠ [] := by
  intro e
  have := beh_strip' hp h
  rw [e, beh_eq, if_pos rfl] at this
  exact hne this.symm

theorem less_app : ∀ a x y : List UInt8, Op.bytesLess (a ++ x) (a ++ y) = Op.bytesLess x y
  | [], x, y => rfl
  | c :: a, x, y => by rw [List.cons_append, List.cons_append, Op.bytesLess]; simp [less_app a x y, UInt8.lt_irrefl]
theorem less_nil (x : List UInt8) : Op.bytesLess x [] = false := by cases x <;> rfl
theorem nil_less {x : List UInt8} (h : x ≠ []) : Op.bytesLess [] x = true := by cases x with | nil => exact absurd rfl h | cons _ _ => rfl
theorem beh_less (d s r : List UInt8) : Op.bytesLess (behL d s) (behL d r) = Op.bytesLess s r := by
  rw [beh_eq, beh_eq]
  by_cases h1 : s = []
  · subst h1
    by_cases h2 : r = []
    · subst h2; rw [if_pos rfl, less_irr, less_irr]
    · rw [if_pos rfl, if_neg h2, nil_less h2]
      by_cases h3 : d = []
      · rw [if_pos h3, h3, nil_less h2]
      · rw [if_neg h3]
        have := less_app d [] (47 :: r)
        rw [List.append_nil] at this
        rw [this]; rfl
  · rw [if_neg h1]
    by_cases h2 : r = []
    · subst h2
      rw [if_pos rfl, less_nil]
      by_cases h3 : d = []
      · rw [if_pos h3, h3, less_nil]
      · rw [if_neg h3]
        have := less_app d (47 :: s) []
        rw [List.append_nil] at this
        rw [this]; rfl
    · rw [if_neg h2]
      by_cases h3 : d = []
      · rw [if_pos h3, if_pos h3]
      · rw [if_neg h3, if_neg h3, less_app, Op.bytesLess]; simp [UInt8.lt_irrefl]
theorem strip_less {p q d : List UInt8} (hp : mayL p = true) (hq : mayL q = true) (h : In p d) (k : In q d) : Op.bytesLess (stripL p d) (stripL q d) = Op.bytesLess p q := by
  have := beh_less d (stripL p d) (stripL q d)
  rw [beh_strip' hp h, beh_strip' hq k] at this
  exact this.symm

/-- A path's parent. -/
theorem parent_ok {p : List UInt8} (hp : mayL p = true) (hne : p ≠ []) : parentOk p = true := by unfold parentOk; simp [hp, hne]
theorem parent_not {p : List UInt8} (h : parentOk p = true) : p ≠ [] ∧ mayL p = true := by
  unfold parentOk at h
  rw [Bool.and_eq_true] at h
  refine ⟨fun e => ?_, h.2⟩
  rw [e] at h; simp at h
theorem parent_cut {p : List UInt8} (hp : mayL p = true) (hne : p ≠ []) : cutC p = cutC (parentL p) ++ [baseL p] := by
  obtain ⟨q, x, h1, h2, _, _, h5⟩ := back_parts hne hp
  rw [h1, h2]; exact h5
theorem parent_may {p : List UInt8} (hp : mayL p = true) (hne : p ≠ []) : mayL (parentL p) = true := by
  obtain ⟨q, x, h1, h2, h3, _, _⟩ := back_parts hne hp
  rw [h1]; exact h3
theorem base_part {p : List UInt8} (hp : mayL p = true) (hne : p ≠ []) : partL (baseL p) = true := by
  obtain ⟨q, x, h1, h2, _, h4, _⟩ := back_parts hne hp
  rw [h2]; exact h4
theorem in_parent {p : List UInt8} (hp : mayL p = true) (hne : p ≠ []) : In p (parentL p) := cut_in (by rw [parent_cut hp hne]; exact List.prefix_append _ _)
theorem parent_ne {p : List UInt8} (hp : mayL p = true) (hne : p ≠ []) : parentL p ≠ p := by
  intro e
  have := congrArg List.length (parent_cut hp hne)
  rw [e] at this
  simp at this
theorem parent_less {p : List UInt8} (hp : mayL p = true) (hne : p ≠ []) : Op.bytesLess (parentL p) p = true := by
  rcases less_three (parentL p) p with h | h | h
  · exact h
  · exact absurd h (parent_ne hp hne)
  · rw [not_less p _ (in_parent hp hne).pre] at h; cases h
theorem up_in {p d : List UInt8} (hp : mayL p = true) (hne : p ≠ []) (h : In p d) (hd : p ≠ d) : In (parentL p) d := by
  obtain ⟨r, hr⟩ := in_cut h
  have hc := parent_cut hp hne
  have hr0 : r ≠ [] := by
    intro e
    rw [e, List.append_nil] at hr
    exact hd (cutC_inj hr).symm
  refine cut_in ⟨r.dropLast, ?_⟩
  have e : (cutC d ++ r).dropLast = (cutC (parentL p) ++ [baseL p]).dropLast := by rw [hr, hc]
  rw [List.dropLast_append_of_ne_nil hr0, List.dropLast_concat] at e
  exact e
theorem strip_parent {p d : List UInt8} (hp : mayL p = true) (hne : p ≠ []) (h : In p d) (hd : p ≠ d) :
    parentL (stripL p d) = stripL (parentL p) d ∧ baseL (stripL p d) = baseL p := by
  have hs := strip_ne hp h hd
  have hsm : mayL (stripL p d) = true := strip_may hp
  have c1 := parent_cut hsm hs
  have c2 := strip_cut (d := d) hp
  rw [parent_cut hp hne] at c2
  obtain ⟨r, hr⟩ := in_cut (up_in hp hne h hd)
  rw [← hr, List.append_assoc, List.drop_left] at c2
  rw [c2] at c1
  have e := List.append_inj' c1 rfl
  refine ⟨?_, by simpa using e.2.symm⟩
  apply cutC_inj
  rw [← e.1, strip_cut (parent_may hp hne), ← hr, List.drop_left]
theorem cutC_part {x : List UInt8} (h : partL x = true) : cutC x = [x] := by
  have := cutC_join (xs := [x]) (by simp [h])
  rwa [join_one] at this
theorem base_beh {p : List UInt8} (hp : mayL p = true) (hne : p ≠ []) : behL (parentL p) (baseL p) = p := by
  unfold behL
  rw [cutC_part (base_part hp hne), ← parent_cut hp hne, join_cutC]
theorem base_less {p q : List UInt8} (hp : mayL p = true) (h1 : p ≠ []) (hq : mayL q = true) (h2 : q ≠ []) (e : parentL p = parentL q) : Op.bytesLess (baseL p) (baseL q) = Op.bytesLess p q := by
  have := beh_less (parentL p) (baseL p) (baseL q)
  rw [base_beh hp h1, e, base_beh hq h2] at this
  exact this.symm
/-- What stands under what is left of a path. -/
theorem in_strip {p d q : List UInt8} (hp : mayL p = true) (hd : mayL d = true) (hq : mayL q = true) (h : In p d) : In (stripL p d) q ↔ In p (behL d q) := by
  rw [in_iff, in_iff, strip_cut hp, beh_cut hd hq]
  obtain ⟨r, hr⟩ := in_cut h
  rw [← hr, List.drop_left, List.prefix_append_right_inj]
theorem strip_strip {p d q : List UInt8} (hp : mayL p = true) (hd : mayL d = true) (hq : mayL q = true) : stripL (stripL p d) q = stripL p (behL d q) := by
  unfold stripL
  rw [show cutC (joinS ((cutC p).drop (cutC d).length)) = (cutC p).drop (cutC d).length from strip_cut hp, beh_cut hd hq, List.drop_drop, List.length_append]
theorem beh_root (q : List UInt8) : behL [] q = q := by
  rw [beh_eq]
  by_cases h : q = []
  · rw [if_pos h, h]
  · rw [if_neg h, if_pos rfl]
theorem beh_end (d : List UInt8) : behL d [] = d := by rw [beh_eq, if_pos rfl]
theorem beh_inj {d q r : List UInt8} (hd : mayL d = true) (hq : mayL q = true) (hr : mayL r = true) (h : behL d q = behL d r) : q = r := by
  rw [← strip_beh hd hq, h, strip_beh hd hr]
/-- A path does not begin with a stroke. -/
theorem may_front {p : List UInt8} (hp : mayL p = true) : ¬ [47] <+: p := by
  rintro ⟨r, hr⟩
  have hne : p ≠ [] := by rw [← hr]; simp
  have h3 := may_all hp
  have e : cutC p = [] :: cutL r := by
    unfold cutC
    rw [if_neg hne, ← hr]
    exact cut_stroke r
  rw [e] at h3
  have := (part_parts (List.all_eq_true.1 h3 [] (by simp))).1
  exact this rfl
/-- What is left, as it is reckoned: p's bytes behind d's, a stroke at the front passed over. -/
theorem strip_code {p d : List UInt8} (hp : mayL p = true) (h : In p d) : (if [47] <+: p.drop d.length then (p.drop d.length).drop 1 else p.drop d.length) = stripL p d := by
  have e := beh_strip' hp h
  rw [beh_eq] at e
  by_cases h1 : stripL p d = []
  · rw [if_pos h1] at e
    rw [h1, ← e, List.drop_length]
    rfl
  · rw [if_neg h1] at e
    by_cases h2 : d = []
    · rw [if_pos h2] at e
      subst h2
      rw [List.length_nil, List.drop_zero, if_neg (may_front hp)]
      exact e.symm
    · rw [if_neg h2] at e
      have e2 : p.drop d.length = 47 :: stripL p d := by rw [← e, List.drop_left, e]
      rw [e2, if_pos ⟨stripL p d, rfl⟩]
      rfl

end Go.Proofs.YtecjkkipglldlaaGreatDoor.Hog
