/- A registration as text, plainly: laid row by row, and read again row by row. Nothing here names the program. -/
import Derived.Test.YtmlkknbndglgaaaGreatDoorJ1
import Derived.Lib.Strings
namespace Go.Proofs.YtmlkknbndglgaaaGreatDoor.Hog
open Go

/-- A registration: its prefix, its policy, its items with what they refer to, its profile. -/
structure RegP where
  pre : ByteArray
  pol : Int
  items : List (ByteArray × List ByteArray)
  prof : List ByteArray
def noneM : RegP := ⟨⟨#[]⟩, 0, [], []⟩
/-- What each kind of row begins with. -/
def wordM : Nat → List UInt8
  | 0 => [112, 114, 101, 102, 105, 120, 32]
  | 1 => [112, 111, 108, 105, 99, 121, 32]
  | 2 => [105, 116, 101, 109, 32]
  | 3 => [114, 101, 102, 32]
  | _ => [112, 114, 111, 102, 105, 108, 101, 32]
def digM (p : Int) : ByteArray := if p = 1 then mk [49] else mk [48]
/-- A row as it is written, with e behind. -/
def rowE (e : List UInt8) (k : Nat × ByteArray) : List UInt8 := wordM k.1 ++ k.2.data.toList ++ e
def rowM (k : Nat × ByteArray) : List UInt8 := rowE [10] k
def itemR (i : ByteArray × List ByteArray) : List (Nat × ByteArray) := (2, i.1) :: i.2.map fun x => (3, x)
/-- The rows of a registration. -/
def rowsM (r : RegP) : List (Nat × ByteArray) := (0, r.pre) :: (1, digM r.pol) :: (r.items.flatMap itemR ++ r.prof.map fun x => (4, x))
/-- The text of a registration. -/
def layM (r : RegP) : List UInt8 := (rowsM r).flatMap rowM

def lineW (w : List UInt8) (x : ByteArray) : List UInt8 := w ++ x.data.toList ++ [10]
def linesW (w : List UInt8) (xs : List ByteArray) : List UInt8 := xs.flatMap (lineW w)
theorem linesW_len {w : List UInt8} {xs : List ByteArray} (hw : w.length ≤ 8) (h : ∀ x ∈ xs, x.size ≤ 40) : (linesW w xs).length ≤ 49 * xs.length := by
  induction xs with
  | nil => exact Nat.le_refl _
  | cons x r ih =>
    have h1 := h x List.mem_cons_self
    have h2 := ih fun y hy => h y (List.mem_cons_of_mem _ hy)
    unfold linesW at h2 ⊢
    rw [List.flatMap_cons, List.length_append, List.length_cons]
    have h3 : (lineW w x).length = w.length + x.size + 1 := by unfold lineW; rw [List.length_append, List.length_append, ← size_len]; rfl
    omega
def itemL (i : ByteArray × List ByteArray) : List UInt8 := linesW (wordM 2) [i.1] ++ linesW (wordM 3) i.2
/-- The text, as it is written. -/
theorem lay_parts (r : RegP) : layM r = linesW (wordM 0) [r.pre] ++ linesW (wordM 1) [digM r.pol] ++ r.items.flatMap itemL ++ linesW (wordM 4) r.prof := by
  have e : ∀ (k : Nat) (l : List ByteArray), (l.map fun x => ((k, x) : Nat × ByteArray)).flatMap rowM = linesW (wordM k) l := by
    intro k l
    unfold linesW
    rw [List.flatMap_map]; rfl
  have e2 : (r.items.flatMap itemR).flatMap rowM = r.items.flatMap itemL := by
    rw [List.flatMap_assoc]
    congr 1
    funext i
    unfold itemR itemL
    rw [List.flatMap_cons, e]
    have : linesW (wordM 2) [i.1] = rowM (2, i.1) := by unfold linesW; rw [List.flatMap_cons, List.flatMap_nil, List.append_nil]; rfl
    rw [this]
  have e3 : ∀ (k : Nat) (x : ByteArray), linesW (wordM k) [x] = rowM (k, x) := by
    intro k x; unfold linesW; rw [List.flatMap_cons, List.flatMap_nil, List.append_nil]; rfl
  unfold layM rowsM
  rw [List.flatMap_cons, List.flatMap_cons, List.flatMap_append, e, e2, e3, e3, List.append_assoc, List.append_assoc]

/-- What a row of each kind puts into what was read; f tells what becomes of the policy. -/
def putM (f : Int → ByteArray → Int) : Nat → RegP → ByteArray → RegP
  | 0, r, x => { r with pre := x }
  | 1, r, x => { r with pol := f r.pol x }
  | 2, r, x => { r with items := r.items ++ [(x, [])] }
  | 3, r, x => match r.items.getLast? with
    | some i => { r with items := r.items.dropLast ++ [(i.1, i.2 ++ [x])] }
    | none => r
  | _, r, x => { r with prof := r.prof ++ [x] }
theorem put0 (f : Int → ByteArray → Int) (r : RegP) (x : ByteArray) : putM f 0 r x = { r with pre := x } := rfl
theorem put1 (f : Int → ByteArray → Int) (r : RegP) (x : ByteArray) : putM f 1 r x = { r with pol := f r.pol x } := rfl
theorem put2 (f : Int → ByteArray → Int) (r : RegP) (x : ByteArray) : putM f 2 r x = { r with items := r.items ++ [(x, [])] } := rfl
theorem put3 (f : Int → ByteArray → Int) (r : RegP) (x : ByteArray) : putM f 3 r x = match r.items.getLast? with
    | some i => { r with items := r.items.dropLast ++ [(i.1, i.2 ++ [x])] }
    | none => r := rfl
theorem put4 (f : Int → ByteArray → Int) (r : RegP) (x : ByteArray) : putM f 4 r x = { r with prof := r.prof ++ [x] } := rfl
theorem put3_last (f : Int → ByteArray → Int) (r : RegP) (x : ByteArray) (is : List (ByteArray × List ByteArray)) (i : ByteArray × List ByteArray) (h : r.items = is ++ [i]) : putM f 3 r x = { r with items := is ++ [(i.1, i.2 ++ [x])] } := by
  rw [put3, h]; simp
theorem put3_none (f : Int → ByteArray → Int) (r : RegP) (x : ByteArray) (h : r.items = []) : putM f 3 r x = r := by
  rw [put3, h]; rfl
/-- What a line puts, if it begins so; t cuts its end off. -/
def stepK (f : Int → ByteArray → Int) (t : List UInt8 → List UInt8) (l : List UInt8) (r : RegP) (k : Nat) : RegP :=
  if (wordM k).isPrefixOf l = true then putM f k r (mk (t (l.drop (wordM k).length))) else r
def stepM (f : Int → ByteArray → Int) (t : List UInt8 → List UInt8) (r : RegP) (l : List UInt8) : RegP := (List.range 5).foldl (stepK f t l) r
theorem pref_other (k j : Nat) (hk : k < 5) (hj : j < 5) (h : k ≠ j) (x : List UInt8) : (wordM j).isPrefixOf (wordM k ++ x) = false := by
  match k, j, hk, hj with
  | 0, 0, _, _ | 1, 1, _, _ | 2, 2, _, _ | 3, 3, _, _ | 4, 4, _, _ => exact absurd rfl h
  | 0, 1, _, _ | 0, 2, _, _ | 0, 3, _, _ | 0, 4, _, _ | 1, 0, _, _ | 1, 2, _, _ | 1, 3, _, _ | 1, 4, _, _ | 2, 0, _, _ | 2, 1, _, _ | 2, 3, _, _ | 2, 4, _, _ | 3, 0, _, _ | 3, 1, _, _ | 3, 2, _, _ | 3, 4, _, _ | 4, 0, _, _ | 4, 1, _, _ | 4, 2, _, _ | 4, 3, _, _ => rfl
theorem pref_own : ∀ (w x : List UInt8), w.isPrefixOf (w ++ x) = true
  | [], _ => by simp
  | a :: w, x => by simp
theorem stepK_own (f : Int → ByteArray → Int) (t : List UInt8 → List UInt8) (k : Nat) (x : List UInt8) (r : RegP) : stepK f t (wordM k ++ x) r k = putM f k r (mk (t x)) := by
  unfold stepK; rw [if_pos (pref_own _ _), List.drop_left]
theorem stepK_other (f : Int → ByteArray → Int) (t : List UInt8 → List UInt8) (k j : Nat) (hk : k < 5) (hj : j < 5) (h : k ≠ j) (x : List UInt8) (r : RegP) : stepK f t (wordM k ++ x) r j = r := by
  unfold stepK; rw [if_neg (by rw [pref_other k j hk hj h]; decide)]
theorem step_row (f : Int → ByteArray → Int) (t : List UInt8 → List UInt8) (k : Nat) (hk : k < 5) (x : List UInt8) (r : RegP) : stepM f t r (wordM k ++ x) = putM f k r (mk (t x)) := by
  have o : ∀ j r, j < 5 → k ≠ j → stepK f t (wordM k ++ x) r j = r := fun j r hj h => stepK_other f t k j hk hj h x r
  unfold stepM
  rw [show List.range 5 = [0, 1, 2, 3, 4] from rfl]
  simp only [List.foldl_cons, List.foldl_nil]
  match k, hk with
  | 0, _ => rw [stepK_own, o 1 _ (by decide) (by decide), o 2 _ (by decide) (by decide), o 3 _ (by decide) (by decide), o 4 _ (by decide) (by decide)]
  | 1, _ => rw [o 0 _ (by decide) (by decide), stepK_own, o 2 _ (by decide) (by decide), o 3 _ (by decide) (by decide), o 4 _ (by decide) (by decide)]
  | 2, _ => rw [o 0 _ (by decide) (by decide), o 1 _ (by decide) (by decide), stepK_own, o 3 _ (by decide) (by decide), o 4 _ (by decide) (by decide)]
  | 3, _ => rw [o 0 _ (by decide) (by decide), o 1 _ (by decide) (by decide), o 2 _ (by decide) (by decide), stepK_own, o 4 _ (by decide) (by decide)]
  | 4, _ => rw [o 0 _ (by decide) (by decide), o 1 _ (by decide) (by decide), o 2 _ (by decide) (by decide), o 3 _ (by decide) (by decide), stepK_own]
theorem step_rowE (f : Int → ByteArray → Int) (t : List UInt8 → List UInt8) (e : List UInt8) (ht : ∀ x, t (x ++ e) = x) (k : Nat) (hk : k < 5) (x : ByteArray) (r : RegP) : stepM f t r (rowE e (k, x)) = putM f k r x := by
  unfold rowE
  rw [List.append_assoc, step_row f t k hk, ht, data_mk]

theorem put_refs (f : Int → ByteArray → Int) (is : List (ByteArray × List ByteArray)) (nm : ByteArray) : ∀ (l d : List ByteArray) (r : RegP), r.items = is ++ [(nm, d)] → (l.map fun x => ((3, x) : Nat × ByteArray)).foldl (fun r k => putM f k.1 r k.2) r = { r with items := is ++ [(nm, d ++ l)] }
  | [], d, r, h => by rw [List.append_nil, ← h]; rfl
  | x :: l, d, r, h => by
    rw [List.map_cons, List.foldl_cons]
    rw [show putM f (3, x).1 r (3, x).2 = _ from put3_last f r x is (nm, d) h, put_refs f is nm l (d ++ [x]) _ rfl, List.append_assoc]
    rfl
theorem put_items (f : Int → ByteArray → Int) : ∀ (l d : List (ByteArray × List ByteArray)) (r : RegP), r.items = d → (l.flatMap itemR).foldl (fun r k => putM f k.1 r k.2) r = { r with items := d ++ l }
  | [], d, r, h => by rw [List.append_nil, ← h]; rfl
  | i :: l, d, r, h => by
    have e : putM f 2 r i.1 = { r with items := d ++ [(i.1, [])] } := by rw [put2, h]
    rw [List.flatMap_cons, itemR, List.cons_append, List.foldl_cons, List.foldl_append, e, put_refs f d i.1 i.2 [] _ rfl, List.nil_append, put_items f l (d ++ [i]) _ rfl, List.append_assoc]
    rfl
theorem put_prof (f : Int → ByteArray → Int) : ∀ (l d : List ByteArray) (r : RegP), r.prof = d → (l.map fun x => ((4, x) : Nat × ByteArray)).foldl (fun r k => putM f k.1 r k.2) r = { r with prof := d ++ l }
  | [], d, r, h => by rw [List.append_nil, ← h]; rfl
  | x :: l, d, r, h => by
    have e : putM f 4 r x = { r with prof := d ++ [x] } := by rw [put4, h]
    rw [List.map_cons, List.foldl_cons, e, put_prof f l (d ++ [x]) _ rfl, List.append_assoc]
    rfl
/-- What the rows put one behind the other is the registration. -/
theorem put_rows (f : Int → ByteArray → Int) (r : RegP) (hf : f 0 (digM r.pol) = r.pol) : (rowsM r).foldl (fun s k => putM f k.1 s k.2) noneM = r := by
  have e : putM f 1 (putM f 0 noneM r.pre) (digM r.pol) = ⟨r.pre, r.pol, [], []⟩ := by
    rw [put1, put0]; show (⟨r.pre, f 0 (digM r.pol), [], []⟩ : RegP) = _; rw [hf]
  unfold rowsM
  rw [List.foldl_cons, List.foldl_cons, List.foldl_append, e, put_items f r.items [] _ rfl, put_prof f r.prof [] _ rfl]
  rfl
theorem rows_kind (r : RegP) : ∀ k ∈ rowsM r, k.1 < 5 := by
  intro k hk
  unfold rowsM at hk
  rcases List.mem_cons.1 hk with rfl | hk
  · exact (by decide : 0 < 5)
  · rcases List.mem_cons.1 hk with rfl | hk
    · exact (by decide : 1 < 5)
    · rcases List.mem_append.1 hk with hk | hk
      · obtain ⟨i, _, hk⟩ := List.mem_flatMap.1 hk
        rcases List.mem_cons.1 hk with rfl | hk
        · exact (by decide : 2 < 5)
        · obtain ⟨x, _, rfl⟩ := List.mem_map.1 hk; exact (by decide : 3 < 5)
      · obtain ⟨x, _, rfl⟩ := List.mem_map.1 hk; exact (by decide : 4 < 5)
/-- What was laid is read again. -/
theorem read_rows (f : Int → ByteArray → Int) (t : List UInt8 → List UInt8) (e : List UInt8) (ht : ∀ x, t (x ++ e) = x) (r : RegP) (hf : f 0 (digM r.pol) = r.pol) : ((rowsM r).map (rowE e)).foldl (stepM f t) noneM = r := by
  have g : ∀ (l : List (Nat × ByteArray)) (s : RegP), (∀ k ∈ l, k.1 < 5) → (l.map (rowE e)).foldl (stepM f t) s = l.foldl (fun s k => putM f k.1 s k.2) s := by
    intro l
    induction l with
    | nil => intro s _; rfl
    | cons k l ih =>
      intro s h
      rw [List.map_cons, List.foldl_cons, List.foldl_cons, step_rowE f t e ht k.1 (h k List.mem_cons_self) k.2 s, ih _ fun x hx => h x (List.mem_cons_of_mem _ hx)]
  rw [g _ _ (rows_kind r), put_rows f r hf]

/-- No byte 10 stands in any row. -/
def NoTen (r : RegP) : Prop := ∀ k ∈ rowsM r, ¬ (10 : UInt8) ∈ k.2.data.toList
theorem word_noten (k : Nat) : ¬ (10 : UInt8) ∈ wordM k := by
  unfold wordM
  split <;> decide

/-- The lines of a text with their ends; what stands behind the last end is a line, too, if it is not empty. -/
def rawA : List UInt8 → List UInt8 → List (List UInt8)
  | acc, [] => if acc = [] then [] else [acc]
  | acc, b :: s => if b = 10 then (acc ++ [10]) :: rawA [] s else rawA (acc ++ [b]) s
def rawM (s : List UInt8) : List (List UInt8) := rawA [] s
theorem rawA_run (x s : List UInt8) (h : ¬ (10 : UInt8) ∈ x) : ∀ acc, rawA acc (x ++ s) = rawA (acc ++ x) s := by
  induction x with
  | nil => intro acc; simp
  | cons b r ih =>
    intro acc
    have hb : b ≠ 10 := fun e => h (by rw [e]; exact List.mem_cons_self)
    rw [List.cons_append, rawA, if_neg hb, ih (fun hm => h (List.mem_cons_of_mem _ hm)), List.append_assoc]
    rfl
theorem raw_line (x s : List UInt8) (h : ¬ (10 : UInt8) ∈ x) : rawM (x ++ 10 :: s) = (x ++ [10]) :: rawM s := by
  unfold rawM
  rw [rawA_run x _ h, List.nil_append, rawA, if_pos rfl]
theorem raw_last (x : List UInt8) (h : ¬ (10 : UInt8) ∈ x) (h0 : x ≠ []) : rawM x = [x] := by
  unfold rawM
  have := rawA_run x [] h []
  rw [List.append_nil, List.nil_append] at this
  rw [this, rawA, if_neg h0]
theorem raw_nil : rawM [] = [] := rfl
theorem raw_all : ∀ l : List (Nat × ByteArray), (∀ k ∈ l, ¬ (10 : UInt8) ∈ k.2.data.toList) → rawM (l.flatMap rowM) = l.map rowM
  | [], _ => rfl
  | k :: l, h => by
    have h1 : ¬ (10 : UInt8) ∈ wordM k.1 ++ k.2.data.toList := fun hm => by
      rcases List.mem_append.1 hm with a | a
      · exact word_noten _ a
      · exact h k List.mem_cons_self a
    have e : (k :: l).flatMap rowM = (wordM k.1 ++ k.2.data.toList) ++ 10 :: l.flatMap rowM := by
      rw [List.flatMap_cons]; unfold rowM rowE; simp
    rw [e, raw_line _ _ h1, raw_all l fun x hx => h x (List.mem_cons_of_mem _ hx)]
    rfl

/-- The lines of a text without their ends; what stands behind the last end is none. -/
def fullA : List UInt8 → List UInt8 → List (List UInt8)
  | _, [] => []
  | acc, b :: s => if b = 10 then acc :: fullA [] s else fullA (acc ++ [b]) s
theorem fullA_run (x s : List UInt8) (h : ¬ (10 : UInt8) ∈ x) : ∀ acc, fullA acc (x ++ s) = fullA (acc ++ x) s := by
  induction x with
  | nil => intro acc; simp
  | cons b r ih =>
    intro acc
    have hb : b ≠ 10 := fun e => h (by rw [e]; exact List.mem_cons_self)
    rw [List.cons_append, fullA, if_neg hb, ih (fun hm => h (List.mem_cons_of_mem _ hm)), List.append_assoc]
    rfl
theorem full_all : ∀ l : List (Nat × ByteArray), (∀ k ∈ l, ¬ (10 : UInt8) ∈ k.2.data.toList) → fullA [] (l.flatMap rowM) = l.map (rowE [])
  | [], _ => rfl
  | k :: l, h => by
    have h1 : ¬ (10 : UInt8) ∈ wordM k.1 ++ k.2.data.toList := fun hm => by
      rcases List.mem_append.1 hm with a | a
      · exact word_noten _ a
      · exact h k List.mem_cons_self a
    have e : (k :: l).flatMap rowM = (wordM k.1 ++ k.2.data.toList) ++ 10 :: l.flatMap rowM := by
      rw [List.flatMap_cons]; unfold rowM rowE; simp
    rw [e, fullA_run _ _ h1, List.nil_append, fullA, if_pos rfl, full_all l fun x hx => h x (List.mem_cons_of_mem _ hx)]
    simp [rowE]

/-- What one reading makes of a text. -/
def trimM (l : List UInt8) : List UInt8 := Lib.trimSuffix l [10]
theorem trim_own (x : List UInt8) : trimM (x ++ [10]) = x := by
  unfold trimM Lib.trimSuffix Lib.hasSuffix
  have : ([10] : List UInt8).isSuffixOf (x ++ [10]) = true := List.isSuffixOf_iff_suffix.2 (List.suffix_append _ _)
  rw [if_pos this]
  simp
def readP (f : Int → ByteArray → Int) (s : List UInt8) : RegP := (rawM s).foldl (stepM f trimM) noneM
def readR (f : Int → ByteArray → Int) (s : List UInt8) : RegP := (fullA [] s).foldl (stepM f id) noneM
theorem readP_lay {f : Int → ByteArray → Int} {r : RegP} (h : NoTen r) (hf : f 0 (digM r.pol) = r.pol) : readP f (layM r) = r := by
  unfold readP layM
  rw [raw_all _ h]
  exact read_rows f trimM [10] trim_own r hf
theorem readR_lay {f : Int → ByteArray → Int} {r : RegP} (h : NoTen r) (hf : f 0 (digM r.pol) = r.pol) : readR f (layM r) = r := by
  unfold readR layM
  rw [full_all _ h]
  exact read_rows f id [] (fun x => by simp) r hf
/-- How many lines there are. -/
theorem lay_count {r : RegP} (h : NoTen r) : (layM r).count 10 = 2 + r.items.length + r.prof.length + (r.items.map (·.2.length)).sum := by
  have key : ∀ l : List (Nat × ByteArray), (∀ k ∈ l, ¬ (10 : UInt8) ∈ k.2.data.toList) → (l.flatMap rowM).count 10 = l.length := by
    intro l hl
    induction l with
    | nil => rfl
    | cons k l ih =>
      rw [List.flatMap_cons, List.count_append, ih fun x hx => hl x (List.mem_cons_of_mem _ hx), List.length_cons]
      unfold rowM rowE
      rw [List.count_append, List.count_append, List.count_eq_zero.2 (word_noten _), List.count_eq_zero.2 (hl k List.mem_cons_self)]
      simp
      omega
  have cnt : ∀ l : List (ByteArray × List ByteArray), (l.flatMap itemR).length = l.length + (l.map (·.2.length)).sum := by
    intro l
    induction l with
    | nil => rfl
    | cons i l ih =>
      rw [List.flatMap_cons, List.length_append, ih, List.length_cons, List.map_cons, List.sum_cons]
      unfold itemR
      rw [List.length_cons, List.length_map]
      omega
  unfold layM
  rw [key _ h]
  unfold rowsM
  rw [List.length_cons, List.length_cons, List.length_append, List.length_map, cnt]
  omega
theorem flat_last : ∀ l : List (Nat × ByteArray), l ≠ [] → ∃ p, l.flatMap rowM = p ++ [10]
  | [], h => absurd rfl h
  | [k], _ => ⟨wordM k.1 ++ k.2.data.toList, by simp [rowM, rowE]⟩
  | k :: j :: l, _ => by
    obtain ⟨p, e⟩ := flat_last (j :: l) (by simp)
    exact ⟨rowM k ++ p, by rw [List.flatMap_cons, e, List.append_assoc]⟩
/-- The last byte ends a line. -/
theorem lay_last (r : RegP) : ∃ p, layM r = p ++ [10] := flat_last _ (by unfold rowsM; simp)
theorem lay_long {r : RegP} (h : ∀ k ∈ rowsM r, k.2.size ≤ 40) : (layM r).length ≤ 49 * (rowsM r).length := by
  have key : ∀ l : List (Nat × ByteArray), (∀ k ∈ l, k.2.size ≤ 40) → (l.flatMap rowM).length ≤ 49 * l.length := by
    intro l hl
    induction l with
    | nil => exact Nat.le_refl _
    | cons k l ih =>
      have h1 := hl k List.mem_cons_self
      have h2 := ih fun x hx => hl x (List.mem_cons_of_mem _ hx)
      rw [size_len] at h1
      have h3 : (wordM k.1).length ≤ 8 := by unfold wordM; split <;> decide
      have h4 : (rowM k).length = (wordM k.1).length + k.2.data.toList.length + 1 := by
        unfold rowM rowE
        rw [List.length_append, List.length_append, List.length_singleton]
      rw [List.flatMap_cons, List.length_append, List.length_cons, h4]
      omega
  exact key _ h
theorem rows_len (r : RegP) : (rowsM r).length = 2 + r.items.length + r.prof.length + (r.items.map (·.2.length)).sum := by
  have cnt : ∀ l : List (ByteArray × List ByteArray), (l.flatMap itemR).length = l.length + (l.map (·.2.length)).sum := by
    intro l
    induction l with
    | nil => rfl
    | cons i l ih =>
      rw [List.flatMap_cons, List.length_append, ih, List.length_cons, List.map_cons, List.sum_cons]
      unfold itemR
      rw [List.length_cons, List.length_map]
      omega
  unfold rowsM
  rw [List.length_cons, List.length_cons, List.length_append, List.length_map, cnt]
  omega
end Go.Proofs.YtmlkknbndglgaaaGreatDoor.Hog
