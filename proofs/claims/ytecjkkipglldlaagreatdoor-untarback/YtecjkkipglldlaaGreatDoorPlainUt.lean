/- Reading a tar, plainly: records, entries, nodes; what was laid is read, whatever stands behind. Nothing here names the program. -/
import Derived.Test.YtecjkkipglldlaaGreatDoorPlainTar
import Derived.Test.YtecjkkipglldlaaGreatDoorPlainDec
import Derived.Lib.AtoiAllCases
import Derived.Lib.IndexMore
import Derived.Lib.IndexLaws
namespace Go.Proofs.YtecjkkipglldlaaGreatDoor.Hog
open Go

/-- The bytes ahead of the first c; those behind it. -/
def aheadC (c : UInt8) (l : List UInt8) : List UInt8 := l.takeWhile (· != c)
def behindC (c : UInt8) (l : List UInt8) : List UInt8 := l.drop ((aheadC c l).length + 1)
theorem ahead_here {c : UInt8} {a r : List UInt8} (h : c ∉ a) : aheadC c (a ++ c :: r) = a := by
  unfold aheadC
  induction a with
  | nil => simp
  | cons x a ih =>
    have hx : (x != c) = true := by rw [bne_iff_ne]; intro e; exact h (by simp [e])
    rw [List.cons_append, List.takeWhile_cons, if_pos hx, ih (fun hm => h (List.mem_cons_of_mem _ hm))]
theorem ahead_none {c : UInt8} {a : List UInt8} (h : c ∉ a) : aheadC c a = a := by
  unfold aheadC
  induction a with
  | nil => rfl
  | cons x a ih =>
    have hx : (x != c) = true := by rw [bne_iff_ne]; intro e; exact h (by simp [e])
    rw [List.takeWhile_cons, if_pos hx, ih (fun hm => h (List.mem_cons_of_mem _ hm))]
theorem behind_here {c : UInt8} {a r : List UInt8} (h : c ∉ a) : behindC c (a ++ c :: r) = r := by
  unfold behindC
  rw [ahead_here h, show a ++ c :: r = (a ++ [c]) ++ r by simp, List.drop_left' (by simp)]
theorem ahead_le (c : UInt8) (l : List UInt8) : (aheadC c l).length ≤ l.length := (List.takeWhile_prefix _).length_le
theorem cut_one (c : UInt8) (l : List UInt8) : (Lib.cut l [c]).1 = aheadC c l ∧ (Lib.cut l [c]).2.1 = behindC c l := by
  unfold Lib.cut
  rw [Lib.index_one]
  have hge := Lib.indexByte_ge l c
  by_cases h0 : 0 ≤ Lib.indexByte l c
  · obtain ⟨i, hi⟩ : ∃ i : Nat, Lib.indexByte l c = i := ⟨_, (Int.toNat_of_nonneg h0).symm⟩
    obtain ⟨h1, h2⟩ := Lib.indexByte_some hi
    obtain ⟨h3, h4⟩ := List.getElem?_eq_some_iff.1 h1
    have e : l = l.take i ++ c :: l.drop (i + 1) := by rw [← h4, ← List.drop_eq_getElem_cons h3, List.take_append_drop]
    have hn : c ∉ l.take i := by
      intro hm
      obtain ⟨k, hk, e2⟩ := List.getElem_of_mem hm
      rw [List.length_take] at hk
      refine h2 k (by omega) ?_
      rw [List.getElem_take] at e2
      rw [← e2]
      exact List.getElem?_eq_getElem _
    rw [if_pos h0, hi]
    constructor
    · show l.take (i : Int).toNat = _
      conv => rhs; rw [e, ahead_here hn]
      rfl
    · show l.drop ((i : Int).toNat + [c].length) = _
      conv => rhs; rw [e, behind_here hn]
      rfl
  · have e0 : Lib.indexByte l c = -1 := by omega
    have hn : c ∉ l := by
      intro hm
      obtain ⟨k, hk, e2⟩ := List.getElem_of_mem hm
      exact Lib.indexByte_none e0 k (by rw [List.getElem?_eq_getElem hk, e2])
    rw [if_neg h0]
    constructor
    · rw [ahead_none hn]
    · show [] = _
      unfold behindC
      rw [ahead_none hn, List.drop_eq_nil_iff.2 (by omega)]

/-- Without one line's end at the end. -/
def trimN (l : List UInt8) : List UInt8 := Lib.trimSuffix l [10]
theorem trimN_snoc (l : List UInt8) : trimN (l ++ [10]) = l := by
  unfold trimN Lib.trimSuffix Lib.hasSuffix
  rw [if_pos (by simp)]
  simp
theorem trimN_le (l : List UInt8) : (trimN l).length ≤ l.length := by
  unfold trimN Lib.trimSuffix
  split
  · rw [List.length_take]; omega
  · exact Nat.le_refl _

/-- How many bytes a record has that begins so. -/
def lenR (s : List UInt8) : Option Nat := match Lib.atoiAll (aheadC 32 s) with
  | .ok n => if n ≤ (aheadC 32 s).length ∨ n > s.length then none else some n.toNat
  | .syntax => none
  | .range => none
/-- The first record taken apart: what it is of, what it says, what stands behind it. -/
def cutP (s : List UInt8) : List UInt8 × List UInt8 × List UInt8 := match lenR s with
  | none => ([], [], [])
  | some n => (aheadC 61 ((s.drop ((aheadC 32 s).length + 1)).take (n - ((aheadC 32 s).length + 1))), trimN (behindC 61 ((s.drop ((aheadC 32 s).length + 1)).take (n - ((aheadC 32 s).length + 1)))), s.drop n)
theorem lenR_some {s : List UInt8} {n : Nat} (h : lenR s = some n) : (aheadC 32 s).length < n ∧ n ≤ s.length ∧ Lib.atoiAll (aheadC 32 s) = .ok (n : Int) := by
  unfold lenR at h
  cases e : Lib.atoiAll (aheadC 32 s) with
  | ok v =>
    rw [e] at h
    simp only [] at h
    split at h
    · cases h
    · rename_i hn
      have := Option.some.inj h
      have hv : v = (n : Int) := by omega
      exact ⟨by omega, by omega, by rw [hv]⟩
  | «syntax» => rw [e] at h; cases h
  | range => rw [e] at h; cases h
theorem cutP_rest (s : List UInt8) (h : s ≠ []) : (cutP s).2.2.length < s.length ∧ (cutP s).2.1.length ≤ s.length := by
  have hl : 0 < s.length := List.length_pos_iff.2 h
  unfold cutP
  cases e : lenR s with
  | none => exact ⟨hl, Nat.zero_le _⟩
  | some n =>
    have := lenR_some e
    refine ⟨?_, ?_⟩
    · show (s.drop n).length < _
      rw [List.length_drop]; omega
    · refine Nat.le_trans (trimN_le _) ?_
      unfold behindC
      rw [List.length_drop, List.length_take, List.length_drop]
      omega
/-- What records say of a name and a link. -/
def putP (k v : List UInt8) (p : List UInt8 × List UInt8) : List UInt8 × List UInt8 := if k = pathK then (v, p.2) else if k = linkK then (p.1, v) else p
def amendF : Nat → List UInt8 → List UInt8 × List UInt8 → List UInt8 × List UInt8
  | 0, _, p => p
  | f + 1, s, p => if s = [] then p else amendF f (cutP s).2.2 (putP (cutP s).1 (cutP s).2.1 p)
theorem amendF_nil (f : Nat) (p : List UInt8 × List UInt8) : amendF f [] p = p := by cases f <;> simp [amendF]
theorem amendF_step {f : Nat} {s : List UInt8} (p : List UInt8 × List UInt8) (hs : s ≠ []) (hf : s.length ≤ f) : ∃ g, (cutP s).2.2.length ≤ g ∧ amendF f s p = amendF g (cutP s).2.2 (putP (cutP s).1 (cutP s).2.1 p) := by
  have hl : 0 < s.length := List.length_pos_iff.2 hs
  have hc := (cutP_rest s hs).1
  cases f with
  | zero => omega
  | succ f => exact ⟨f, by omega, by rw [amendF, if_neg hs]⟩
theorem putP_le {M : Nat} {k v : List UInt8} {p : List UInt8 × List UInt8} (hv : v.length ≤ M) (hp : p.1.length ≤ M ∧ p.2.length ≤ M) : (putP k v p).1.length ≤ M ∧ (putP k v p).2.length ≤ M := by
  unfold putP
  split
  · exact ⟨hv, hp.2⟩
  · split
    · exact ⟨hp.1, hv⟩
    · exact hp
theorem amendF_le {M : Nat} : ∀ (f : Nat) (s : List UInt8) (p : List UInt8 × List UInt8), s.length ≤ M → p.1.length ≤ M ∧ p.2.length ≤ M → (amendF f s p).1.length ≤ M ∧ (amendF f s p).2.length ≤ M
  | 0, _, _, _, hp => hp
  | f + 1, s, p, hs, hp => by
    rw [amendF]
    split
    · exact hp
    · rename_i hn
      have hc := cutP_rest s hn
      exact amendF_le f _ _ (by omega) (putP_le (by omega) hp)

theorem parse_dig : ∀ (l : List UInt8) (a : Nat), (∀ c ∈ l, 48 ≤ c.toNat ∧ c.toNat ≤ 57) → l.foldl (fun a c => a * 10 + (c.toNat - 48)) a < 1000000000 → Lib.parseUint10 a l = .ok (l.foldl (fun a c => a * 10 + (c.toNat - 48)) a)
  | [], a, _, _ => rfl
  | c :: l, a, h, hv => by
    have hge : ∀ (l : List UInt8) (a : Nat), a ≤ l.foldl (fun a c => a * 10 + (c.toNat - 48)) a := by
      intro l
      induction l with
      | nil => intro a; exact Nat.le_refl _
      | cons c l ih => intro a; rw [List.foldl_cons]; exact Nat.le_trans (by omega) (ih _)
    have h1 := h c (by simp)
    rw [List.foldl_cons] at hv ⊢
    have h2 := hge l (a * 10 + (c.toNat - 48))
    rw [Lib.parseUint10, if_pos h1, if_neg (by omega), if_neg (by omega)]
    exact parse_dig l _ (fun x hx => h x (List.mem_cons_of_mem _ hx)) hv
theorem atoi_dec {n : Nat} (h0 : 0 < n) (hn : n < 1000000000) : Lib.atoiAll (decL n) = .ok (n : Int) := by
  obtain ⟨c, r, e, _⟩ := dec_first n h0
  have hd := dec_digits n
  have hc := hd c (by rw [e]; simp)
  have hp : Lib.parseMag (decL n) = .ok n := by
    unfold Lib.parseMag
    rw [if_neg (by rw [e]; simp), parse_dig _ 0 hd (by have := valD_dec n; unfold valD at this; omega)]
    have := valD_dec n
    unfold valD at this
    rw [this]
  rw [e] at hp ⊢
  rw [Lib.atoiAll_plain c r (by omega) (by omega), hp]
  unfold Lib.signless
  simp only []
  rw [if_neg (by omega)]

theorem cutP_here {k v r : List UInt8} (hk : (61 : UInt8) ∉ k) (hs : k.length + v.length < 1000000) : cutP (recL k v ++ r) = (k, v, r) := by
  obtain ⟨n, hn⟩ : ∃ n, recN k v = n := ⟨_, rfl⟩
  have hl : (recL k v).length = n := by rw [recL_len hs, hn]
  have hle := recN_le hs
  have hdl : (decL n).length < n := by
    have : (recL k v).length = (decL n).length + (restL k v).length := by unfold recL; rw [List.length_append, hn]
    rw [restL_len] at this; omega
  have h32 : (32 : UInt8) ∉ decL n := fun hm => by have h := (dec_digits n 32 hm).1; exact absurd h (by decide)
  have e1 : recL k v ++ r = decL n ++ 32 :: (k ++ 61 :: (v ++ 10 :: r)) := by unfold recL restL; rw [hn]; simp
  have ea : aheadC 32 (recL k v ++ r) = decL n := by rw [e1, ahead_here h32]
  have elen : lenR (recL k v ++ r) = some n := by
    unfold lenR
    rw [ea, atoi_dec (by omega) (by omega)]
    simp only []
    rw [if_neg (by rw [List.length_append, hl]; omega), Int.toNat_natCast]
  have et : ((recL k v ++ r).drop ((decL n).length + 1)).take (n - ((decL n).length + 1)) = k ++ 61 :: (v ++ [10]) := by
    have e2 : (recL k v ++ r) = (decL n ++ [32]) ++ ((k ++ 61 :: (v ++ [10])) ++ r) := by rw [e1]; simp
    rw [e2, List.drop_left' (by simp), List.take_left' ?_]
    have : (recL k v).length = (decL n).length + (restL k v).length := by unfold recL; rw [List.length_append, hn]
    rw [restL_len] at this
    simp only [List.length_append, List.length_cons, List.length_nil]
    omega
  unfold cutP
  rw [elen]
  simp only []
  rw [ea, et, ahead_here hk, behind_here hk, trimN_snoc, List.drop_left' hl]
theorem rec_ne (k v : List UInt8) : recL k v ≠ [] := by unfold recL restL; simp
theorem amendF_rec {f : Nat} {k v r : List UInt8} {p : List UInt8 × List UInt8} (hk : (61 : UInt8) ∉ k) (hs : k.length + v.length < 1000000) : amendF (f + 1) (recL k v ++ r) p = amendF f r (putP k v p) := by
  rw [amendF, if_neg (by simp [rec_ne]), cutP_here hk hs]
theorem oneR_or (k v : List UInt8) : (v.length ≤ 100 ∧ oneR k v = []) ∨ (100 < v.length ∧ oneR k v = recL k v) := by
  unfold oneR
  split
  · exact .inl ⟨by assumption, rfl⟩
  · exact .inr ⟨by omega, rfl⟩
theorem put_path (v : List UInt8) (p : List UInt8 × List UInt8) : putP pathK v p = (v, p.2) := by unfold putP; rw [if_pos rfl]
theorem put_link (v : List UInt8) (p : List UInt8 × List UInt8) : putP linkK v p = (p.1, v) := by unfold putP; rw [if_neg (by decide), if_pos rfl]
theorem take_all {l : List UInt8} (h : l.length ≤ 100) : l.take 100 = l := List.take_of_length_le h
/-- What an entry's records say of it is what it has. -/
theorem amendF_recs {e : EntL} (hf : Fits e) {f : Nat} (h2 : (recsE e).length ≤ f) : amendF f (recsE e) (e.name.take 100, e.link.take 100) = (e.name, e.link) := by
  have hn := hf.name
  have hl := hf.link
  have hp : (61 : UInt8) ∉ pathK := by decide
  have hq : (61 : UInt8) ∉ linkK := by decide
  have lp : pathK.length = 4 := rfl
  have lq : linkK.length = 8 := rfl
  unfold recsE at h2 ⊢
  rcases oneR_or pathK e.name with ⟨n1, e1⟩ | ⟨n1, e1⟩ <;> rcases oneR_or linkK e.link with ⟨l1, e2⟩ | ⟨l1, e2⟩ <;> rw [e1, e2] at h2 ⊢
  · rw [List.append_nil, amendF_nil, take_all n1, take_all l1]
  · rw [List.nil_append] at h2 ⊢
    obtain ⟨g, rfl⟩ : ∃ g, f = g + 1 := ⟨f - 1, by have := List.length_pos_iff.2 (rec_ne linkK e.link); omega⟩
    rw [show recL linkK e.link = recL linkK e.link ++ [] by simp, amendF_rec hq (by omega), put_link, amendF_nil, take_all n1]
  · obtain ⟨g, rfl⟩ : ∃ g, f = g + 1 := ⟨f - 1, by have := List.length_pos_iff.2 (rec_ne pathK e.name); rw [List.length_append] at h2; omega⟩
    rw [amendF_rec hp (by omega), put_path, amendF_nil, take_all l1]
  · have p1 := List.length_pos_iff.2 (rec_ne pathK e.name)
    have p2 := List.length_pos_iff.2 (rec_ne linkK e.link)
    rw [List.length_append] at h2
    obtain ⟨g, rfl⟩ : ∃ g, f = g + 2 := ⟨f - 2, by omega⟩
    rw [amendF_rec hp (by omega), put_path, show recL linkK e.link = recL linkK e.link ++ [] by simp, amendF_rec hq (by omega), put_link, amendF_nil]
end Go.Proofs.YtecjkkipglldlaaGreatDoor.Hog
