/- Records as the document's own reader takes them apart, plainly. Nothing here names the program. -/
import Derived.Test.YtecjkkipglldlaaGreatDoorJ21
namespace Go.Proofs.YtecjkkipglldlaaGreatDoor.Hog
open Go

/-- l is these records, one behind the other. -/
def RecsIs (rs : List (List UInt8 × List UInt8)) (l : List UInt8) : Prop := (∀ r ∈ rs, (r.1 = pathK ∨ r.1 = linkK) ∧ r.2.length ≤ 500) ∧ l = rs.flatMap fun r => recL r.1 r.2
def putsP (rs : List (List UInt8 × List UInt8)) (p : List UInt8 × List UInt8) : List UInt8 × List UInt8 := rs.foldl (fun p r => putP r.1 r.2 p) p
def path5 : List UInt8 := [112, 97, 116, 104, 61]
def link9 : List UInt8 := [108, 105, 110, 107, 112, 97, 116, 104, 61]
/-- What a record's middle says, as the document's reader asks it. -/
def putR (r : List UInt8) (p : List UInt8 × List UInt8) : List UInt8 × List UInt8 := (if 5 ≤ r.length ∧ r.take 5 = path5 then r.drop 5 else p.1, if 9 ≤ r.length ∧ r.take 9 = link9 then r.drop 9 else p.2)
theorem putR_is {k v : List UInt8} (hk : k = pathK ∨ k = linkK) (p : List UInt8 × List UInt8) : putR (k ++ 61 :: v) p = putP k v p := by
  rcases hk with rfl | rfl
  · have e : pathK ++ 61 :: v = 112 :: 97 :: 116 :: 104 :: 61 :: v := rfl
    rw [e, put_path]
    unfold putR
    have h1 : 5 ≤ (112 :: 97 :: 116 :: 104 :: 61 :: v : List UInt8).length ∧ (112 :: 97 :: 116 :: 104 :: 61 :: v : List UInt8).take 5 = path5 := ⟨by simp, rfl⟩
    have h2 : ¬ (9 ≤ (112 :: 97 :: 116 :: 104 :: 61 :: v : List UInt8).length ∧ (112 :: 97 :: 116 :: 104 :: 61 :: v : List UInt8).take 9 = link9) := by
      rintro ⟨_, h⟩
      unfold link9 at h
      rw [List.take_succ_cons] at h
      exact absurd (List.cons.inj h).1 (by decide)
    rw [if_pos h1, if_neg h2]
    rfl
  · have e : linkK ++ 61 :: v = 108 :: 105 :: 110 :: 107 :: 112 :: 97 :: 116 :: 104 :: 61 :: v := rfl
    rw [e, put_link]
    unfold putR
    have h1 : 9 ≤ (108 :: 105 :: 110 :: 107 :: 112 :: 97 :: 116 :: 104 :: 61 :: v : List UInt8).length ∧ (108 :: 105 :: 110 :: 107 :: 112 :: 97 :: 116 :: 104 :: 61 :: v : List UInt8).take 9 = link9 := ⟨by simp, rfl⟩
    have h2 : ¬ (5 ≤ (108 :: 105 :: 110 :: 107 :: 112 :: 97 :: 116 :: 104 :: 61 :: v : List UInt8).length ∧ (108 :: 105 :: 110 :: 107 :: 112 :: 97 :: 116 :: 104 :: 61 :: v : List UInt8).take 5 = path5) := by
      rintro ⟨_, h⟩
      unfold path5 at h
      rw [List.take_succ_cons] at h
      exact absurd (List.cons.inj h).1 (by decide)
    rw [if_neg h2, if_pos h1]
    rfl
theorem putR_le {r : List UInt8} {p : List UInt8 × List UInt8} {M : Nat} (hr : r.length ≤ M) (hp : p.1.length ≤ M ∧ p.2.length ≤ M) : (putR r p).1.length ≤ M ∧ (putR r p).2.length ≤ M := by
  unfold putR
  constructor
  · show (if _ then _ else _ : List UInt8).length ≤ M
    split
    · rw [List.length_drop]; omega
    · exact hp.1
  · show (if _ then _ else _ : List UInt8).length ≤ M
    split
    · rw [List.length_drop]; omega
    · exact hp.2
theorem recs_none {rs : List (List UInt8 × List UInt8)} {l : List UInt8} (h : RecsIs rs l) (hl : l = []) : rs = [] := by
  cases rs with
  | nil => rfl
  | cons r rs =>
    have h2 := h.2
    rw [hl, List.flatMap_cons] at h2
    have := (List.append_eq_nil_iff.1 h2.symm).1
    exact absurd this (rec_ne _ _)
/-- Where the digits end. -/
def DigEnd (l : List UInt8) (j : Nat) : Prop := (∀ c ∈ l.take j, 48 ≤ c.toNat ∧ c.toNat ≤ 57) ∧ j ≤ 6 ∧ j ≤ l.length ∧ (j = l.length ∨ j = 6 ∨ ∃ c, l[j]? = some c ∧ ¬ (48 ≤ c.toNat ∧ c.toNat ≤ 57))
/-- A record, taken apart: how many digits, their number, the middle, the rest. -/
theorem rec_apart {k v R l : List UInt8} {j : Nat} (hk : k = pathK ∨ k = linkK) (hv : v.length ≤ 500) (hl : l = recL k v ++ R) (hj : DigEnd l j) :
    j + 1 < valD (l.take j) ∧ valD (l.take j) ≤ l.length ∧ (l.drop (j + 1)).take (valD (l.take j) - 1 - (j + 1)) = k ++ 61 :: v ∧ l.drop (valD (l.take j)) = R := by
  obtain ⟨n, hn⟩ : ∃ n, recN k v = n := ⟨_, rfl⟩
  have hkl : k.length ≤ 8 := by rcases hk with rfl | rfl <;> decide
  have hs : k.length + v.length < 1000000 := by omega
  have hlen : (recL k v).length = n := by rw [recL_len hs, hn]
  have hsum : (recL k v).length = (decL n).length + (restL k v).length := by unfold recL; rw [List.length_append, hn]
  have hrest := restL_len k v
  have hD : (decL n).length ≤ 3 := by
    rw [decL_len, ← hn]
    unfold recN
    rw [(digR_is (r := (restL k v).length) (by omega)).right]
    exact digR_small (by omega)
  have e1 : l = decL n ++ 32 :: (k ++ 61 :: (v ++ 10 :: R)) := by rw [hl]; unfold recL restL; rw [hn]; simp
  obtain ⟨d, hd⟩ : ∃ d, decL n = d := ⟨_, rfl⟩
  have hdig : ∀ c ∈ d, 48 ≤ c.toNat ∧ c.toNat ≤ 57 := by rw [← hd]; exact dec_digits n
  have hval : valD d = n := by rw [← hd]; exact valD_dec n
  rw [hd] at e1 hsum hD
  obtain ⟨h1, h2, h3, h4⟩ := hj
  have hat : l[d.length]? = some 32 := by rw [e1, List.getElem?_append_right (Nat.le_refl _), Nat.sub_self]; rfl
  have hll : d.length < l.length := (List.getElem?_eq_some_iff.1 hat).1
  have hjd : j = d.length := by
    rcases Nat.lt_trichotomy j d.length with h | h | h
    · exfalso
      rcases h4 with h4 | h4 | ⟨c, hc, hno⟩
      · omega
      · omega
      · apply hno
        rw [e1, List.getElem?_append_left h] at hc
        exact hdig c (List.mem_of_getElem? hc)
    · exact h
    · exfalso
      have hm : (32 : UInt8) ∈ l.take j := by
        apply List.mem_of_getElem? (i := d.length)
        rw [List.getElem?_take_of_lt h, hat]
      exact absurd (h1 32 hm).1 (by decide)
  subst hjd
  have htk : l.take d.length = d := by rw [e1, List.take_left' rfl]
  rw [htk, hval]
  refine ⟨by omega, ?_, ?_, ?_⟩
  · rw [hl, List.length_append, hlen]; omega
  · have e2 : l = (d ++ [32]) ++ ((k ++ 61 :: v) ++ (10 :: R)) := by rw [e1]; simp
    rw [e2, List.drop_left' (by simp), List.take_left' ?_]
    simp only [List.length_append, List.length_cons]
    omega
  · rw [hl, List.drop_left' hlen]
/-- What a header's entry's records say to the document's reader. -/
theorem recs_of {e : EntL} (hf : Fits e) : ∃ rs, RecsIs rs (recsE e) ∧ putsP rs ([], []) = (if e.name.length ≤ 100 then [] else e.name, if e.link.length ≤ 100 then [] else e.link) := by
  have hn := hf.name
  have hl := hf.link
  unfold recsE
  rcases oneR_or pathK e.name with ⟨n1, e1⟩ | ⟨n1, e1⟩ <;> rcases oneR_or linkK e.link with ⟨l1, e2⟩ | ⟨l1, e2⟩ <;> rw [e1, e2]
  · exact ⟨[], ⟨fun r hr => (by cases hr), rfl⟩, by rw [if_pos n1, if_pos l1]; rfl⟩
  · refine ⟨[(linkK, e.link)], ⟨fun r hr => ?_, by simp⟩, ?_⟩
    · rw [List.mem_singleton.1 hr]; exact ⟨.inr rfl, hl⟩
    · rw [if_pos n1, if_neg (by omega)]
      show putP linkK e.link ([], []) = _
      rw [put_link]
  · refine ⟨[(pathK, e.name)], ⟨fun r hr => ?_, by simp⟩, ?_⟩
    · rw [List.mem_singleton.1 hr]; exact ⟨.inl rfl, by show e.name.length ≤ 500; omega⟩
    · rw [if_neg (by omega), if_pos l1]
      show putP pathK e.name ([], []) = _
      rw [put_path]
  · refine ⟨[(pathK, e.name), (linkK, e.link)], ⟨fun r hr => ?_, by simp⟩, ?_⟩
    · rcases List.mem_cons.1 hr with rfl | hr
      · exact ⟨.inl rfl, by show e.name.length ≤ 500; omega⟩
      · rw [List.mem_singleton.1 hr]; exact ⟨.inr rfl, hl⟩
    · rw [if_neg (by omega), if_neg (by omega)]
      show putP linkK e.link (putP pathK e.name ([], [])) = _
      rw [put_path, put_link]
end Go.Proofs.YtecjkkipglldlaaGreatDoor.Hog
