/- Texts that stand together, joined: KA, KT. -/
import Derived.Test.YtinjbijigjfdfaaGreatDoorJ7
import Derived.Test.YtinjbijigjfdfaaGreatDoorJ13
import Derived.Test.YtinjbijigjfdfaaGreatDoorJ11
/- Which items make a closure, and why not: as plain lists. -/
namespace Go.Proofs.YtinjbijigjfdfaaGreatDoor
open Go.RowKit

/-- May this byte stand behind a prefix's stroke? -/
def signB (b : UInt8) : Bool := (decide (97 ≤ b.toNat) && decide (b.toNat ≤ 122)) || (decide (48 ≤ b.toNat) && decide (b.toNat ≤ 57))
/-- Is this a prefix? -/
def prefB (p : ByteArray) : Bool := decide (4 ≤ p.size) && decide (p.size ≤ 16) && decide (p.data.toList[0]? = some 47) && (p.data.toList.drop 1).all signB
def namesI (is : List It) : List ByteArray := is.map (·.1)
/-- The names that a tree refers to. -/
def tellI (names : List ByteArray) (ns : List Nd) : List ByteArray := toldT (hitN ns) names
/-- The first fault in names and trees, behind a hash. -/
def standV (h : List UInt8) : List It → Int
  | [] => 0
  | i :: is => if Op.bytesLess h (hashT i.1).data.toList = true then (if ownB i.2.2 = true then standV (hashT i.1).data.toList is else 7) else 6
def refersB (names : List ByteArray) (is : List It) : Bool := is.all fun i => decide (i.2.1 = tellI names i.2.2)
/-- What keeps these items from being a closure. -/
def valV (p : ByteArray) (is : List It) : Int :=
  if prefB p = true then (if is.length ≤ 8 then (if standV [] is = 0 then (if refersB (namesI is) is = true then 0 else 8) else standV [] is) else 3) else 11

theorem told_mem {act : ByteArray → Bool} {xs : List ByteArray} {x : ByteArray} : x ∈ toldT act xs ↔ x ∈ xs ∧ act (hashT x) = true := by
  unfold toldT
  rw [List.mem_map]
  constructor
  · rintro ⟨y, hy, rfl⟩
    rw [Hog.pick_mem] at hy
    unfold plainT at hy
    obtain ⟨z, hz, rfl⟩ := List.mem_map.1 hy
    rw [Hog.data_mk]
    unfold seenT at hz
    exact List.mem_filter.1 hz
  · rintro h
    refine ⟨x.data.toList, ?_, Hog.data_mk x⟩
    rw [Hog.pick_mem]
    unfold plainT
    exact List.mem_map.2 ⟨x, by unfold seenT; exact List.mem_filter.2 h, rfl⟩
theorem told_rise (act : ByteArray → Bool) (xs : List ByteArray) : Hog.rise (plainT (toldT act xs)) := by
  unfold toldT; rw [plain_mk]; exact Hog.pick_rise _
theorem plain_mem {l : List ByteArray} {x : ByteArray} : x.data.toList ∈ plainT l ↔ x ∈ l := by
  unfold plainT
  rw [List.mem_map]
  constructor
  · rintro ⟨y, hy, e⟩
    rw [← Hog.data_mk x, ← e, Hog.data_mk]; exact hy
  · intro h; exact ⟨x, h, rfl⟩
/-- Texts that rise are told by their members. -/
theorem rise_same {l m : List ByteArray} (hl : Hog.rise (plainT l)) (hm : Hog.rise (plainT m)) (h : ∀ x, x ∈ l ↔ x ∈ m) : l = m := by
  have key : plainT l = plainT m := Hog.rise_one hl hm fun x => by
    have e : x = (Hog.mk x).data.toList := (Hog.mk_data x).symm
    rw [e, plain_mem, plain_mem]; exact h _
  rw [← mk_plain l, key, mk_plain]
theorem rise_each {l : List ByteArray} (h : Hog.rise (plainT l)) : l.Nodup := by
  have := Hog.rise_nodup h
  unfold plainT at this
  exact (List.pairwise_map.1 this).imp fun {a b} k e => k (by rw [e])

/-- R is what is reached from ns, in order. -/
structure RchIs (is : List It) (ns R : List ByteArray) : Prop where
  rise : Hog.rise (plainT R)
  mem : ∀ x, x ∈ R ↔ Hog.Rch is ns x
theorem RchIs.one {is : List It} {ns R S : List ByteArray} (h : RchIs is ns R) (k : RchIs is ns S) : R = S := rise_same h.rise k.rise fun x => by rw [h.mem, k.mem]
theorem RchIs.of {is : List It} {ns L R : List ByteArray} (hL : ∀ x, x ∈ L ↔ Hog.Rch is ns x) (e : R = (Hog.pickT (plainT L)).map Hog.mk) : RchIs is ns R := by
  subst e
  refine ⟨by rw [plain_mk]; exact Hog.pick_rise _, fun x => ?_⟩
  rw [← hL, ← plain_mem, plain_mk, Hog.pick_mem, plain_mem]
theorem reach_ex (is : List It) (ns : List ByteArray) : ∃ R, RchIs is ns R := by
  classical
  refine ⟨_, RchIs.of (L := (namesI is).filter fun x => decide (Hog.Rch is ns x)) (fun x => ?_) rfl⟩
  rw [List.mem_filter, decide_eq_true_eq]
  exact ⟨fun h => h.2, fun h => ⟨h.there, h⟩⟩
theorem RchIs.few {is : List It} {ns R : List ByteArray} (h : RchIs is ns R) : R.length ≤ is.length := by
  have := Hog.nodup_le (rise_each h.rise) (m := namesI is) fun x hx => ((h.mem x).1 hx).there
  unfold namesI at this
  rwa [List.length_map] at this

theorem hash_of_name {x : ByteArray} (h : Hog.nameL x.data.toList = true) : (hashT x).data.toList = x.data.toList.take 8 := by
  unfold hashT; rw [Hog.mk_data, Hog.hash_name h]
theorem hash_nil {x : ByteArray} (h : Hog.nameL x.data.toList = false) : (hashT x).data.toList = [] := by
  unfold hashT; rw [Hog.mk_data, Hog.hash_none h]
theorem less_nil (l : List UInt8) : Op.bytesLess l [] = false := by cases l <;> rfl
theorem name_less {h : List UInt8} {x : ByteArray} (k : Op.bytesLess h (hashT x).data.toList = true) : Hog.nameL x.data.toList = true := by
  cases e : Hog.nameL x.data.toList with
  | true => rfl
  | false => rw [hash_nil e, less_nil] at k; cases k
theorem nil_less {x : ByteArray} (h : Hog.nameL x.data.toList = true) : Op.bytesLess [] (hashT x).data.toList = true := by
  have hl := (Hog.name_iff.1 h).low
  rw [hash_of_name h]
  match hx : x.data.toList with
  | [] => rw [hx] at hl; exact absurd hl (by simp)
  | a :: t => rfl
theorem less_front : ∀ (n : Nat) (x y : List UInt8), n ≤ x.length → n ≤ y.length → Op.bytesLess (x.take n) (y.take n) = true → Op.bytesLess x y = true
  | 0, x, y, _, _, h => by rw [List.take_zero, List.take_zero] at h; cases h
  | n + 1, [], y, h1, _, _ => absurd h1 (by simp)
  | n + 1, a :: x, [], _, h2, _ => absurd h2 (by simp)
  | n + 1, a :: x, b :: y, h1, h2, h => by
    rw [List.take_succ_cons, List.take_succ_cons] at h
    simp only [Op.bytesLess, Bool.or_eq_true, Bool.and_eq_true] at h ⊢
    rcases h with h | ⟨h, k⟩
    · exact .inl h
    · exact .inr ⟨h, less_front n x y (by simpa using h1) (by simpa using h2) k⟩
/-- Names rise where their hashes do. -/
theorem names_less {x y : ByteArray} (hy : Op.bytesLess (hashT x).data.toList (hashT y).data.toList = true) (hx : Hog.nameL x.data.toList = true) : Op.bytesLess x.data.toList y.data.toList = true := by
  have hn := name_less hy
  rw [hash_of_name hx, hash_of_name hn] at hy
  exact less_front 8 _ _ (by have := (Hog.name_iff.1 hx).low; omega) (by have := (Hog.name_iff.1 hn).low; omega) hy

structure Stood (h : List UInt8) (is : List It) : Prop where
  ahead : ∀ i ∈ is, Op.bytesLess h (hashT i.1).data.toList = true
  pair : is.Pairwise fun i j => Op.bytesLess (hashT i.1).data.toList (hashT j.1).data.toList = true
  own : ∀ i ∈ is, ownB i.2.2 = true
theorem stand_iff : ∀ {is : List It} {h : List UInt8}, standV h is = 0 ↔ Stood h is
  | [], h => ⟨fun _ => ⟨fun _ k => absurd k (by simp), List.Pairwise.nil, fun _ k => absurd k (by simp)⟩, fun _ => rfl⟩
  | i :: is, h => by
    unfold standV
    by_cases h1 : Op.bytesLess h (hashT i.1).data.toList = true
    · rw [if_pos h1]
      by_cases h2 : ownB i.2.2 = true
      · rw [if_pos h2, stand_iff]
        constructor
        · intro s
          refine ⟨fun j hj => ?_, List.pairwise_cons.2 ⟨s.ahead, s.pair⟩, fun j hj => ?_⟩
          · rcases List.mem_cons.1 hj with rfl | hj
            · exact h1
            · exact Hog.lt_trans h1 (s.ahead j hj)
          · rcases List.mem_cons.1 hj with rfl | hj
            · exact h2
            · exact s.own j hj
        · intro s
          exact ⟨(List.pairwise_cons.1 s.pair).1, (List.pairwise_cons.1 s.pair).2, fun j hj => s.own j (List.mem_cons_of_mem _ hj)⟩
      · rw [if_neg h2]
        exact ⟨fun k => absurd k (by decide), fun s => absurd (s.own i List.mem_cons_self) h2⟩
    · rw [if_neg h1]
      exact ⟨fun k => absurd k (by decide), fun s => absurd (s.ahead i List.mem_cons_self) h1⟩
theorem stand_way : ∀ {is : List It} {h : List UInt8}, standV h is = 0 ∨ standV h is = 6 ∨ standV h is = 7
  | [], _ => .inl rfl
  | i :: is, h => by
    unfold standV
    by_cases h1 : Op.bytesLess h (hashT i.1).data.toList = true
    · rw [if_pos h1]
      by_cases h2 : ownB i.2.2 = true
      · rw [if_pos h2]; exact stand_way
      · rw [if_neg h2]; exact .inr (.inr rfl)
    · rw [if_neg h1]; exact .inr (.inl rfl)

/-- These items make a closure. -/
structure Clos (is : List It) : Prop where
  few : is.length ≤ 8
  stood : Stood [] is
  refs : ∀ i ∈ is, i.2.1 = tellI (namesI is) i.2.2
theorem refers_iff {names : List ByteArray} {is : List It} : refersB names is = true ↔ ∀ i ∈ is, i.2.1 = tellI names i.2.2 := by
  unfold refersB
  rw [List.all_eq_true]
  exact ⟨fun h i hi => by simpa using h i hi, fun h i hi => by simpa using h i hi⟩
theorem val_iff {p : ByteArray} {is : List It} : valV p is = 0 ↔ prefB p = true ∧ Clos is := by
  unfold valV
  by_cases h1 : prefB p = true
  · rw [if_pos h1]
    by_cases h2 : is.length ≤ 8
    · rw [if_pos h2]
      by_cases h3 : standV [] is = 0
      · rw [if_pos h3]
        by_cases h4 : refersB (namesI is) is = true
        · rw [if_pos h4]; exact ⟨fun _ => ⟨h1, h2, stand_iff.1 h3, refers_iff.1 h4⟩, fun _ => rfl⟩
        · rw [if_neg h4]; exact ⟨fun k => absurd k (by decide), fun k => absurd (refers_iff.2 k.2.refs) h4⟩
      · rw [if_neg h3]; exact ⟨fun k => absurd k h3, fun k => absurd (stand_iff.2 k.2.stood) h3⟩
    · rw [if_neg h2]; exact ⟨fun k => absurd k (by decide), fun k => absurd k.2.few h2⟩
  · rw [if_neg h1]; exact ⟨fun k => absurd k (by decide), fun k => absurd k.1 h1⟩
theorem val_pref {p : ByteArray} {is : List It} : valV p is = 11 ↔ prefB p = false := by
  unfold valV
  by_cases h1 : prefB p = true
  · rw [if_pos h1, h1]
    refine ⟨fun k => ?_, fun k => absurd k (by decide)⟩
    exfalso
    by_cases h2 : is.length ≤ 8
    · rw [if_pos h2] at k
      by_cases h3 : standV [] is = 0
      · rw [if_pos h3] at k
        by_cases h4 : refersB (namesI is) is = true
        · rw [if_pos h4] at k; cases k
        · rw [if_neg h4] at k; cases k
      · rw [if_neg h3] at k
        rcases stand_way (is := is) (h := []) with e | e | e <;> rw [e] at k <;> cases k
    · rw [if_neg h2] at k; cases k
  · rw [if_neg h1]; exact ⟨fun _ => Bool.eq_false_iff.2 h1, fun _ => rfl⟩
theorem val_refs {p : ByteArray} {is : List It} (h1 : prefB p = true) (h2 : is.length ≤ 8) (h3 : Stood [] is) (h4 : ¬ ∀ i ∈ is, i.2.1 = tellI (namesI is) i.2.2) : valV p is = 8 := by
  unfold valV
  rw [if_pos h1, if_pos h2, if_pos (stand_iff.2 h3), if_neg fun k => h4 (refers_iff.1 k)]

theorem Stood.names {is : List It} (h : Stood [] is) : Hog.rise (plainT (namesI is)) := by
  unfold namesI plainT
  rw [List.map_map]
  refine List.pairwise_map.2 ?_
  have := h.pair
  have hn : ∀ i ∈ is, Hog.nameL i.1.data.toList = true := fun i hi => name_less (h.ahead i hi)
  exact this.imp_of_mem fun {a b} ha hb k => names_less k (hn a ha)
theorem Stood.name {is : List It} {h : List UInt8} (s : Stood h is) {i : It} (hi : i ∈ is) : Hog.nameL i.1.data.toList = true := name_less (s.ahead i hi)
theorem Stood.less {is : List It} {h : List UInt8} (s : Stood h is) {j k : Nat} {x y : It} (hj : is[j]? = some x) (hk : is[k]? = some y) (hl : j < k) : Op.bytesLess (hashT x.1).data.toList (hashT y.1).data.toList = true := by
  obtain ⟨a, rfl⟩ := List.getElem?_eq_some_iff.1 hj
  obtain ⟨b, rfl⟩ := List.getElem?_eq_some_iff.1 hk
  exact List.pairwise_iff_getElem.1 s.pair j k a b hl
theorem Stood.sub {is js : List It} {h : List UInt8} (s : Stood h is) (k : js.Sublist is) : Stood h js :=
  ⟨fun i hi => s.ahead i (k.subset hi), s.pair.sublist k, fun i hi => s.own i (k.subset hi)⟩
theorem Clos.each {is : List It} (h : Clos is) : (namesI is).Nodup := rise_each h.stood.names
theorem tell_mem {names : List ByteArray} {ns : List Nd} {x : ByteArray} : x ∈ tellI names ns ↔ x ∈ names ∧ hitN ns (hashT x) = true := told_mem
theorem Clos.there {is : List It} (h : Clos is) {i : It} (hi : i ∈ is) {x : ByteArray} (hx : x ∈ i.2.1) : x ∈ namesI is := by
  rw [h.refs i hi] at hx; exact (tell_mem.1 hx).1
/-- Some items of a closure, all that they refer to among them, are one. -/
theorem Clos.sub {is js : List It} (h : Clos is) (k : js.Sublist is) (hr : ∀ i ∈ js, ∀ x ∈ i.2.1, x ∈ namesI js) : Clos js := by
  refine ⟨Nat.le_trans k.length_le h.few, h.stood.sub k, fun i hi => ?_⟩
  have e := h.refs i (k.subset hi)
  refine rise_same (by rw [e]; exact told_rise _ _) (told_rise _ _) fun x => ?_
  constructor
  · intro hx
    have hx' := hx
    rw [e] at hx'
    exact tell_mem.2 ⟨hr i hi x hx, (tell_mem.1 hx').2⟩
  · intro hx
    rw [e]
    exact tell_mem.2 ⟨by unfold namesI; exact (k.map _).subset (tell_mem.1 hx).1, (tell_mem.1 hx).2⟩
theorem Clos.may {is : List It} (h : Clos is) {i : It} (hi : i ∈ is) : mayI i = true := by
  have hr := h.refs i hi
  have hn : ∀ x ∈ i.2.1, Hog.nameL x.data.toList = true := fun x hx => by
    obtain ⟨j, hj, e⟩ := List.mem_map.1 (h.there hi hx)
    rw [← e]; exact h.stood.name hj
  have hrise : Hog.rise (plainT i.2.1) := by rw [hr]; exact told_rise _ _
  have hlen : i.2.1.length ≤ 8 := by
    have := Hog.nodup_le (rise_each hrise) (m := namesI is) fun x hx => h.there hi hx
    unfold namesI at this
    rw [List.length_map] at this
    exact Nat.le_trans this h.few
  unfold mayI
  rw [h.stood.name hi, h.stood.own i hi, refs_full hlen (List.all_eq_true.2 fun k hk => ?_)]; rfl
  have hk := List.mem_range.1 hk
  have hx : i.2.1[k]? = some i.2.1[k] := List.getElem?_eq_getElem hk
  match k, hk, hx with
  | 0, hk, hx => exact refAt_zero hx (hn _ (List.mem_of_getElem? hx))
  | j + 1, hk, hx =>
    have hy : i.2.1[j]? = some i.2.1[j] := List.getElem?_eq_getElem (by omega)
    rw [refAt_next hx hy (hn _ (List.mem_of_getElem? hx))]
    unfold Hog.rise plainT at hrise
    exact List.pairwise_iff_getElem.1 (List.pairwise_map.1 hrise) j (j + 1) (by omega) hk (by omega)
end Go.Proofs.YtinjbijigjfdfaaGreatDoor
/- Closures that are turned: other references, an item less, what is reached: as plain lists. -/
namespace Go.Proofs.YtinjbijigjfdfaaGreatDoor
open Go.RowKit

/-- Is a text in a list? -/
def hasB (l : List ByteArray) (x : ByteArray) : Bool := l.any fun y => decide (y = x)
theorem has_iff {l : List ByteArray} {x : ByteArray} : hasB l x = true ↔ x ∈ l := by
  unfold hasB
  rw [List.any_eq_true]
  constructor
  · rintro ⟨y, hy, e⟩
    rw [← of_decide_eq_true e]; exact hy
  · intro h; exact ⟨x, h, decide_eq_true rfl⟩
theorem has_not {l : List ByteArray} {x : ByteArray} : hasB l x = false ↔ ¬ x ∈ l := by rw [← has_iff, Bool.not_eq_true]
theorem names_set {is : List It} {k : Nat} {i : It} (hk : is[k]? = some i) (rs : List ByteArray) : namesI (is.set k (i.1, rs, i.2.2)) = namesI is := by
  unfold namesI
  refine List.ext_getElem? fun j => ?_
  rw [List.getElem?_map, List.getElem?_map, List.getElem?_set]
  by_cases e : k = j
  · subst e
    rw [if_pos rfl, if_pos (List.getElem?_eq_some_iff.1 hk).1, hk]; rfl
  · rw [if_neg e]
theorem stood_set {is : List It} {h : List UInt8} {k : Nat} {i : It} (s : Stood h is) (hk : is[k]? = some i) (rs : List ByteArray) : Stood h (is.set k (i.1, rs, i.2.2)) := by
  have hi := List.mem_of_getElem? hk
  obtain ⟨hl, e⟩ := List.getElem?_eq_some_iff.1 hk
  refine ⟨fun j hj => ?_, ?_, fun j hj => ?_⟩
  · rcases List.mem_or_eq_of_mem_set hj with hj | rfl
    · exact s.ahead j hj
    · exact s.ahead i hi
  · have hp := List.pairwise_iff_getElem.1 s.pair
    refine List.pairwise_iff_getElem.2 fun a b ha hb hab => ?_
    rw [List.length_set] at ha hb
    have key : ∀ a (ha : a < is.length), ((is.set k (i.1, rs, i.2.2))[a]'(by rw [List.length_set]; exact ha)).1 = is[a].1 := by
      intro a ha
      rw [List.getElem_set]
      by_cases e2 : k = a
      · subst e2; simp only [if_true]; rw [e]
      · rw [if_neg e2]
    rw [key a ha, key b hb]
    exact hp a b ha hb hab
  · rcases List.mem_or_eq_of_mem_set hj with hj | rfl
    · exact s.own j hj
    · exact s.own i hi
theorem val_more {p : ByteArray} {is : List It} {k : Nat} {i : It} (hp : prefB p = true) (h : Clos is) (hk : is[k]? = some i) {rs : List ByteArray} (hr : rs ≠ i.2.1) : valV p (is.set k (i.1, rs, i.2.2)) = 8 := by
  refine val_refs hp (by rw [List.length_set]; exact h.few) (stood_set h.stood hk rs) fun ha => hr ?_
  have hl := (List.getElem?_eq_some_iff.1 hk).1
  have := ha _ (List.mem_of_getElem? (show (is.set k (i.1, rs, i.2.2))[k]? = some (i.1, rs, i.2.2) by rw [List.getElem?_set, if_pos rfl, if_pos hl]))
  rw [names_set hk] at this
  exact this.trans (h.refs i (List.mem_of_getElem? hk)).symm

def lessI (is : List It) (k : Nat) : List It := is.take k ++ is.drop (k + 1)
theorem less_sub (is : List It) (k : Nat) : (lessI is k).Sublist is := by
  unfold lessI
  conv => rhs; rw [← List.take_append_drop k is]
  refine List.Sublist.append (List.Sublist.refl _) ?_
  rw [← List.drop_drop]
  exact List.drop_sublist _ _
theorem names_less_mem {is : List It} {k : Nat} {i : It} (hk : is[k]? = some i) {x : ByteArray} (hx : x ∈ namesI is) (hne : x ≠ i.1) : x ∈ namesI (lessI is k) := by
  obtain ⟨j, hj, rfl⟩ := List.mem_map.1 hx
  obtain ⟨hl, rfl⟩ := List.getElem?_eq_some_iff.1 hk
  rw [← List.take_append_drop k is, List.drop_eq_getElem_cons hl] at hj
  unfold namesI lessI
  rw [List.map_append]
  rcases List.mem_append.1 hj with hj | hj
  · exact List.mem_append_left _ (List.mem_map_of_mem hj)
  · rcases List.mem_cons.1 hj with e | hj
    · exact absurd (by rw [e]) hne
    · exact List.mem_append_right _ (List.mem_map_of_mem hj)
theorem names_less_not {is : List It} {k : Nat} {i : It} (hk : is[k]? = some i) (hn : (namesI is).Nodup) : i.1 ∉ namesI (lessI is k) := by
  obtain ⟨hl, rfl⟩ := List.getElem?_eq_some_iff.1 hk
  have e : namesI is = namesI (is.take k) ++ (is[k].1 :: namesI (is.drop (k + 1))) := by
    conv => lhs; rw [← List.take_append_drop k is, List.drop_eq_getElem_cons hl]
    unfold namesI; rw [List.map_append, List.map_cons]
  rw [e] at hn
  obtain ⟨h1, h2, h3⟩ := List.nodup_append.1 hn
  intro hm
  unfold lessI namesI at hm
  rw [List.map_append] at hm
  rcases List.mem_append.1 hm with hm | hm
  · exact h3 _ hm _ List.mem_cons_self rfl
  · exact (List.nodup_cons.1 h2).1 hm
/-- Does one of these items refer to that name? -/
def wantB (is : List It) (x : ByteArray) : Bool := is.any fun j => hasB j.2.1 x
theorem val_less {p : ByteArray} {is : List It} {k : Nat} {i : It} (hp : prefB p = true) (h : Clos is) (hk : is[k]? = some i) : valV p (lessI is k) = if wantB (lessI is k) i.1 = true then 8 else 0 := by
  by_cases hw : wantB (lessI is k) i.1 = true
  · rw [if_pos hw]
    obtain ⟨j, hj, hx⟩ := List.any_eq_true.1 hw
    have hx := has_iff.1 hx
    refine val_refs hp (Nat.le_trans (less_sub is k).length_le h.few) (h.stood.sub (less_sub is k)) fun ha => ?_
    rw [ha j hj] at hx
    exact names_less_not hk h.each (tell_mem.1 hx).1
  · rw [if_neg hw]
    refine val_iff.2 ⟨hp, h.sub (less_sub is k) fun j hj x hx => ?_⟩
    refine names_less_mem hk (h.there ((less_sub is k).subset hj) hx) fun e => hw ?_
    exact List.any_eq_true.2 ⟨j, hj, has_iff.2 (e ▸ hx)⟩

/-- What is reached from all names is all. -/
theorem reach_all {is : List It} (h : Clos is) : RchIs is (namesI is) (namesI is) :=
  ⟨h.stood.names, fun _ => ⟨fun hx => .start hx hx, fun hx => hx.there⟩⟩
/-- From there on nothing more is reached. -/
theorem RchIs.again {is : List It} {ns R : List ByteArray} (h : RchIs is ns R) : RchIs is R R :=
  ⟨h.rise, fun x => ⟨fun hx => .start hx ((h.mem x).1 hx).there, fun hx => (h.mem x).2 (hx.again fun y hy _ => (h.mem y).1 hy)⟩⟩
/-- The items whose names are in a list. -/
def someI (R : List ByteArray) (is : List It) : List It := is.filter fun i => hasB R i.1
theorem some_names {is : List It} {ns R : List ByteArray} (h : Clos is) (hR : RchIs is ns R) : namesI (someI R is) = R := by
  refine rise_same ?_ hR.rise fun x => ?_
  · have := h.stood.names
    unfold namesI someI plainT at *
    exact this.sublist ((List.filter_sublist.map _).map _)
  · unfold namesI someI
    rw [List.mem_map]
    constructor
    · rintro ⟨i, hi, rfl⟩
      exact has_iff.1 (List.mem_filter.1 hi).2
    · intro hx
      obtain ⟨i, hi, e⟩ := List.mem_map.1 ((hR.mem x).1 hx).there
      exact ⟨i, List.mem_filter.2 ⟨hi, has_iff.2 (by rw [e]; exact hx)⟩, e⟩
theorem get_at {is : List It} (hn : (namesI is).Nodup) {i : It} (hi : i ∈ is) : Hog.getK is i.1 = some i := by
  cases hg : Hog.getK is i.1 with
  | none => exact absurd (List.mem_map_of_mem (f := (·.1)) hi) (Hog.getK_none.1 hg)
  | some j =>
    obtain ⟨hj, e⟩ := Hog.getK_some hg
    obtain ⟨a, ha⟩ := List.getElem?_of_mem hi
    obtain ⟨b, hb⟩ := List.getElem?_of_mem hj
    have ea : (namesI is)[a]? = some i.1 := by unfold namesI; rw [List.getElem?_map, ha]; rfl
    have eb : (namesI is)[b]? = some i.1 := by unfold namesI; rw [List.getElem?_map, hb, ← e]; rfl
    obtain ⟨la, _⟩ := List.getElem?_eq_some_iff.1 ea
    have : a = b := (List.getElem?_inj la hn).1 (ea.trans eb.symm)
    subst this
    rw [ha] at hb; exact hb.symm
theorem some_clos {is : List It} {ns R : List ByteArray} (h : Clos is) (hR : RchIs is ns R) : Clos (someI R is) := by
  refine h.sub List.filter_sublist fun i hi x hx => ?_
  rw [some_names h hR]
  have hi' := List.mem_filter.1 hi
  refine (hR.mem x).2 (.step ((hR.mem _).1 (has_iff.1 hi'.2)) (get_at h.each hi'.1) hx (h.there hi'.1 hx))
theorem some_reach {is : List It} {ns R : List ByteArray} (h : Clos is) (hR : RchIs is ns R) : RchIs (someI R is) R R := by
  have := reach_all (some_clos h hR)
  rw [some_names h hR] at this
  exact this
theorem val_other {p : ByteArray} {is : List It} (h : Clos is) : valV p is = if prefB p = true then 0 else 11 := by
  by_cases hp : prefB p = true
  · rw [if_pos hp]; exact val_iff.2 ⟨hp, h⟩
  · rw [if_neg hp]; exact val_pref.2 (Bool.eq_false_iff.2 hp)
end Go.Proofs.YtinjbijigjfdfaaGreatDoor
