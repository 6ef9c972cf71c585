/- What walks over texts, nodes and numbers need at a seat that has no paths. -/
import Derived.Test.YticpljjbnfimkaaJ3
import Derived.Test.YticpljjbnfimkaaJ7
import Derived.WalkKit
import Derived.WalkSpells
import Derived.WalkLawsBesides
import Derived.ChangeAgain
import Derived.Lib.Strings
import Derived.Laws.OwnMore
import Derived.Deep.QuietTactic
import Derived.BigQuiet
namespace Go.Proofs.Yticpljjbnfimkaa
open Go.RowKit

/-- A world behind w0, in which nothing that was there has turned. -/
def Ok (w0 w : World) : Prop := Below w0.heap.size w0 w
theorem Ok.start (w : World) : Ok w w := Below.refl _ _
theorem Ok.step {w0 w w' : World} (h : Ok w0 w) (hb : Below w0.heap.size w w') : Ok w0 w' := h.trans hb
theorem Ok.next {w0 w w' : World} (h : Ok w0 w) (hb : Below w.heap.size w w') : Ok w0 w' := below_two h hb
theorem Ok.size {w0 w : World} (h : Ok w0 w) : w0.heap.size ≤ w.heap.size := Below.size h
theorem Ok.behind {w0 w : World} (h : Ok w0 w) : Below w0.heap.size w0 w := h
theorem below_alloc (w : World) (o : Obj) : Below w.heap.size w (w.alloc o) := (Below.refl _ _).alloc (Nat.le_refl _) _
theorem below_box (w : World) (o : Obj) : Below w.heap.size w (w.alloc o) := below_alloc w o
theorem take_mk (s : ByteArray) (n : Nat) : s.extract 0 n = Hog.mk (s.data.toList.take n) := by
  rw [Lib.extract_eq]; simp [Hog.mk]
theorem drop_mk (s : ByteArray) (n : Nat) : s.extract n s.size = Hog.mk (s.data.toList.drop n) := by
  rw [← Hog.data_mk (s.extract n s.size), Lib.extract_to_end]
theorem piece_mk (s : ByteArray) (a k : Nat) : s.extract a k = Hog.mk ((s.data.toList.drop a).take (k - a)) := Lib.extract_eq s a k
theorem app_data (x y : ByteArray) : (x ++ y).data.toList = x.data.toList ++ y.data.toList := by simp
theorem take_byte (s : ByteArray) (k : Nat) (h : k < s.size) : s.data.toList.take (k + 1) = s.data.toList.take k ++ [s[k]] := by
  rw [List.take_succ_eq_append_getElem (by rw [← Hog.size_len]; exact h)]; rfl
theorem at_byte (s : ByteArray) (k : Nat) (h : k < s.size) : s.data.toList[k]? = some s[k] := Lib.data_getElem? s k h
theorem byte_is {u : UInt8} {n : Nat} (hn : n < 256) (h : ((u.toNat : Int) == (n : Int)) = true) : u = UInt8.ofNat n := by
  have h2 : u.toNat = n := by have := beq_iff_eq.1 h; omega
  apply UInt8.toNat_inj.1
  rw [h2, UInt8.toNat_ofNat', Nat.mod_eq_of_lt hn]
theorem byte_not {u : UInt8} {n : Nat} (hn : n < 256) (h : ((u.toNat : Int) == (n : Int)) = false) : u ≠ UInt8.ofNat n := by
  intro e
  have h2 : u.toNat = n := by rw [e, UInt8.toNat_ofNat', Nat.mod_eq_of_lt hn]
  rw [beq_eq_false_iff_ne] at h
  exact h (by rw [h2])

theorem Own.form {base : Nat} {w : World} {v : Value} {xs : List ByteArray} (h : Own base w v xs) : ∃ a c, v = .slice a xs.length c := by
  obtain ⟨_, h2⟩ := h
  rcases h2 with ⟨rfl, h0⟩ | ⟨g, cap, cur, rfl, _⟩
  · exact ⟨none, 0, by rw [h0]⟩
  · exact ⟨_, _, rfl⟩
theorem A9 : (Try.prog.info? 9).map (fun i => (i.zero, i.size, i.bytes)) = some (some (.string ByteArray.empty), 1, 16) := by kernel_rfl
theorem Own.joined {base : Nat} {w : World} {v : Value} {n : Nat} {xs ys : List ByteArray} (h : w.ownsRow base 9 1 v n (xs.map Value.string ++ ys.map Value.string)) : Own base w v (xs ++ ys) := by
  have hn : n = (xs ++ ys).length := by have := h.1; simp at this; simp; omega
  subst hn
  rw [← List.map_append] at h
  exact h
theorem Own.grownBelow {base : Nat} {w w' : World} {v : Value} {xs : List ByteArray} (h : Own base w v xs) (hg : w.grownBy w' v.ownBlock) (hB : base ≤ w.heap.size) : Below base w w' :=
  (Below.refl base w).grown hg hB (fun k hk => (h.lt k hk).1)
theorem Own.one (w : World) (x : ByteArray) : Own w.heap.size (w.alloc (.cells #[.string x] 9)) (.slice (some ⟨w.heap.size, 0, none⟩) 1 1) [x] := by
  simpa using Own.made w [x] (by unfold maxLen; simp)
theorem Own.alloc {base : Nat} {w : World} {v : Value} {xs : List ByteArray} (h : Own base w v xs) (o : Obj) : Own base (w.alloc o) v xs := h.below (below_alloc w o)
theorem Txt.form {w : World} {v : Value} {xs : List ByteArray} (h : Txt w v xs) : ∃ a c, v = .slice a xs.length c := by
  rcases h with ⟨rfl, a, c, rfl⟩ | ⟨b, o, c, rfl, _⟩
  · exact ⟨a, c, rfl⟩
  · exact ⟨_, c, rfl⟩
theorem name_long {s : ByteArray} (h : 30 < s.size) : Hog.nameL s.data.toList = false := Hog.name_not fun k => by have := k.high; rw [← Hog.size_len] at this; omega
theorem name_size {s : ByteArray} (h : Hog.nameL s.data.toList = true) : 10 ≤ s.size ∧ s.size ≤ 30 := by
  have k := Hog.name_iff.1 h
  have h1 := k.low
  have h2 := k.high
  rw [← Hog.size_len] at h1 h2
  exact ⟨h1, h2⟩
theorem hash_not {s : ByteArray} (h : Hog.nameL s.data.toList = false) : Hog.mk (Hog.hashL s.data.toList) = ⟨#[]⟩ := by rw [Hog.hash_none h]; rfl
theorem hash_is {s : ByteArray} (h : Hog.nameL s.data.toList = true) : Hog.mk (Hog.hashL s.data.toList) = s.extract 0 8 := by rw [Hog.hash_name h, take_mk]
theorem grown_below {a b c : World} {row : Option Nat} (h : a.grownBy b row) (k : Below a.heap.size b c) : a.grownBy c row :=
  ⟨k.os.trans h.os, k.tape.trans h.tape, k.output.trans h.output, Nat.le_trans h.size k.size, fun i hi hr => (k.block i hi).trans (h.block i hi hr)⟩
theorem below_grown {w w' : World} {row : Option Nat} {B : Nat} (h : w.grownBy w' row) (hB : B ≤ w.heap.size) (hr : ∀ k, row = some k → B ≤ k) : Below B w w' := (Below.refl _ _).grown h hB hr
theorem At.grown {w w' : World} {b o : Nat} {n : Nd} {row : Option Nat} (h : At w b o n) (hg : w.grownBy w' row) (hr : some b ≠ row) : At w' b o n :=
  ⟨hg.cell h.path hr, hg.cell h.kind hr, hg.cell h.data hr⟩
theorem Run.grown {w w' : World} {b o : Nat} {ns : List Nd} {row : Option Nat} (h : Run w b o ns) (hg : w.grownBy w' row) (hr : some b ≠ row) : Run w' b o ns :=
  ⟨Nat.lt_of_lt_of_le h.1 hg.size, fun j n hn => (h.2 j n hn).grown hg hr⟩
theorem OwnN.grown {base : Nat} {w w' : World} {v : Value} {ns : List Nd} {row : Option Nat} (h : OwnN base w v ns) (hg : w.grownBy w' row) (hr : ∀ g, row = some g → g < base) : OwnN base w' v ns := by
  refine World.ownsRow.kept h hg ?_
  cases hv : v.ownBlock with
  | none => exact .inl rfl
  | some k =>
    refine .inr fun e => ?_
    have h1 := (h.lt k hv).1
    have h2 := hr k e.symm
    omega

theorem grown_refl (w : World) (row : Option Nat) : w.grownBy w row := ⟨rfl, rfl, rfl, Nat.le_refl _, fun _ _ _ => rfl⟩
theorem grown_trans {a b c : World} {row : Option Nat} (h : a.grownBy b row) (k : b.grownBy c row) : a.grownBy c row :=
  ⟨k.os.trans h.os, k.tape.trans h.tape, k.output.trans h.output, Nat.le_trans h.size k.size, fun i hi hr => (k.block i (Nat.lt_of_lt_of_le hi h.size) hr).trans (h.block i hi hr)⟩
theorem grown_setCell (w : World) (g j : Nat) (x : Value) : w.grownBy (w.setCell ⟨g, j, none⟩ x) (some g) :=
  ⟨rfl, rfl, rfl, by simp [World.setCell], fun k _ hne => Below.heap_setCell _ ⟨g, j, none⟩ _ k (fun e => hne (by rw [e]))⟩
theorem grown_box (w : World) (o : Obj) (row : Option Nat) : w.grownBy (w.alloc o) row := World.grownBy_alloc w o row

/-- Where an append's answer lies: where the slice lay, or in a new block. -/
def Stays (w : World) (v v' : Value) : Prop := v'.ownBlock = v.ownBlock ∨ ∃ k, v'.ownBlock = some k ∧ w.heap.size ≤ k

theorem run_append_where {P : Program} (w : World) (base : Nat) (t ty e : TypeId) (i : TypeInfo) (z : Value) (size bytes : Nat) (ht : P.underlying t = some (.slice e)) (hi : P.info? e = some i) (hz : i.zero = some z)
    (hsize : i.size = size) (hby : i.bytes = bytes) (hzs : z.cells.size = size) (hsz : 0 < size)
    (v : Value) (n : Nat) (xs : List Value) (hown : w.ownsRow base e size v n xs)
    (a : Addr) (m c : Nat) (news : List Value) (hl : news.length = m * size) (hnews : ∀ j u, news[j]? = some u → w.cell? (a.add j) = some u) (h1 : ∀ u ∈ news, u.oneCell' = true)
    (h63 : n + m ≤ maxLen) (hbytes : (n + m) * bytes ≤ 140737488355328) (hbase : base ≤ w.heap.size) :
    ∃ v' w', (Builtin.append_ #[t, t] ty #[v, .slice (some a) m c]).run P w = .ok v' w' ∧ w'.ownsRow base e size v' (n + m) (xs ++ news) ∧ w.grownBy w' v.ownBlock ∧ Stays w v v' := by
  obtain ⟨v', w', hr, h2, h3, h4⟩ := run_append_own (P := P) w base t ty e i z size bytes ht hi hz hsize hby hzs hsz v n xs hown a m c news hl hnews h1 h63 hbytes hbase
  refine ⟨v', w', hr, h2, h3, ?_⟩
  rcases hown.2 with ⟨rfl, rfl⟩ | ⟨g, cap, cur, rfl, hbg, hg, hnc, hcm, hcs, htake⟩
  · by_cases hm : m = 0
    · rw [h4.2 ⟨rfl, hm⟩]
      exact .inl rfl
    · have hx : xs = [] := List.eq_nil_of_length_eq_zero (by simpa using hown.1)
      subst hx
      obtain ⟨v'', w'', hr', k2, _, _⟩ := run_append_own (P := P) w w.heap.size t ty e i z size bytes ht hi hz hsize hby hzs hsz (.slice none 0 0) 0 [] (World.ownsRow_nil w w.heap.size e size) a m c news hl hnews h1 h63 hbytes (Nat.le_refl _)
      rw [hr] at hr'
      injection hr' with e1 e2
      subst e1
      rcases k2.2 with ⟨e3, _⟩ | ⟨g', cap', cur', e3, hb', _⟩
      · exact absurd (h4.1 e3).2 hm
      · exact .inr ⟨g', by rw [e3]; rfl, hb'⟩
  · subst hsize
    subst hby
    by_cases hroom : n + m ≤ cap
    · have hfit : n * i.size + news.length ≤ cur.size := by rw [hl, hcs, ← Nat.add_mul]; exact Nat.mul_le_mul_right _ hroom
      have hr' := run_append_room (P := P) w t ty e i ht hi g n cap cur hg a m c news hl hnews h1 hroom hfit
      rw [hr] at hr'
      injection hr' with e1 e2
      rw [e1]
      exact .inl rfl
    · have hsmall : n + m ≤ 9223372036854775807 := by simp only [maxLen] at h63; omega
      have holds : ∀ j u, xs[j]? = some u → w.cell? ((⟨g, 0, none⟩ : Addr).add j) = some u := hown.cells (g := g) rfl
      have hr' := run_append_grow (P := P) w t ty e i z ht hi hz ⟨g, 0, none⟩ n cap xs hown.1 holds a m c news hl hnews (by omega) (by omega) (growslice_fits (by omega) hbytes)
      rw [hr] at hr'
      injection hr' with e1 e2
      rw [e1]
      exact .inr ⟨w.heap.size, rfl, Nat.le_refl _⟩

/-- A world behind w in which nothing that was there has turned. -/
structure Later (w : World) where
  w1 : World
  below : Below w.heap.size w w1
theorem wp_region_later {P : Program} {id : Nat} {Q : Exit → Act → World → Prop} {a : Act} {w : World} {l : List Oper} (hm : P.follows .mixedOrders = true) (hB : Region.lexB .any l.toArray = true)
    (h : wpQuiet P l.toArray (fun w' => ∃ p : Later w, w' = p.w1) (fun a' => ∀ w', (∃ p : Later w, w' = p.w1) → Q .normal a' w') l a) : (Code.region id l.toArray true).wp P Q a w :=
  wp_region_quiet (C := fun w' => ∃ p : Later w, w' = p.w1) hm hB ⟨⟨_, (Below.refl _ w).drew⟩, rfl⟩ (by simpa using h)
theorem later_one (w : World) : Nonempty (Later w) := ⟨⟨w, Below.refl _ _⟩⟩
theorem later_below {w w' : World} (h : ∃ p : Later w, w' = p.w1) : Below w.heap.size w w' := by
  obtain ⟨p, rfl⟩ := h
  exact p.below
theorem Later.cell {w : World} (p : Later w) {a : Addr} {v : Value} (hb : a.block < w.heap.size) (h : w.cell? a = some v) : p.w1.cell? a = some v := (p.below.cell hb).trans h
theorem Calls.later_of {P : Program} {f : FuncId} {args : Array Value} {w : World} {p : Later w} {v : Value}
    (h : Calls P f args p.w1 fun e w' => e = .returned v ∧ Below p.w1.heap.size p.w1 w') : Calls P f args p.w1 fun e w'' => e = .returned v ∧ ∃ q : Later w, w'' = q.w1 :=
  h.mono fun _ w' ⟨he, hb⟩ => ⟨he, ⟨w', below_two p.below hb⟩, rfl⟩
end Go.Proofs.Yticpljjbnfimkaa
