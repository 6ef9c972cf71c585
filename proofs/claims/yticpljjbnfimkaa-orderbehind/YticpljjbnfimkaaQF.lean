/- The walk of order's indexed. -/
import Derived.Test.YticpljjbnfimkaaKZ
import Derived.Test.YticpljjbnfimkaaJ15
import Derived.WideLaws
namespace Go.Proofs.Yticpljjbnfimkaa
open Go.RowKit

/-- Each of these once. -/
theorem each_once {A : Type} : ∀ l : List A, ∃ d : List A, d.Nodup ∧ (∀ x, x ∈ d ↔ x ∈ l) ∧ d.length ≤ l.length ∧ (d.length = l.length ↔ l.Nodup)
  | [] => ⟨[], by simp, by simp, by simp, by simp⟩
  | a :: r => by
    classical
    obtain ⟨d, h1, h2, h3, h4⟩ := each_once r
    by_cases h : a ∈ r
    · refine ⟨d, h1, fun x => ?_, by rw [List.length_cons]; omega, ?_⟩
      · rw [h2, List.mem_cons]
        constructor
        · exact .inr
        · rintro (rfl | k)
          · exact h
          · exact k
      · rw [List.length_cons, List.nodup_cons]
        constructor
        · intro e; omega
        · intro e; exact absurd h e.1
    · refine ⟨a :: d, List.nodup_cons.2 ⟨fun k => h ((h2 a).1 k), h1⟩, fun x => by rw [List.mem_cons, List.mem_cons, h2], by rw [List.length_cons, List.length_cons]; omega, ?_⟩
      rw [List.length_cons, List.length_cons, List.nodup_cons]
      constructor
      · intro e; exact ⟨h, h4.1 (by omega)⟩
      · rintro ⟨_, k⟩; have := h4.2 k; omega
/-- How many entries a map has. -/
theorem MapF.count {w : World} {m : Nat} {f : ByteArray → Option Int} (h : MapF w m f) {d : List ByteArray} (hd : d.Nodup) (hm : ∀ x, x ∈ d ↔ (f x).isSome = true) : ∃ es clock, w.heap[m]? = some (.map es clock) ∧ es.size = d.length := by
  obtain ⟨es, clock, hb, h1, h2, h3⟩ := h.ex
  refine ⟨es, clock, hb, ?_⟩
  classical
  have hks : (es.toList.map (·.key)).Nodup := by
    refine List.pairwise_iff_getElem.2 fun a b ha hb' hab e => ?_
    rw [List.length_map] at ha hb'
    rw [List.getElem_map, List.getElem_map] at e
    have := h3 a b _ _ (List.getElem?_eq_getElem ha) (List.getElem?_eq_getElem hb') e
    omega
  have hds : (d.map Value.string).Nodup := List.Pairwise.map _ (fun a b hne e => hne (by cases e; rfl)) hd
  have e1 : es.toList.length ≤ d.length := by
    have := Hog.nodup_le hks (m := d.map Value.string) fun v hv => by
      obtain ⟨e, he, rfl⟩ := List.mem_map.1 hv
      obtain ⟨i, hi⟩ := List.getElem?_of_mem he
      obtain ⟨k, z, hk, _, hf⟩ := h1 i e hi
      rw [hk]
      exact List.mem_map.2 ⟨k, (hm k).2 (by rw [hf]; rfl), rfl⟩
    rwa [List.length_map, List.length_map] at this
  have e2 : d.length ≤ es.toList.length := by
    have := Hog.nodup_le hds (m := es.toList.map (·.key)) fun v hv => by
      obtain ⟨k, hk, rfl⟩ := List.mem_map.1 hv
      obtain ⟨z, hz⟩ := Option.isSome_iff_exists.1 ((hm k).1 hk)
      obtain ⟨i, e, hi, he⟩ := h2 k z hz
      exact List.mem_map.2 ⟨e, List.mem_of_getElem? hi, he⟩
    rwa [List.length_map, List.length_map] at this
  rw [← Array.length_toList]
  omega
theorem run_len_mapG {w : World} {m : Nat} {es : Array MapEntry} {clock : Nat} (h : w.heap[m]? = some (.map es clock)) (q : Nat) (hq : es.size = q) (ty : TypeId) : (Builtin.len_ #[51] ty #[.map (some m)]).run Try.prog w = .ok (.int .i64 q) w := by
  subst hq
  exact run_len_map w 51 ty m es clock (by kernel_rfl) h
/-- The place behind the last one of a name. -/
def putN' (f : ByteArray → Option Nat) (x : ByteArray) (k : Nat) : ByteArray → Option Nat := fun q => if q = x then some k else f q
theorem intM_put (f : ByteArray → Option Nat) (x : ByteArray) (k : Nat) : putF (intM f) x (k : Int) = intM (putN' f x k) := by
  funext q
  unfold putF intM putN'
  by_cases e : q = x
  · rw [if_pos e, if_pos e]; rfl
  · rw [if_neg e, if_neg e]
/-- f has the places of the first k names, the last one of each. -/
structure Upto (xs : List ByteArray) (k : Nat) (f : ByteArray → Option Nat) : Prop where
  of : ∀ x z, f x = some z → z < k ∧ xs[z]? = some x
  at' : ∀ (j : Nat) x, j < k → xs[j]? = some x → (f x).isSome = true
theorem Upto.zero (xs : List ByteArray) : Upto xs 0 (fun _ => none) := ⟨fun _ _ h => (by cases h), fun _ _ h => absurd h (by omega)⟩
theorem Upto.next {xs : List ByteArray} {k : Nat} {f : ByteArray → Option Nat} (h : Upto xs k f) {x : ByteArray} (hx : xs[k]? = some x) : Upto xs (k + 1) (putN' f x k) := by
  refine ⟨fun y z hz => ?_, fun j y hj hy => ?_⟩
  · unfold putN' at hz
    by_cases e : y = x
    · rw [if_pos e] at hz
      cases hz
      rw [e]
      exact ⟨by omega, hx⟩
    · rw [if_neg e] at hz
      obtain ⟨h1, h2⟩ := h.of y z hz
      exact ⟨by omega, h2⟩
  · unfold putN'
    by_cases e : y = x
    · rw [if_pos e]; rfl
    · rw [if_neg e]
      refine h.at' j y (Nat.lt_of_le_of_ne (by omega) fun e2 => e ?_) hy
      rw [e2, hx] at hy
      exact (Option.some.inj hy).symm
set_option maxRecDepth 100000 in
set_option maxHeartbeats 2000000 in
theorem indexed_any (v : Value) (n : Nat) (xs : List ByteArray) (w : World) (hn : n = xs.length) (h9 : n < 900000) (hf : ∃ ao c, v = .slice ao n c) (hx : ∀ (j : Nat) y, xs[j]? = some y → ∃ b o c, v = .slice (some ⟨b, o, none⟩) n c ∧ w.cell? ⟨b, o + j, none⟩ = some (.string y)) :
    Calls Try.prog 26 #[v] w fun e w' => ∃ m f r, e = .returned (.tuple #[.map (some m), .bool r]) ∧ (r = true ↔ xs.Nodup) ∧ Upto xs n f ∧ w.heap.size ≤ m ∧ MapF w' m (intM f) ∧ Below w.heap.size w w' := by
  obtain ⟨ao, c, rfl⟩ := hf
  obtain ⟨d, hd1, hd2, hd3, hd4⟩ := each_once xs
  have HN := hide hn
  have HX : Hid (∀ (j : Nat) y, xs[j]? = some y → ∃ b o, ao = some ⟨b, o, none⟩ ∧ w.cell? ⟨b, o + j, none⟩ = some (.string y)) := hide fun j y hj => by
    obtain ⟨b, o, c', e, hc⟩ := hx j y hj
    simp only [Value.slice.injEq, true_and] at e
    exact ⟨b, o, e.1, hc⟩
  have HD1 := hide hd1
  have HD2 := hide hd2
  have HD4 := hide hd4
  have hdn : d.length ≤ n := by omega
  clear hn hx hd1 hd2 hd3 hd4
  have hmm : ∀ (W : World) (k : Nat), (Instr.makeMap 51 (some (.int .i64 k))).run Try.prog W = .ok (.map (some W.heap.size)) (W.alloc (.map #[] 0)) := fun W k => by
    simp [Instr.makeMap, run_underlying Try.underlying51, go_sem, Result.andThen]
  go_enter Try.func26, Try.ntmps26
  go_wp2
  have HM0 := hide (MapF.made w)
  have HB0 := hide (below_box w (.map #[] 0))
  clear hmm
  go_loopw [12] (fun i wr => ∃ (k : Nat) (f : ByteArray → Option Nat), k ≤ n ∧ i = .int .i64 k ∧ Hid (Upto xs k f) ∧ Hid (MapF wr w.heap.size (intM f)) ∧ Hid (Below w.heap.size w wr)) (fun i _ => n - (intOf i).toNat)
  case atStart => exact ⟨0, fun _ => none, Nat.zero_le _, rfl, Upto.zero xs, HM0, HB0⟩
  case round =>
    obtain ⟨k, f, hk, rfl, hup, hmf, hbl⟩ := hrel
    by_cases hlt : k < n
    · obtain ⟨x, hxk⟩ : ∃ x, xs[k]? = some x := ⟨xs[k]'(by have := HN.out; omega), List.getElem?_eq_some_iff.2 ⟨_, rfl⟩⟩
      obtain ⟨b, o, rfl, hc0⟩ := HX.out k x hxk
      have hc : wr.cell? ⟨b, o + k, none⟩ = some (.string x) := (hbl.out.cell (addr_plain hc0).2).trans hc0
      have HXK := hide hxk
      have hki : (k : Int) < (n : Int) := by omega
      clear hxk hc0
      go_wp2_with (at_mapUpdate; refine wpList_putG rfl _ _ _ rfl w.heap.size _ rfl hmf.out x rfl (k : Int) rfl ?_; intro w1 hm1 hg1; rw [intM_put] at hm1; have HM1 := hide hm1; have HB1 := hide (hbl.out.grown hg1 hbl.out.size (fun j e => by cases e; exact Nat.le_refl _)); clear hm1 hg1)
      go_roundw
      case rel => exact ⟨k + 1, putN' f x k, by omega, by go_num, hup.out.next HXK.out, HM1, HB1⟩
      case measure => simp [intOf]; omega
    · have hki : (n : Int) ≤ (k : Int) := by omega
      obtain rfl : k = n := by omega
      obtain ⟨es, clock, hb, hes⟩ := hmf.out.count HD1.out (fun x => by
        rw [HD2.out]
        unfold intM
        rw [Option.isSome_map]
        constructor
        · intro hx
          obtain ⟨j, hj⟩ := List.getElem?_of_mem hx
          exact hup.out.at' j x (by have := HN.out; have := (List.getElem?_eq_some_iff.1 hj).1; omega) hj
        · intro hx
          obtain ⟨z, hz⟩ := Option.isSome_iff_exists.1 hx
          exact List.mem_of_getElem? (hup.out.of x z hz).2)
      have hlen := run_len_mapG hb d.length hes
      clear hb hes
      go_wp2
      go_ret2
      refine ⟨w.heap.size, f, _, rfl, ?_, hup.out, Nat.le_refl _, hmf.out, hbl.out⟩
      rw [beq_iff_eq, ← HD4.out, ← HN.out]
      omega
theorem indexed_ok (v : Value) (xs : List ByteArray) (w : World) (h : Txt w v xs) (h9 : xs.length < 900000) :
    Calls Try.prog 26 #[v] w fun e w' => ∃ m f r, e = .returned (.tuple #[.map (some m), .bool r]) ∧ (r = true ↔ xs.Nodup) ∧ Upto xs xs.length f ∧ w.heap.size ≤ m ∧ MapF w' m (intM f) ∧ Below w.heap.size w w' := by
  refine indexed_any v xs.length xs w rfl h9 ?_ ?_
  · obtain ⟨a, c, e⟩ := h.form
    exact ⟨a, c, e⟩
  · intro j y hj
    rcases h with ⟨rfl, a, c, rfl⟩ | ⟨b, o, c, rfl, _, _, hc⟩
    · simp at hj
    · exact ⟨b, o, c, rfl, hc j y hj⟩
end Go.Proofs.Yticpljjbnfimkaa
