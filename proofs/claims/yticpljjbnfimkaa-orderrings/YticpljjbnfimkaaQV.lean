/- The walk of OrderRings. -/
import Derived.Test.YticpljjbnfimkaaQL
import Derived.Test.YticpljjbnfimkaaKCb
import Derived.Test.YticpljjbnfimkaaBs
import Derived.Test.YticpljjbnfimkaaJ6
import Derived.Test.YticpljjbnfimkaaQP
import Derived.Deep.RegionLaw
namespace Go.Proofs.Yticpljjbnfimkaa
open Go.RowKit

/-- The name of the k-th one: a letter. -/
def letB (k : Nat) : UInt8 := UInt8.ofNat (97 + k)
def letN (k : Nat) : ByteArray := Hog.mk [letB k]
theorem letB_val {k : Nat} (h : k < 100) : (letB k).toNat = 97 + k := by unfold letB; rw [UInt8.toNat_ofNat']; omega
theorem letN_inj {j k : Nat} (hj : j < 100) (hk : k < 100) (e : letN j = letN k) : j = k := by
  have h1 := congrArg ByteArray.toList e
  unfold letN at h1
  rw [Hog.mk_toList, Hog.mk_toList] at h1
  have h2 : letB j = letB k := by injection h1
  have h3 := letB_val hj
  have h4 := letB_val hk
  rw [h2] at h3
  omega
/-- One byte, as a text. -/
theorem run_letN {W : World} {g k : Nat} (hk : k < 100) (h : W.cell? ⟨g, 0, none⟩ = some (.int .u8 (97 + (k : Int)))) : (convert 38 9 (.slice (some ⟨g, 0, none⟩) 1 1)).run Try.prog W = .ok (.string (letN k)) W := by
  refine str_bytes (l := [letB k]) ⟨rfl, by simp, Nat.le_refl _, fun ad e j u hu => ?_⟩
  cases e
  match j, hu with
  | 0, hu =>
    simp [bcells] at hu
    subst hu
    rw [addB_plain, letB_val hk, h]
    simp
  | j + 1, hu => simp [bcells] at hu
theorem step_letN {ops : Array Oper} {o : Oper} {a : Act} {w : World} {K : Act → World → Prop} {Q : Exit → Act → World → Prop} {E : Prop} (hgd : o.guard = none) (x : Operand) (ho : o.op = .convert 38 9 x) (g k : Nat) (hk : k < 100)
    (hx : a.eval x = .slice (some ⟨g, 0, none⟩) 1 1) (hc : w.cell? ⟨g, 0, none⟩ = some (.int .u8 (97 + (k : Int)))) (h : K (a.put o.dst (.string (letN k))) w) :
    if Region.wanted o (yielded ops a.tmps) = true then Oper.wp Try.prog o a w K Q else E := by
  have hw : Region.wanted o (yielded ops a.tmps) = true := by simp [Region.wanted, hgd]
  rw [if_pos hw]
  unfold Oper.wp
  simp [execOp, ho, hx, run_letN hk hc, Result.andThen]
  exact h
/-- The ring of n items: each refers to the next one, the last one to the first. -/
def ringL (n : Nat) : List It := (List.range n).map fun k => (letN k, [letN ((k + 1) % n)], [])
/-- .. and without the last one's reference. -/
def openL (n : Nat) : List It := (List.range n).map fun k => (letN k, if k + 1 = n then [] else [letN (k + 1)], [])
theorem ring_get {n k : Nat} (h : k < n) : (ringL n)[k]? = some (letN k, [letN ((k + 1) % n)], []) := by unfold ringL; rw [List.getElem?_map, List.getElem?_range h]; rfl
theorem ring_len (n : Nat) : (ringL n).length = n := by unfold ringL; simp
theorem open_len (n : Nat) : (openL n).length = n := by unfold openL; simp
theorem open_names (n : Nat) : (openL n).map (·.1) = (List.range n).map letN := by unfold openL; rw [List.map_map]; rfl
theorem ring_names (n : Nat) : (ringL n).map (·.1) = (List.range n).map letN := by unfold ringL; rw [List.map_map]; rfl
theorem lets_nodup {n : Nat} (h : n < 100) : ((List.range n).map letN).Nodup := by
  refine List.pairwise_iff_getElem.2 fun a b ha hb hab e => ?_
  rw [List.length_map, List.length_range] at ha hb
  rw [List.getElem_map, List.getElem_map, List.getElem_range, List.getElem_range] at e
  have := letN_inj (by omega) (by omega) e
  omega
theorem ring_set {n : Nat} (h : 2 ≤ n) : (ringL n).set (n - 1) (letN (n - 1), [], []) = openL n := by
  apply List.ext_getElem?
  intro j
  rw [List.getElem?_set]
  by_cases e : n - 1 = j
  · subst e
    rw [if_pos rfl, if_pos (by rw [ring_len]; omega)]
    unfold openL
    rw [List.getElem?_map, List.getElem?_range (by omega)]
    show _ = some (letN (n - 1), (if n - 1 + 1 = n then [] else [letN (n - 1 + 1)]), [])
    rw [if_pos (by omega)]
  · rw [if_neg e]
    by_cases hj : j < n
    · rw [ring_get hj]
      unfold openL
      rw [List.getElem?_map, List.getElem?_range hj]
      show _ = some (letN j, (if j + 1 = n then [] else [letN (j + 1)]), [])
      rw [if_neg (by omega), Nat.mod_eq_of_lt (by omega)]
    · rw [List.getElem?_eq_none (by rw [ring_len]; omega), List.getElem?_eq_none (by rw [open_len]; omega)]
theorem chain_range (f : Nat → It) : ∀ m s, (∀ k, s ≤ k → k < s + m → (f k).2.1 = [(f (k + 1)).1]) → (f (s + m)).2.1 = [] → Hog.Chain ((List.range' s (m + 1)).map f)
  | 0, s, _, h => .one h
  | m + 1, s, h, hl => by
    have ih := chain_range f m (s + 1) (fun k h1 h2 => h k (by omega) (by omega)) (by rw [show s + 1 + m = s + (m + 1) by omega]; exact hl)
    exact .more (h s (Nat.le_refl _) (by omega)) ih
theorem open_ord {n : Nat} (h : 2 ≤ n) (h8 : n < 100) : OrdO (openL n) (some ((List.range n).map letN).reverse) := by
  have hu : ((openL n).map (·.1)).Nodup := by rw [open_names]; exact lets_nodup h8
  refine .inl ⟨hu, ?_⟩
  rw [← open_names]
  refine Hog.ord_chain ltB_irr ?_ hu
  obtain ⟨m, rfl⟩ : ∃ m, n = m + 1 := ⟨n - 1, by omega⟩
  unfold openL
  rw [List.range_eq_range']
  refine chain_range _ m 0 (fun k _ hk => ?_) ?_
  · show (if k + 1 = m + 1 then [] else [letN (k + 1)]) = [letN (k + 1)]
    rw [if_neg (by omega)]
  · show (if 0 + m + 1 = m + 1 then ([] : List ByteArray) else [letN (0 + m + 1)]) = []
    rw [if_pos (by omega)]
theorem ring_ordO {n : Nat} (h : 2 ≤ n) (h8 : n < 100) : OrdO (ringL n) none := by
  refine .inl ⟨by rw [ring_names]; exact lets_nodup h8, Hog.ord_ring (fun e => by have := congrArg List.length e; rw [ring_len] at this; simp at this; omega) fun i hi => ?_⟩
  unfold ringL at hi
  obtain ⟨k, hk, rfl⟩ := List.mem_map.1 hi
  have hkn := List.mem_range.1 hk
  have hq : (k + 1) % n < n := Nat.mod_lt _ (by omega)
  refine ⟨letN ((k + 1) % n), by simp, by rw [ring_names]; exact List.mem_map.2 ⟨_, List.mem_range.2 hq, rfl⟩, fun e => ?_⟩
  have h1 := letN_inj (by omega) (by omega) e
  by_cases h2 : k + 1 < n
  · rw [Nat.mod_eq_of_lt h2] at h1; omega
  · have : k + 1 = n := by omega
    rw [this, Nat.mod_self] at h1
    omega
theorem ring_few2 (n : Nat) : ∀ i ∈ ringL n, i.2.1.length ≤ 900 := by
  intro i hi
  unfold ringL at hi
  obtain ⟨k, _, rfl⟩ := List.mem_map.1 hi
  simp
theorem open_few (n : Nat) : ∀ i ∈ openL n, i.2.1.length ≤ 900 := by
  intro i hi
  unfold openL at hi
  obtain ⟨k, _, rfl⟩ := List.mem_map.1 hi
  show (if k + 1 = n then ([] : List ByteArray) else [letN (k + 1)]).length ≤ 900
  split <;> simp

/-- An item of the ring in memory: its one reference lies in a block that is not the row's. -/
def RingAt (w : World) (v : Value) (p : Pr) : Prop := ∃ nm t y, p = ((nm, (some ⟨t, 0, none⟩, 1, 1), (none, 0, 0)), (nm, [y], [])) ∧ t < w.heap.size ∧ some t ≠ v.ownBlock ∧ w.cell? ⟨t, 0, none⟩ = some (.string y)
theorem RingAt.is {w : World} {v : Value} {p : Pr} (h : RingAt w v p) : IsI w p := by
  obtain ⟨nm, t, y, rfl, _, _, hc⟩ := h
  refine ⟨rfl, ⟨rfl, fun e => (by cases e), Nat.le_refl _, fun ad e j u hu => ?_⟩, argN_nil w⟩
  cases e
  match j, hu with
  | 0, hu => simp at hu; subst hu; rw [add_plain]; exact hc
  | j + 1, hu => simp at hu
theorem RingAt.below {w w' : World} {v : Value} {p : Pr} (h : RingAt w v p) (hb : Below w.heap.size w w') : RingAt w' v p := by
  obtain ⟨nm, t, y, rfl, h1, h2, hc⟩ := h
  exact ⟨nm, t, y, rfl, Nat.lt_of_lt_of_le h1 hb.size, h2, (hb.cell (p := ⟨t, 0, none⟩) h1).trans hc⟩
theorem RingAt.moved {w w' : World} {v v' : Value} {p : Pr} (h : RingAt w v p) (hg : w.grownBy w' v.ownBlock) (hs : Stays w v v') : RingAt w' v' p := by
  obtain ⟨nm, t, y, rfl, h1, h2, hc⟩ := h
  refine ⟨nm, t, y, rfl, Nat.lt_of_lt_of_le h1 hg.size, fun e => ?_, (World.cell?_of_block (w := w) (a := ⟨t, 0, none⟩) (hg.block t h1 h2)).trans hc⟩
  rcases hs with e2 | ⟨k, e2, hk⟩
  · rw [e2] at e; exact h2 e
  · rw [e2] at e; cases e; omega
/-- As step_append_items; it tells besides what has turned, and where the answer lies. -/
theorem step_append_itemsG {ops : Array Oper} {o : Oper} {a : Act} {w : World} {K : Act → World → Prop} {Q : Exit → Act → World → Prop} {E : Prop} (hgd : o.guard = none) (s x : Operand)
    (ho : o.op = .call { callee := .builtin .append, args := #[s, x], argTypes := #[22, 22] })
    (base : Nat) (v : Value) (xs : List Pr) (hs : a.eval s = v) (hown : OwnS base w v xs) (ad : Addr) (m c : Nat) (ys : List Pr) (hx : a.eval x = .slice (some ad) m c) (hu : ArgS w (some ad) m c ys)
    (q : Nat) (hq : xs.length + ys.length = q) (hlen : q < 1000000) (hbase : base ≤ w.heap.size)
    (h : ∀ b c w', OwnS base w' (.slice b q c) (xs ++ ys) → w.grownBy w' v.ownBlock → Stays w v (.slice b q c) → K (a.put o.dst (.slice b q c)) w') :
    if Region.wanted o (yielded ops a.tmps) = true then Oper.wp Try.prog o a w K Q else E := by
  have hw : Region.wanted o (yielded ops a.tmps) = true := by simp [Region.wanted, hgd]
  rw [if_pos hw]
  subst hq
  obtain ⟨i0, hi, hz0, hz1, hz2⟩ := info_parts AItem
  obtain rfl := hu.len
  obtain ⟨v', w', hr, h2, h3, h4⟩ := run_append_where (P := Try.prog) w base 22 o.type 33 i0 (.agg #[.string ByteArray.empty, .slice none 0 0, .slice none 0 0]) 3 64 Try.underlying22 hi hz0 hz1 hz2 rfl (by decide) v xs.length (rflat xs) hown ad ys.length c (rflat ys) (rflat_len ys) (hu.cell ad rfl) (rflat_one ys) (by unfold maxLen; omega) (by omega) hbase
  have h5 : OwnS base w' v' (xs ++ ys) := OwnS.joined h2
  obtain ⟨b, c', e⟩ := h5.form
  rw [List.length_append] at e
  subst e
  unfold Oper.wp
  simp [execOp, ho, resolve, invoke, builtin, hs, hx, hr, Result.andThen]
  exact h b c' w' h5 h3 h4
theorem alloc_one {X : World} {g : Nat} {v : Value} {ty : TypeId} (h : X.heap.size = g) : (X.alloc (.cells #[v] ty)).cell? ⟨g, 0, none⟩ = some v := by subst h; simp
theorem alloc_one1 {X : World} {g : Nat} {v : Value} {ty : TypeId} {o : Obj} (h : X.heap.size = g) : ((X.alloc (.cells #[v] ty)).alloc o).cell? ⟨g, 0, none⟩ = some v := ((below_box _ o).cell (p := ⟨g, 0, none⟩) (by simp; omega)).trans (alloc_one h)
theorem letW_0 {w : World} {b : Nat} {v : Value} (_ : b < w.heap.size) (h : w.cell? ⟨b, 0, none⟩ = some v) : w.drew.cell? ⟨b, 0, none⟩ = some v := h
theorem letW_1 {w : World} {b : Nat} {v : Value} {o : Obj} (hb : b < w.heap.size) (h : w.cell? ⟨b, 0, none⟩ = some v) : (w.alloc o).drew.cell? ⟨b, 0, none⟩ = some v := ((below_box w o).cell (p := ⟨b, 0, none⟩) hb).trans h
theorem letW_2 {w : World} {b : Nat} {v : Value} {o o' : Obj} (hb : b < w.heap.size) (h : w.cell? ⟨b, 0, none⟩ = some v) : ((w.alloc o).alloc o').drew.cell? ⟨b, 0, none⟩ = some v := ((below_two (below_box w o) (below_box _ o')).cell (p := ⟨b, 0, none⟩) hb).trans h
/-- The first k items of the ring have been made. -/
structure RSt (w1 wr : World) (n k : Nat) (a : Option Addr) (c : Nat) (ps : List Pr) : Prop where
  its : itsOf ps = (ringL n).take k
  len : ps.length = k
  own : OwnS w1.heap.size wr (.slice a k c) ps
  each : ∀ p ∈ ps, RingAt wr (.slice a k c) p
  below : Below w1.heap.size w1 wr
/-- The next one. -/
def nextP (k q T : Nat) : Pr := ((letN k, (some ⟨T, 0, none⟩, 1, 1), (none, 0, 0)), (letN k, [letN q], []))
theorem ring_arm {w1 wr U : World} {n k q c T H : Nat} {a : Option Addr} {ps : List Pr} (h : RSt w1 wr n k a c ps) (hk : k < n) (hq : q = (k + 1) % n) (hU : Below wr.heap.size wr U) (hT : wr.heap.size ≤ T) (hTU : T < U.heap.size) (hc : U.cell? ⟨T, 0, none⟩ = some (.string (letN q))) (hH : U.heap.size = H) :
    OwnS w1.heap.size (U.alloc (.cells #[.string (letN k), .slice (some ⟨T, 0, none⟩) 1 1, .slice none 0 0] 33)).drew (.slice a k c) ps ∧
    ArgS (U.alloc (.cells #[.string (letN k), .slice (some ⟨T, 0, none⟩) 1 1, .slice none 0 0] 33)).drew (some ⟨H, 0, none⟩) 1 1 [nextP k q T] ∧
    w1.heap.size ≤ (U.alloc (.cells #[.string (letN k), .slice (some ⟨T, 0, none⟩) 1 1, .slice none 0 0] 33)).drew.heap.size ∧
    ∀ b3 c3 w3, OwnS w1.heap.size w3 (.slice b3 (k + 1) c3) (ps ++ [nextP k q T]) → (U.alloc (.cells #[.string (letN k), .slice (some ⟨T, 0, none⟩) 1 1, .slice none 0 0] 33)).drew.grownBy w3 (Value.slice a k c).ownBlock →
      Stays (U.alloc (.cells #[.string (letN k), .slice (some ⟨T, 0, none⟩) 1 1, .slice none 0 0] 33)).drew (.slice a k c) (.slice b3 (k + 1) c3) → RSt w1 w3 n (k + 1) b3 c3 (ps ++ [nextP k q T]) := by
  subst hH
  obtain ⟨W, hW⟩ : ∃ W, W = (U.alloc (.cells #[.string (letN k), .slice (some ⟨T, 0, none⟩) 1 1, .slice none 0 0] 33)).drew := ⟨_, rfl⟩
  have hb2 : Below U.heap.size U W := by rw [hW]; exact (below_box U _).drew
  have hb : Below wr.heap.size wr W := below_two hU hb2
  have hcW : W.cell? ⟨T, 0, none⟩ = some (.string (letN q)) := (hb2.cell (p := ⟨T, 0, none⟩) hTU).trans hc
  have hoff : some T ≠ (Value.slice a k c).ownBlock := fun e => by have := (h.own.lt T e.symm).2; omega
  have hN : RingAt W (.slice a k c) (nextP k q T) := ⟨_, T, _, rfl, Nat.lt_of_lt_of_le hTU hb2.size, hoff, hcW⟩
  have hNU : RingAt U (.slice a k c) (nextP k q T) := ⟨_, T, _, rfl, hTU, hoff, hc⟩
  have hsz := Nat.le_trans h.below.size hb.size
  have hA := (argS_one hNU.is).below (w' := W) (by rw [hW]; exact (Below.refl _ _).drew)
  rw [← hW]
  refine ⟨h.own.below hb, hA, hsz, fun b3 c3 w3 ho hg hs => ⟨?_, by rw [List.length_append, h.len]; rfl, ho, fun p hp => ?_, (h.below.trans (hb.mono h.below.size)).grown hg hsz (fun j e => (h.own.lt j e).1)⟩⟩
  · have e1 : itsOf (ps ++ [nextP k q T]) = itsOf ps ++ [(letN k, [letN q], [])] := by unfold itsOf; rw [List.map_append]; rfl
    have hg2 := ring_get hk
    obtain ⟨h1, h2⟩ := List.getElem?_eq_some_iff.1 hg2
    rw [e1, h.its, List.take_succ_eq_append_getElem h1, h2, hq]
  · rcases List.mem_append.1 hp with hp | hp
    · exact ((h.each p hp).below hb).moved hg hs
    · rw [List.mem_singleton.1 hp]; exact hN.moved hg hs
set_option maxRecDepth 100000 in
set_option maxHeartbeats 8000000 in
theorem rings_walk (m : Int) (w : World) :
    Calls Try.prog 5 #[.int .i64 m] w fun e w' => e = .returned (.bool true) ∧ Below w.heap.size w w' := by
  go_enter Try.func5, Try.ntmps5
  go_wp2_with fail
  refine (low_any m 7 w (by decide) (by decide)).mono ?_
  rintro e w1 ⟨r, rfl, hr, rfl⟩
  obtain ⟨n, hn⟩ : ∃ n : Nat, n = 2 + r := ⟨_, rfl⟩
  have hni : 2 + (r : Int) = (n : Int) := by omega
  have h2 : 2 ≤ n := by omega
  have h8 : n ≤ 8 := by omega
  clear hn hr
  go_wp2_with fail
  clear hni
  go_loopw [3, 4] (fun v iv wr => ∃ (k : Nat) (a : Option Addr) (c : Nat) (ps : List Pr), k ≤ n ∧ iv = .int .i64 k ∧ v = .slice a k c ∧ Hid (RSt w1 wr n k a c ps)) (fun _ iv _ => n - (intOf iv).toNat)
  case atStart => exact ⟨0, none, 0, [], Nat.zero_le _, rfl, rfl, hide ⟨rfl, rfl, OwnS.nil _ _, fun p hp => by simp at hp, Below.refl _ _⟩⟩
  case round =>
    obtain ⟨k, a, c, ps, hk, rfl, rfl, HS⟩ := hrel
    by_cases hlt : k < n
    · have hki : (k : Int) < (n : Int) := by omega
      obtain ⟨q, hq⟩ : ∃ q : Nat, q = (k + 1) % n := ⟨_, rfl⟩
      have hqi : ((k : Int) + 1) % (n : Int) = (q : Int) := by
        rw [hq, Int.natCast_emod]; rfl
      have hqt : ((k : Int) + 1).tmod (n : Int) = (q : Int) := by rw [Int.tmod_eq_emod_of_nonneg (by omega)]; exact hqi
      have hqn : q < n := by rw [hq]; exact Nat.mod_lt _ (by omega)
      have hnz : ¬ n = 0 := by omega
      have cv1 : (convert 38 9 (.slice (some ⟨wr.heap.size, 0, none⟩) 1 1)).run Try.prog (wr.alloc (.cells #[.int .u8 (97 + (k : Int))] 5)).drew = .ok (.string (letN k)) (wr.alloc (.cells #[.int .u8 (97 + (k : Int))] 5)).drew := run_letN (by omega) (letW_0 (by simp) (alloc_one (by simp)))
      have cv2 : (convert 38 9 (.slice (some ⟨wr.heap.size, 0, none⟩) 1 1)).run Try.prog ((wr.alloc (.cells #[.int .u8 (97 + (k : Int))] 5)).alloc (.cells #[.int .u8 (97 + (q : Int))] 5)).drew = .ok (.string (letN k)) ((wr.alloc (.cells #[.int .u8 (97 + (k : Int))] 5)).alloc (.cells #[.int .u8 (97 + (q : Int))] 5)).drew := run_letN (by omega) (letW_1 (by simp) (alloc_one (by simp)))
      have cv3 : (convert 38 9 (.slice (some ⟨wr.heap.size + 1, 0, none⟩) 1 1)).run Try.prog ((wr.alloc (.cells #[.int .u8 (97 + (q : Int))] 5)).alloc (.cells #[.int .u8 (97 + (k : Int))] 5)).drew = .ok (.string (letN k)) ((wr.alloc (.cells #[.int .u8 (97 + (q : Int))] 5)).alloc (.cells #[.int .u8 (97 + (k : Int))] 5)).drew := run_letN (by omega) (letW_0 (by simp) (alloc_one (by simp)))
      have cv4 : (convert 38 9 (.slice (some ⟨wr.heap.size, 0, none⟩) 1 1)).run Try.prog (((wr.alloc (.cells #[.int .u8 (97 + (k : Int))] 5)).alloc (.cells #[.int .u8 (97 + (q : Int))] 5)).alloc (.cells #[.string (letN q)] 9)).drew = .ok (.string (letN k)) (((wr.alloc (.cells #[.int .u8 (97 + (k : Int))] 5)).alloc (.cells #[.int .u8 (97 + (q : Int))] 5)).alloc (.cells #[.string (letN q)] 9)).drew := run_letN (by omega) (letW_2 (by simp) (alloc_one (by simp)))
      have cv5 : (convert 38 9 (.slice (some ⟨wr.heap.size + 1, 0, none⟩) 1 1)).run Try.prog (((wr.alloc (.cells #[.int .u8 (97 + (q : Int))] 5)).alloc (.cells #[.int .u8 (97 + (k : Int))] 5)).alloc (.cells #[.string (letN q)] 9)).drew = .ok (.string (letN k)) (((wr.alloc (.cells #[.int .u8 (97 + (q : Int))] 5)).alloc (.cells #[.int .u8 (97 + (k : Int))] 5)).alloc (.cells #[.string (letN q)] 9)).drew := run_letN (by omega) (letW_1 (by simp) (alloc_one (by simp)))
      have cv6 : (convert 38 9 (.slice (some ⟨wr.heap.size + 1 + 1, 0, none⟩) 1 1)).run Try.prog (((wr.alloc (.cells #[.int .u8 (97 + (q : Int))] 5)).alloc (.cells #[.string (letN q)] 9)).alloc (.cells #[.int .u8 (97 + (k : Int))] 5)).drew = .ok (.string (letN k)) (((wr.alloc (.cells #[.int .u8 (97 + (q : Int))] 5)).alloc (.cells #[.string (letN q)] 9)).alloc (.cells #[.int .u8 (97 + (k : Int))] 5)).drew := run_letN (by omega) (letW_0 (by simp) (alloc_one (by simp)))
      have cv7 : (convert 38 9 (.slice (some ⟨wr.heap.size, 0, none⟩) 1 1)).run Try.prog (wr.alloc (.cells #[.int .u8 (97 + (q : Int))] 5)).drew = .ok (.string (letN q)) (wr.alloc (.cells #[.int .u8 (97 + (q : Int))] 5)).drew := run_letN (by omega) (letW_0 (by simp) (alloc_one (by simp)))
      have cv8 : (convert 38 9 (.slice (some ⟨wr.heap.size + 1, 0, none⟩) 1 1)).run Try.prog ((wr.alloc (.cells #[.int .u8 (97 + (k : Int))] 5)).alloc (.cells #[.int .u8 (97 + (q : Int))] 5)).drew = .ok (.string (letN q)) ((wr.alloc (.cells #[.int .u8 (97 + (k : Int))] 5)).alloc (.cells #[.int .u8 (97 + (q : Int))] 5)).drew := run_letN (by omega) (letW_0 (by simp) (alloc_one (by simp)))
      have cv9 : (convert 38 9 (.slice (some ⟨wr.heap.size, 0, none⟩) 1 1)).run Try.prog ((wr.alloc (.cells #[.int .u8 (97 + (q : Int))] 5)).alloc (.cells #[.int .u8 (97 + (k : Int))] 5)).drew = .ok (.string (letN q)) ((wr.alloc (.cells #[.int .u8 (97 + (q : Int))] 5)).alloc (.cells #[.int .u8 (97 + (k : Int))] 5)).drew := run_letN (by omega) (letW_1 (by simp) (alloc_one (by simp)))
      have hk1 : IntKind.i64.wrap (97 + (k : Int)) = 97 + (k : Int) := by rw [IntKind.wrap_i64]; omega
      have hk2 : IntKind.u8.wrap (97 + (k : Int)) = 97 + (k : Int) := by rw [IntKind.wrap_u8]; omega
      have hk3 : IntKind.i64.wrap ((k : Int) + 1) = (k : Int) + 1 := by rw [IntKind.wrap_i64]; omega
      have hq0 : IntKind.i64.wrap (q : Int) = (q : Int) := by rw [IntKind.wrap_i64]; omega
      have hq1 : IntKind.i64.wrap (97 + (q : Int)) = 97 + (q : Int) := by rw [IntKind.wrap_i64]; omega
      have hq2 : IntKind.u8.wrap (97 + (q : Int)) = 97 + (q : Int) := by rw [IntKind.wrap_u8]; omega
      have HX1 := hide (ring_arm (U := ((wr.alloc (.cells #[.int .u8 (97 + (k : Int))] 5)).alloc (.cells #[.int .u8 (97 + (q : Int))] 5)).alloc (.cells #[.string (letN q)] 9)) (T := wr.heap.size + 1 + 1) (H := wr.heap.size + 1 + 1 + 1) HS.out hlt hq (below_two (below_box _ _) (below_two (below_box _ _) (below_box _ _))) (by omega) (by simp) (alloc_one (by simp)) (by simp))
      have HX2 := hide (ring_arm (U := ((wr.alloc (.cells #[.int .u8 (97 + (q : Int))] 5)).alloc (.cells #[.int .u8 (97 + (k : Int))] 5)).alloc (.cells #[.string (letN q)] 9)) (T := wr.heap.size + 1 + 1) (H := wr.heap.size + 1 + 1 + 1) HS.out hlt hq (below_two (below_box _ _) (below_two (below_box _ _) (below_box _ _))) (by omega) (by simp) (alloc_one (by simp)) (by simp))
      have HX3 := hide (ring_arm (U := ((wr.alloc (.cells #[.int .u8 (97 + (q : Int))] 5)).alloc (.cells #[.string (letN q)] 9)).alloc (.cells #[.int .u8 (97 + (k : Int))] 5)) (T := wr.heap.size + 1) (H := wr.heap.size + 1 + 1 + 1) HS.out hlt hq (below_two (below_box _ _) (below_two (below_box _ _) (below_box _ _))) (by omega) (by simp) (alloc_one1 (by simp)) (by simp))
      have HPL : Hid (ps.length + [nextP k q 0].length = k + 1) := hide (by rw [HS.out.len]; rfl)
      clear hq
      go_wp2_with fail
      go_region_law (first
        | (refine step_append_itemsG rfl (.tmp 18) (.tmp 34) rfl w1.heap.size (.slice a k c) ps rfl HX1.out.1 ⟨wr.heap.size + 1 + 1 + 1, 0, none⟩ 1 1 [nextP k q (wr.heap.size + 1 + 1)] rfl HX1.out.2.1 (k + 1) HPL.out (by omega) HX1.out.2.2.1 ?_; intro b3 c3 w3 ho3 hg3 hs3; replace hs3 := hide (HX1.out.2.2.2 b3 c3 w3 ho3 hg3 hs3); clear ho3 hg3)
        | (refine step_append_itemsG rfl (.tmp 18) (.tmp 34) rfl w1.heap.size (.slice a k c) ps rfl HX2.out.1 ⟨wr.heap.size + 1 + 1 + 1, 0, none⟩ 1 1 [nextP k q (wr.heap.size + 1 + 1)] rfl HX2.out.2.1 (k + 1) HPL.out (by omega) HX2.out.2.2.1 ?_; intro b3 c3 w3 ho3 hg3 hs3; replace hs3 := hide (HX2.out.2.2.2 b3 c3 w3 ho3 hg3 hs3); clear ho3 hg3)
        | (refine step_append_itemsG rfl (.tmp 18) (.tmp 34) rfl w1.heap.size (.slice a k c) ps rfl HX3.out.1 ⟨wr.heap.size + 1 + 1 + 1, 0, none⟩ 1 1 [nextP k q (wr.heap.size + 1)] rfl HX3.out.2.1 (k + 1) HPL.out (by omega) HX3.out.2.2.1 ?_; intro b3 c3 w3 ho3 hg3 hs3; replace hs3 := hide (HX3.out.2.2.2 b3 c3 w3 ho3 hg3 hs3); clear ho3 hg3))
      all_goals
        clear cv1 cv2 cv3 cv4 cv5 cv6 cv7 cv8 cv9
        go_wp2
        go_roundw
        case rel => exact ⟨k + 1, b3, c3, _, by omega, by go_num, rfl, hs3⟩
        case measure => simp [intOf]; omega
    · have hkn : n = k := by omega
      subst hkn
      obtain ⟨g, rfl, hg1, hg2, hgc⟩ := HS.out.own.block (by omega)
      obtain ⟨mm, hmm⟩ : ∃ mm, mm = n - 1 := ⟨_, rfl⟩
      have hmi : (n : Int) - 1 = (mm : Int) := by omega
      have hmn : mm < n := by omega
      have hmni : (mm : Int) < (n : Int) := by omega
      have HMM := hide hmm
      clear hmm
      have HIA : Hid (itsOf ps = ringL n) := hide (by rw [HS.out.its, List.take_of_length_le (by rw [ring_len]; exact Nat.le_refl _)])
      have HTI : Hid (Its wr (.slice (some ⟨g, 0, none⟩) n c) (ringL n)) := hide (by rw [← HIA.out]; exact (HS.out.own.sls (fun p hp => (HS.out.each p hp).is)).its)
      clear hk hlt
      go_wp2_with fail
      refine (of_none _ (ringL n) wr (ring_ordO h2 (by omega)) HTI.out (by rw [ring_len]; omega) (ring_few2 n)).mono ?_
      rintro e w3 ⟨rfl, hb3⟩
      have HB3 := hide (below_two HS.out.below hb3)
      have HO3 := hide (HS.out.own.below hb3)
      have HE3 : Hid (∀ p ∈ ps, RingAt w3 (.slice (some ⟨g, 0, none⟩) n c) p) := hide (fun p hp => (HS.out.each p hp).below hb3)
      clear hb3
      obtain ⟨p, hp⟩ : ∃ p, ps[mm]? = some p := ⟨ps[mm]'(by have := HS.out.len; omega), List.getElem?_eq_some_iff.2 ⟨_, rfl⟩⟩
      have hp2 : p.2 = (letN mm, [letN ((mm + 1) % n)], []) := by
        have h1 : (itsOf ps)[mm]? = some p.2 := by unfold itsOf; rw [List.getElem?_map, hp]; rfl
        rw [HIA.out, ring_get hmn] at h1
        exact (Option.some.inj h1).symm
      have q0 := HO3.out.cellAt hp
      have q1 : w3.frozen? ⟨g, mm * 3 + 1, none⟩ = false := HO3.out.free _
      unfold refsV at q0
      have HO4 : Hid (OwnS w1.heap.size (w3.setCell ⟨g, mm * 3 + 1, none⟩ (.slice none 0 0)) (.slice (some ⟨g, 0, none⟩) n c) (ps.set mm (putR p none 0 0 []))) := hide (HO3.out.put hp none 0 0 [])
      have HI4 : Hid (itsOf (ps.set mm (putR p none 0 0 [])) = openL n) := hide (by
        rw [its_put, HIA.out, hp2, HMM.out]
        exact ring_set h2)
      have HB4 : Hid (Below w1.heap.size w1 (w3.setCell ⟨g, mm * 3 + 1, none⟩ (.slice none 0 0))) := hide (HB3.out.setCell (p := ⟨g, mm * 3 + 1, none⟩) hg1 _)
      have HT4 : Hid (Its (w3.setCell ⟨g, mm * 3 + 1, none⟩ (.slice none 0 0)) (.slice (some ⟨g, 0, none⟩) n c) (openL n)) := hide (by
        rw [← HI4.out]
        refine (HO4.out.sls (fun y hy => ?_)).its
        rcases List.mem_or_eq_of_mem_set hy with hy | rfl
        · exact ((HE3.out y hy).moved (grown_setCell w3 g (mm * 3 + 1) _) (.inl rfl)).is
        · have h1 := ((HE3.out p (List.mem_of_getElem? hp)).moved (v' := .slice (some ⟨g, 0, none⟩) n c) (grown_setCell w3 g (mm * 3 + 1) (.slice none 0 0)) (.inl rfl)).is
          exact ⟨h1.name, ⟨rfl, fun _ => ⟨rfl, rfl⟩, Nat.le_refl _, fun _ e => by cases e⟩, h1.tree⟩)
      clear hp hp2 HO3 HE3 HTI
      go_wp2_with fail
      have hnn : ((n : Int) != (n : Int)) = false := by simp
      refine (of_some _ (openL n) ((List.range n).map letN).reverse n _ (open_ord h2 (by omega)) (open_len n) HT4.out (by omega) (open_few n)).mono ?_
      rintro e w5 ⟨oa, oc, rfl, ho5, _, hb5⟩
      have HO5 := hide ho5.txt
      have HB5 := hide (below_two HB4.out hb5)
      have HT5 := hide (HT4.out.below hb5)
      clear ho5 hb5 q0 q1
      go_wp2_with fail
      go_loopw [9] (fun iv wr => ∃ k : Nat, k ≤ n ∧ iv = .int .i64 k ∧ Hid (Below w5.heap.size w5 wr)) (fun iv _ => n - (intOf iv).toNat)
      case atStart => exact ⟨0, Nat.zero_le _, rfl, hide (Below.refl _ _)⟩
      case round =>
        rename World => wx
        obtain ⟨k, hk, rfl, HB⟩ := hrel
        by_cases hlt : k < n
        · have hki : (k : Int) < (n : Int) := by omega
          obtain ⟨j, hj⟩ : ∃ j, j = n - 1 - k := ⟨_, rfl⟩
          have hji : (mm : Int) - (k : Int) = (j : Int) := by omega
          have hjn : j < n := by omega
          have hjni : (j : Int) < (n : Int) := by omega
          have hx : ((List.range n).map letN).reverse[k]? = some (letN j) := by
            rw [List.getElem?_reverse (by simp; omega), List.length_map, List.length_range, ← hj, List.getElem?_map, List.getElem?_range hjn]; rfl
          obtain ⟨ob, oo, rfl, q2⟩ : ∃ ob oo, oa = some ⟨ob, oo, none⟩ ∧ wx.cell? ⟨ob, oo + k, none⟩ = some (.string (letN j)) := by
            rcases HO5.out.below HB.out with ⟨e, _⟩ | ⟨bb, bo, c', e, _, _, hc⟩
            · rw [e] at hx; simp at hx
            · simp only [Value.slice.injEq] at e
              exact ⟨bb, bo, e.1, hc k _ hx⟩
          have q3 : wx.cell? ⟨g, j * 3, none⟩ = some (.string (letN j)) := by
            rcases HT5.out.below HB.out with ⟨e, _⟩ | ⟨bb, bo, c', e, _, hrn⟩
            · have := open_len n; rw [e] at this; simp at this; omega
            · simp only [Value.slice.injEq, Option.some.injEq, Addr.mk.injEq, and_true] at e
              obtain ⟨⟨rfl, rfl⟩, _⟩ := e
              have hy : (openL n)[j]? = some (letN j, (if j + 1 = n then [] else [letN (j + 1)]), []) := by unfold openL; rw [List.getElem?_map, List.getElem?_range hjn]; rfl
              obtain ⟨_, _, _, _, _, _, z0, _⟩ := hrn.2 j _ hy
              rw [Nat.zero_add] at z0
              exact z0
          have hq : ((letN j).toList == (letN j).toList) = true := beq_self_eq_true _
          generalize letN j = nm at *
          clear hx hj
          go_wp2
          go_quiet (fail)
          go_wp2
          go_roundw
          case rel => exact ⟨k + 1, by omega, by go_num, hide (below_drewN HB.out _)⟩
          case measure => simp [intOf]; omega
        · have hki : (n : Int) ≤ (k : Int) := by omega
          go_wp2_with fail
          refine (awake10_ok _).mono ?_
          rintro e w6 ⟨rfl, hb6⟩
          have HB6 := hide (below_two HB5.out (below_two HB.out hb6))
          clear hb6
          go_wp2_with fail
          go_ret
          exact ⟨rfl, HB6.out⟩
end Go.Proofs.Yticpljjbnfimkaa
