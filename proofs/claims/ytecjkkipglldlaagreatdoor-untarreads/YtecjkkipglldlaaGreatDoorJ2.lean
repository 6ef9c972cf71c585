/- Texts that stand together, joined: W1, W2, W3, W4, W5, W6, W7, Okw, Apd. -/
import Derived.Test.YtecjkkipglldlaaGreatDoorRows
import Derived.Test.YtecjkkipglldlaaGreatDoorShelf
import Derived.Test.YtecjkkipglldlaaGreatDoorTxt
import Derived.WalkKit
import Derived.WalkSpells
import Derived.WalkLawsBesides
import Derived.Deep.QuietTactic
import Derived.BigQuiet
import Derived.Laws.AppendOwnNone
/- The walks of package path's inner functions: Part. -/
namespace Go.Proofs.YtecjkkipglldlaaGreatDoor
open Go.RowKit



set_option maxHeartbeats 400000 in
theorem part_any (s : ByteArray) (w : World) (hs : s.size < 1000000) :
    Calls Tryz.prog 104 #[.string s] w fun e w' => e = .returned (.bool (Hog.partL s.data.toList)) ∧ w' = w := by
  go_enter Tryz.func104, Tryz.ntmps104
  go_wp2_with (first
    | (go_at_call 117; refine (Tryz.strings_HasPrefix _ _ _).mono ?_; rintro e w' ⟨rfl, rfl⟩)
    | (go_at_call 70; refine (Tryz.strings_IndexByte _ _ _).mono ?_; rintro e w' ⟨rfl, rfl⟩))
  all_goals
    go_ret
    refine ⟨ret_bool ?_, rfl⟩
    simp only [Lib.toList_data, Hog.size_len] at *
    unfold Hog.partL
    simp_all <;> (intros; omega)

end Go.Proofs.YtecjkkipglldlaaGreatDoor
/- The walks of package path: cut, allParts, May. -/
namespace Go.Proofs.YtecjkkipglldlaaGreatDoor
open Go.RowKit

theorem mk_map (l : List (List UInt8)) : (l.map Hog.mk).map (·.data.toList) = l := by
  rw [List.map_map]
  conv => rhs; rw [← List.map_id l]
  exact List.map_congr_left fun x _ => Hog.mk_data x

theorem split_any (s : ByteArray) (w : World) (hsh : w.ShapedOpen Tryz.prog) (hs : s.size < 1000000) :
    Calls Tryz.prog 105 #[.string s, .string ⟨#[47]⟩] w fun e w' => ∃ v, e = .returned v ∧ Own w.heap.size w' v ((Hog.cutL s.data.toList).map Hog.mk) ∧ Below w.heap.size w w' := by
  refine (Tryz.strings_Split_shaped s ⟨#[47]⟩ w hsh (by omega) (by decide)).mono ?_
  rintro e w' ⟨rfl, rfl⟩
  refine ⟨_, rfl, ?_, (Below.refl _ _).alloc (Nat.le_refl _) _⟩
  have h := Own.made w ((Hog.cutL s.data.toList).map Hog.mk) (by
    have := Hog.cut_len s.data.toList
    rw [← Hog.size_len] at this
    unfold maxLen; simp only [List.length_map]; omega)
  have hc := Hog.countB_cut s
  have hb := Hog.splitB_cut s
  rw [hb, hc]
  simpa using h

set_option maxHeartbeats 400000 in
theorem cut_any (s : ByteArray) (w : World) (hsh : w.ShapedOpen Tryz.prog) (hs : s.size < 1000000) :
    Calls Tryz.prog 92 #[.string s] w fun e w' => ∃ v, e = .returned v ∧ Own w.heap.size w' v ((Hog.cutC s.data.toList).map Hog.mk) ∧ Below w.heap.size w w' := by
  by_cases h0 : s.data.toList = []
  · have hb : s.toList.isEmpty = true := by rw [Lib.toList_data, h0]; rfl
    go_enter Tryz.func92, Tryz.ntmps92
    go_wp2_with fail
    go_ret
    refine ⟨_, rfl, ?_, Below.refl _ _⟩
    unfold Hog.cutC
    rw [if_pos h0]
    exact Own.nil _ _
  · have hb : s.toList.isEmpty = false := by rw [Lib.toList_data]; simpa using h0
    go_enter Tryz.func92, Tryz.ntmps92
    go_wp2_with fail
    refine (split_any s w hsh hs).mono ?_
    rintro e w' ⟨v, rfl, ho, hbl⟩
    go_wp2_with fail
    go_ret
    refine ⟨_, rfl, ?_, hbl⟩
    unfold Hog.cutC
    rw [if_neg h0]
    exact ho

end Go.Proofs.YtecjkkipglldlaaGreatDoor
/- The walks of package path: allParts. -/
namespace Go.Proofs.YtecjkkipglldlaaGreatDoor
open Go.RowKit

def parts (xs : List ByteArray) : List (List UInt8) := xs.map (·.data.toList)
theorem parts_mk (l : List (List UInt8)) : parts (l.map Hog.mk) = l := mk_map l
theorem parts_len (xs : List ByteArray) : (parts xs).length = xs.length := by simp [parts]

theorem all_step (xs : List ByteArray) (k : Nat) (x : ByteArray) (hx : xs[k]? = some x) (h : (parts (xs.take k)).all Hog.partL = true) (hp : Hog.partL x.data.toList = true) : (parts (xs.take (k + 1))).all Hog.partL = true := by
  obtain ⟨hk, rfl⟩ := List.getElem?_eq_some_iff.1 hx
  rw [List.take_succ_eq_append_getElem hk]
  unfold parts at *
  rw [List.map_append, List.all_append, h]
  simpa using hp
theorem all_fall (xs : List ByteArray) (k : Nat) (x : ByteArray) (hx : xs[k]? = some x) (hp : Hog.partL x.data.toList = false) : Hog.allP (parts xs) = false := by
  have hm : x ∈ xs := List.mem_of_getElem? hx
  unfold Hog.allP
  have : (parts xs).all Hog.partL = false := by
    rw [List.all_eq_false]
    exact ⟨x.data.toList, List.mem_map.2 ⟨x, hm, rfl⟩, by simp [hp]⟩
  rw [this, Bool.and_false]

theorem parts_none (a : Option Addr) (c : Nat) (w : World) :
    Calls Tryz.prog 91 #[.slice a 0 c] w fun e w' => e = .returned (.bool true) ∧ w' = w := by
  go_enter Tryz.func91, Tryz.ntmps91
  go_wp2
  go_loop [10] (fun i => i = .int .i64 0) (fun _ => 0)
  case atStart => rfl
  case round =>
    subst hrel
    go_wp2
    go_ret
    exact ⟨rfl, rfl⟩

theorem parts_many (a : Option Addr) (n c : Nat) (w : World) (hn : 10 < n) (hm : n < 1000000) :
    Calls Tryz.prog 91 #[.slice a n c] w fun e w' => e = .returned (.bool false) ∧ w' = w := by
  have h : (10 : Int) < (n : Int) := by omega
  go_enter Tryz.func91, Tryz.ntmps91
  go_wp2
  go_ret
  exact ⟨rfl, rfl⟩

set_option maxHeartbeats 400000 in
theorem parts_some (b o c : Nat) (xs : List ByteArray) (w : World) (h10 : xs.length ≤ 10) (hcell : ∀ (j : Nat) x, xs[j]? = some x → w.cell? ⟨b, o + j, none⟩ = some (.string x)) (hsz : ∀ x ∈ xs, x.size < 1000000) :
    Calls Tryz.prog 91 #[.slice (some ⟨b, o, none⟩) xs.length c] w fun e w' => e = .returned (.bool (Hog.allP (parts xs))) ∧ w' = w := by
  obtain ⟨n, hn⟩ : ∃ n, n = xs.length := ⟨_, rfl⟩
  have HC : Hid (∀ (j : Nat) x, xs[j]? = some x → w.cell? ⟨b, o + j, none⟩ = some (.string x)) := hcell
  have HZ : Hid (∀ x ∈ xs, x.size < 1000000) := hsz
  have HN : Hid (n = xs.length) := hn
  rw [← hn] at h10 ⊢
  clear hcell hsz hn
  have h10' : (n : Int) ≤ 10 := by omega
  go_enter Tryz.func91, Tryz.ntmps91
  go_wp2
  go_loop [10] (fun i => ∃ k : Nat, k ≤ n ∧ i = .int .i64 k ∧ Hid ((parts (xs.take k)).all Hog.partL = true)) (fun i => n - (intOf i).toNat)
  case atStart => exact ⟨0, Nat.zero_le _, rfl, rfl⟩
  case round =>
    obtain ⟨k, hk, rfl, hall⟩ := hrel
    by_cases hlt : k < n
    · obtain ⟨x, hx⟩ : ∃ x, xs[k]? = some x := ⟨xs[k]'(by have := HN.out; omega), List.getElem?_eq_some_iff.2 ⟨_, rfl⟩⟩
      have hc := HC.out k x hx
      have hxz := HZ.out x (List.mem_of_getElem? hx)
      have HX : Hid (xs[k]? = some x) := hx
      clear hx
      cases hp : Hog.partL x.data.toList with
      | true =>
        have HP : Hid (Hog.partL x.data.toList = true) := hp
        go_wp2_with (go_at_call 104; refine (part_any x _ hxz).mono ?_; rintro e w' ⟨rfl, rfl⟩)
        go_round
        case rel => exact ⟨k + 1, by omega, by go_num, all_step xs k x HX.out hall.out HP.out⟩
        case measure => simp [intOf]; omega
      | false =>
        have HP : Hid (Hog.partL x.data.toList = false) := hp
        go_wp2_with (go_at_call 104; refine (part_any x _ hxz).mono ?_; rintro e w' ⟨rfl, rfl⟩)
        go_ret
        exact ⟨ret_bool (all_fall xs k x HX.out HP.out).symm, rfl⟩
    · go_wp2
      go_ret
      refine ⟨ret_bool ?_, rfl⟩
      have e : k = xs.length := by have := HN.out; omega
      have h1 := hall.out
      rw [e, List.take_length] at h1
      unfold Hog.allP
      rw [h1, parts_len, ← HN.out]
      simp; omega

theorem parts_any (v : Value) (xs : List ByteArray) (w : World) (ht : Txt w v xs) (hl : xs.length < 1000000) (hsz : ∀ x ∈ xs, x.size < 1000000) :
    Calls Tryz.prog 91 #[v] w fun e w' => e = .returned (.bool (Hog.allP (parts xs))) ∧ w' = w := by
  rcases ht with ⟨rfl, a, c, rfl⟩ | ⟨b, o, c, rfl, _, _, hcell⟩
  · exact parts_none a c w
  · by_cases h : xs.length ≤ 10
    · exact parts_some b o c xs w h hcell hsz
    · refine (parts_many (some ⟨b, o, none⟩) xs.length c w (by omega) hl).mono ?_
      rintro e w' ⟨rfl, rfl⟩
      refine ⟨ret_bool ?_, rfl⟩
      unfold Hog.allP
      rw [parts_len]
      simp; omega

end Go.Proofs.YtecjkkipglldlaaGreatDoor
/- The walks of package path: May, Split, Under. -/
namespace Go.Proofs.YtecjkkipglldlaaGreatDoor
open Go.RowKit

theorem cut_sizes (l : List UInt8) (h : l.length < 1000000) : ∀ x ∈ (Hog.cutC l).map Hog.mk, x.size < 1000000 := by
  intro x hx
  obtain ⟨y, hy, rfl⟩ := List.mem_map.1 hx
  rw [Hog.mk_size]
  exact Nat.lt_of_le_of_lt (Hog.cutC_part_len l y hy) h
theorem cut_count (l : List UInt8) (h : l.length < 999999) : ((Hog.cutC l).map Hog.mk).length < 1000000 := by
  have := Hog.cutC_len l
  simp only [List.length_map]; omega

set_option maxHeartbeats 400000 in
theorem may_any (s : ByteArray) (w : World) (hsh : w.ShapedOpen Tryz.prog) (hs : s.size < 999999) :
    Calls Tryz.prog 72 #[.string s] w fun e w' => e = .returned (.bool (Hog.mayL s.data.toList)) ∧ Below w.heap.size w w' := by
  by_cases h : s.size ≤ 200
  · have h' : (s.size : Int) ≤ 200 := by omega
    go_enter Tryz.func72, Tryz.ntmps72
    go_wp2_with fail
    refine (cut_any s w hsh (by omega)).mono ?_
    rintro e w1 ⟨v, rfl, ho, hb⟩
    go_wp2_with fail
    refine (parts_any v _ w1 ho.txt (cut_count _ (by rw [← Hog.size_len]; exact hs)) (cut_sizes _ (by rw [← Hog.size_len]; omega))).mono ?_
    rintro e w2 ⟨rfl, rfl⟩
    go_wp2_with fail
    go_ret
    refine ⟨ret_bool ?_, hb⟩
    unfold Hog.mayL
    rw [parts_mk, ← Hog.size_len]
    simp [h]
  · have h' : (200 : Int) < (s.size : Int) := by omega
    go_enter Tryz.func72, Tryz.ntmps72
    go_wp2_with fail
    go_ret
    refine ⟨ret_bool ?_, Below.refl _ _⟩
    unfold Hog.mayL
    rw [← Hog.size_len]
    simp [h]

end Go.Proofs.YtecjkkipglldlaaGreatDoor
/- The walks of package path: Parent, Base, Join. -/
namespace Go.Proofs.YtecjkkipglldlaaGreatDoor
open Go.RowKit

theorem take_mk (s : ByteArray) (n : Nat) : s.extract 0 n = Hog.mk (s.data.toList.take n) := by
  rw [Lib.extract_eq]; simp [Hog.mk]
theorem drop_mk (s : ByteArray) (n : Nat) : s.extract n s.size = Hog.mk (s.data.toList.drop n) := by
  rw [← Hog.data_mk (s.extract n s.size), Lib.extract_to_end]

set_option maxHeartbeats 800000 in
theorem parent_any (p : ByteArray) (w : World) (hsh : w.ShapedOpen Tryz.prog) (hp : p.size < 999999) :
    Calls Tryz.prog 73 #[.string p] w fun e w' => e = .returned (.tuple #[.string (Hog.mk (Hog.parentL p.data.toList)), .bool (Hog.parentOk p.data.toList)]) ∧ Below w.heap.size w w' := by
  by_cases h0 : p.data.toList = []
  · have hb : p.toList.isEmpty = true := by rw [Lib.toList_data, h0]; rfl
    have HE : Hid (p.data.toList = []) := h0
    clear h0
    go_enter Tryz.func73, Tryz.ntmps73
    go_wp2_with fail
    go_ret2
    have ho : Hog.parentOk p.data.toList = false := by unfold Hog.parentOk; rw [HE.out]; rfl
    refine ⟨ret_two ?_ ho.symm, Below.refl _ _⟩
    unfold Hog.parentL
    rw [if_neg (by rw [ho]; decide)]
    rfl
  · have hb : p.toList.isEmpty = false := by rw [Lib.toList_data]; simpa using h0
    have HE : Hid (¬ p.data.toList = []) := h0
    clear h0
    cases hm : Hog.mayL p.data.toList with
    | false =>
      have HM : Hid (Hog.mayL p.data.toList = false) := hm
      go_enter Tryz.func73, Tryz.ntmps73
      go_wp2_with fail
      refine (may_any p w hsh hp).mono ?_
      rintro e w1 ⟨rfl, hb1⟩
      go_wp2_with fail
      go_ret2
      have ho : Hog.parentOk p.data.toList = false := by unfold Hog.parentOk; rw [HM.out, Bool.and_false]
      refine ⟨ret_two ?_ ho.symm, hb1⟩
      unfold Hog.parentL
      rw [if_neg (by rw [ho]; decide)]
      rfl
    | true =>
      have HM : Hid (Hog.mayL p.data.toList = true) := hm
      obtain ⟨l, hl⟩ : ∃ l, l = Lib.lastIndexByte p 47 := ⟨_, rfl⟩
      have HL : Hid (l = Lib.lastIndexByte p 47) := hl
      have hlb := Hog.last_bounds p
      rw [← hl] at hlb
      obtain ⟨hl1, hl2⟩ := hlb
      clear hm hl
      go_enter Tryz.func73, Tryz.ntmps73
      go_wp2_with fail
      refine (may_any p w hsh hp).mono ?_
      rintro e w1 ⟨rfl, hb1⟩
      rw [HM.out]
      go_wp2_with fail
      refine (Tryz.strings_LastIndexByte p 47 (by omega) w1).mono ?_
      rintro e w2 ⟨rfl, rfl⟩
      rw [← HL.out]
      go_wp2_with fail
      go_ret2
      have ho : Hog.parentOk p.data.toList = true := by unfold Hog.parentOk; rw [HM.out]; simpa using HE.out
      refine ⟨ret_two ?_ ho.symm, hb1⟩
      unfold Hog.parentL
      rw [if_pos ho, Hog.parent_take, ← HL.out, ← take_mk]
/-- What Join answers. -/
def joinV (xs : List (List UInt8)) : List UInt8 := if Hog.joinOk xs = true then Hog.joinS xs else []

theorem join_len (xs : List (List UInt8)) (h : Hog.allP xs = true) : (Hog.joinS xs).length ≤ 1000 := by
  unfold Hog.allP at h
  simp only [Bool.and_eq_true, decide_eq_true_eq, List.all_eq_true] at h
  obtain ⟨h1, h2⟩ := h
  exact Nat.le_trans (Hog.join_len_le xs 60 (fun x hx => (Hog.part_parts (h2 x hx)).2.1)) (by omega)

/-- What stands at a path that is not the root. -/
theorem back_facts {p : List UInt8} (hp : p ≠ []) (hm : Hog.mayL p = true) :
    ∃ q x : List UInt8, Hog.parentL p = q ∧ Hog.parentOk p = true ∧ Hog.baseL p = x ∧ Hog.mayL q = true ∧ Hog.partL x = true ∧ Hog.splitL p = Hog.splitL q ++ [x] ∧ joinV (Hog.splitL p) = p ∧ Hog.joinOk (Hog.splitL p) = true ∧
      Hog.underL p q = true ∧ Hog.underL q p = false ∧ Hog.underL p p = true ∧ Hog.underL p [] = true ∧ q.length ≤ 200 ∧ x.length ≤ 60 ∧ (Hog.splitL q).length ≤ 10 ∧ ∀ y ∈ Hog.splitL p, y.length ≤ 60 := by
  obtain ⟨q, x, h1, h2, h3, h4, h5⟩ := Hog.back_parts hp hm
  have sp : Hog.splitL p = Hog.cutC p := by unfold Hog.splitL; rw [if_pos hm]
  have sq : Hog.splitL q = Hog.cutC q := by unfold Hog.splitL; rw [if_pos h3]
  have hj := Hog.joinOk_cut hm
  have hu := Hog.under_parent hm h3 (Hog.part_parts h4).1 h5
  refine ⟨q, x, h1, ?_, h2, h3, h4, by rw [sp, sq, h5], ?_, by rw [sp]; exact hj, hu.1, hu.2, Hog.under_self hm, Hog.under_root hm, (Hog.may_parts h3).1, (Hog.part_parts h4).2.1, by rw [sq]; exact (Hog.may_parts h3).2.1, ?_⟩
  · unfold Hog.parentOk; rw [hm]; simpa using hp
  · unfold joinV; rw [sp, if_pos hj, Hog.join_cutC]
  · intro y hy
    rw [sp] at hy
    exact (Hog.part_parts (List.all_eq_true.1 (Hog.may_parts hm).2.2 y hy)).2.1

end Go.Proofs.YtecjkkipglldlaaGreatDoor
/- The walk of the statements' own SameTexts. -/
namespace Go.Proofs.YtecjkkipglldlaaGreatDoor
open Go.RowKit

theorem same_less (a b : Option Addr) (n m c d : Nat) (w : World) (h : n ≠ m) :
    Calls Tryz.prog 20 #[.slice a n c, .slice b m d] w fun e w' => e = .returned (.bool false) ∧ w' = w := by
  have h1 : ((n : Int) != (m : Int)) = true := by rw [bne_iff_ne]; omega
  go_enter Tryz.func20, Tryz.ntmps20
  go_wp2
  go_ret
  exact ⟨rfl, rfl⟩
theorem same_none (a b : Option Addr) (c d : Nat) (w : World) :
    Calls Tryz.prog 20 #[.slice a 0 c, .slice b 0 d] w fun e w' => e = .returned (.bool true) ∧ w' = w := by
  go_enter Tryz.func20, Tryz.ntmps20
  go_wp2
  go_loop [5] (fun i => i = .int .i64 0) (fun _ => 0)
  case atStart => rfl
  case round =>
    subst hrel
    go_wp2
    go_ret
    exact ⟨rfl, rfl⟩
theorem take_same {xs ys : List ByteArray} {k : Nat} {x y : ByteArray} (h : xs.take k = ys.take k) (hx : xs[k]? = some x) (hy : ys[k]? = some y) (e : x = y) : xs.take (k + 1) = ys.take (k + 1) := by
  subst e
  obtain ⟨h1, rfl⟩ := List.getElem?_eq_some_iff.1 hx
  obtain ⟨h2, e2⟩ := List.getElem?_eq_some_iff.1 hy
  rw [List.take_succ_eq_append_getElem h1, List.take_succ_eq_append_getElem h2, h, e2]

set_option maxHeartbeats 800000 in
theorem same_some (b o c b' o' c' n : Nat) (xs ys : List ByteArray) (w : World) (hn : n < 1000000) (hnx : n = xs.length) (hny : n = ys.length)
    (hb : b < w.heap.size) (hb' : b' < w.heap.size)
    (hx : ∀ (j : Nat) x, xs[j]? = some x → w.cell? ⟨b, o + j, none⟩ = some (.string x)) (hy : ∀ (j : Nat) x, ys[j]? = some x → w.cell? ⟨b', o' + j, none⟩ = some (.string x)) :
    Calls Tryz.prog 20 #[.slice (some ⟨b, o, none⟩) n c, .slice (some ⟨b', o', none⟩) n c'] w fun e w' => e = .returned (.bool (decide (xs = ys))) ∧ Below w.heap.size w w' := by
  have HX := hx
  have HCX : Hid (∀ (j : Nat) x, xs[j]? = some x → w.cell? ⟨b, o + j, none⟩ = some (.string x)) := hx
  have HCY : Hid (∀ (j : Nat) x, ys[j]? = some x → w.cell? ⟨b', o' + j, none⟩ = some (.string x)) := hy
  have HNX : Hid (n = xs.length) := hnx
  have HNY : Hid (n = ys.length) := hny
  clear hx hy hnx hny HX
  have hne : ((n : Int) != (n : Int)) = false := by simp
  go_enter Tryz.func20, Tryz.ntmps20
  go_wp2
  go_loopw [5] (fun i wr => ∃ k : Nat, k ≤ n ∧ i = .int .i64 k ∧ Hid (xs.take k = ys.take k) ∧ Below w.heap.size w wr) (fun i _ => n - (intOf i).toNat)
  case atStart => exact ⟨0, Nat.zero_le _, rfl, rfl, Below.refl _ _⟩
  case round =>
    obtain ⟨k, hk, rfl, hsame, hbl⟩ := hrel
    by_cases hlt : k < n
    · obtain ⟨x, hx⟩ : ∃ x, xs[k]? = some x := ⟨xs[k]'(by have := HNX.out; omega), List.getElem?_eq_some_iff.2 ⟨_, rfl⟩⟩
      obtain ⟨y, hy⟩ : ∃ y, ys[k]? = some y := ⟨ys[k]'(by have := HNY.out; omega), List.getElem?_eq_some_iff.2 ⟨_, rfl⟩⟩
      have hcx : wr.cell? ⟨b, o + k, none⟩ = some (.string x) := (hbl.cell (p := ⟨b, o + k, none⟩) hb).trans (HCX.out k x hx)
      have hcy : wr.cell? ⟨b', o' + k, none⟩ = some (.string y) := (hbl.cell (p := ⟨b', o' + k, none⟩) hb').trans (HCY.out k y hy)
      have hki : (k : Int) < (n : Int) := by omega
      have HXK : Hid (xs[k]? = some x) := hx
      have HYK : Hid (ys[k]? = some y) := hy
      clear hx hy
      go_wp2
      go_quiet (fail)
      go_wp2
      · have hne : (!x.toList == y.toList) = true := by assumption
        go_ret
        refine ⟨ret_bool ?_, below_drewN hbl nq⟩
        symm
        rw [decide_eq_false_iff_not]
        intro e
        have h3 : x = y := Option.some.inj (HXK.out.symm.trans ((congrArg (fun l => l[k]?) e).trans HYK.out))
        rw [h3] at hne
        simp at hne
      · have heq : (!x.toList == y.toList) = false := by assumption
        have he : x = y := by
          have h3 : x.toList = y.toList := by simpa using heq
          rw [Lib.toList_data, Lib.toList_data] at h3
          rw [← Hog.data_mk x, ← Hog.data_mk y, h3]
        go_roundw
        case rel => exact ⟨k + 1, by omega, by go_num, take_same hsame.out HXK.out HYK.out he, below_drewN hbl nq⟩
        case measure => simp [intOf]; omega
    · go_wp2
      go_ret
      refine ⟨ret_bool ?_, hbl⟩
      have e : k = n := by omega
      have h1 := hsame.out
      rw [e] at h1
      have h2 : xs = ys := by
        rw [HNX.out] at h1
        have h3 := HNX.out.symm.trans HNY.out
        rw [List.take_length] at h1
        rw [h1, h3, List.take_length]
      rw [h2]; simp
theorem same_any (v u : Value) (xs ys : List ByteArray) (w : World) (hv : Txt w v xs) (hu : Txt w u ys) (hx : xs.length < 1000000) :
    Calls Tryz.prog 20 #[v, u] w fun e w' => e = .returned (.bool (decide (xs = ys))) ∧ Below w.heap.size w w' := by
  by_cases hl : xs.length = ys.length
  · rcases hv with ⟨rfl, a, c, rfl⟩ | ⟨b, o, c, rfl, hc, hb, hcell⟩
    · have hy : ys = [] := List.eq_nil_of_length_eq_zero hl.symm
      subst hy
      rcases hu with ⟨_, a', c', rfl⟩ | ⟨b', o', c', rfl, _, _, _⟩
      · refine (same_none a a' c c' w).mono ?_
        rintro e w' ⟨rfl, rfl⟩
        exact ⟨rfl, Below.refl _ _⟩
      · refine (same_none a (some ⟨b', o', none⟩) c c' w).mono ?_
        rintro e w' ⟨rfl, rfl⟩
        exact ⟨rfl, Below.refl _ _⟩
    · rcases hu with ⟨rfl, a', c', rfl⟩ | ⟨b', o', c', rfl, _, hb', hcell'⟩
      · have hx0 : xs = [] := List.eq_nil_of_length_eq_zero hl
        subst hx0
        refine (same_none (some ⟨b, o, none⟩) a' c c' w).mono ?_
        rintro e w' ⟨rfl, rfl⟩
        exact ⟨rfl, Below.refl _ _⟩
      · rw [← hl]
        exact same_some b o c b' o' c' xs.length xs ys w hx rfl hl hb hb' hcell hcell'
  · have he : decide (xs = ys) = false := by rw [decide_eq_false_iff_not]; intro e; exact hl (congrArg List.length e)
    rw [he]
    have hv' : ∃ a c, v = .slice a xs.length c := by
      rcases hv with ⟨rfl, a, c, rfl⟩ | ⟨b, o, c, rfl, _⟩
      · exact ⟨a, c, rfl⟩
      · exact ⟨_, c, rfl⟩
    have hu' : ∃ a c, u = .slice a ys.length c := by
      rcases hu with ⟨rfl, a, c, rfl⟩ | ⟨b, o, c, rfl, _⟩
      · exact ⟨a, c, rfl⟩
      · exact ⟨_, c, rfl⟩
    obtain ⟨a, c, rfl⟩ := hv'
    obtain ⟨a', c', rfl⟩ := hu'
    refine (same_less a a' xs.length ys.length c c' w hl).mono ?_
    rintro e w' ⟨rfl, rfl⟩
    exact ⟨rfl, Below.refl _ _⟩
end Go.Proofs.YtecjkkipglldlaaGreatDoor
/- The walk of the statements' own awake: what every program answers that is one. -/
namespace Go.Proofs.YtecjkkipglldlaaGreatDoor
open Go.RowKit

theorem Txt.two (w : World) (x y : ByteArray) : Txt (w.alloc (.cells #[.string x, .string y] 9)) (.slice (some ⟨w.heap.size, 0, none⟩) 2 2) [x, y] := by
  refine .inr ⟨w.heap.size, 0, 2, rfl, by simp, by simp, fun j z hz => ?_⟩
  match j, hz with
  | 0, hz => simp at hz; subst hz; simp
  | 1, hz => simp at hz; subst hz; simp
  | j + 2, hz => simp at hz

theorem aw_may : Hog.mayL (ByteArray.mk #[]).data.toList = true := by decide +kernel
end Go.Proofs.YtecjkkipglldlaaGreatDoor
/- The contracts of package path, said of a world behind a first one, each answer under a name of its own. -/
namespace Go.Proofs.YtecjkkipglldlaaGreatDoor
open Go.RowKit

/-- A world behind w0, which has the program's shape, in which nothing that was there has turned. -/
def Ok (w0 w : World) : Prop := w0.ShapedOpen Tryz.prog ∧ Below w0.heap.size w0 w
theorem Ok.start {w : World} (h : w.ShapedOpen Tryz.prog) : Ok w w := ⟨h, Below.refl _ _⟩
theorem Ok.step {w0 w w' : World} (h : Ok w0 w) (hb : Below w0.heap.size w w') : Ok w0 w' := ⟨h.1, h.2.trans hb⟩
theorem Ok.next {w0 w w' : World} (h : Ok w0 w) (hb : Below w.heap.size w w') : Ok w0 w' := ⟨h.1, below_two h.2 hb⟩
theorem Ok.shape {w0 w : World} (h : Ok w0 w) : w.ShapedOpen Tryz.prog := shape_below h.1 h.2
theorem Ok.size {w0 w : World} (h : Ok w0 w) : w0.heap.size ≤ w.heap.size := h.2.size
theorem Ok.alloc {w0 w : World} (h : Ok w0 w) (o : Obj) : Ok w0 (w.alloc o) := h.next ((Below.refl _ _).alloc (Nat.le_refl _) _)
theorem below_alloc (w : World) (o : Obj) : Below w.heap.size w (w.alloc o) := (Below.refl _ _).alloc (Nat.le_refl _) _

theorem may_ok (p : ByteArray) (b : Bool) (w0 w : World) (h : Ok w0 w) (hp : p.size < 999999) (hv : Hog.mayL p.data.toList = b) :
    Calls Tryz.prog 72 #[.string p] w fun e w' => e = .returned (.bool b) ∧ Ok w0 w' ∧ Below w.heap.size w w' := by
  refine (may_any p w h.shape hp).mono ?_
  rintro e w' ⟨rfl, hb⟩
  exact ⟨ret_bool hv, h.next hb, hb⟩
theorem Own.form {base : Nat} {w : World} {v : Value} {xs : List ByteArray} (h : Own base w v xs) : ∃ a c, v = .slice a xs.length c := by
  obtain ⟨_, h2⟩ := h
  rcases h2 with ⟨rfl, h0⟩ | ⟨g, cap, cur, rfl, _⟩
  · exact ⟨none, 0, by rw [h0]⟩
  · exact ⟨_, _, rfl⟩
theorem parent_ok (p : ByteArray) (q : List UInt8) (b : Bool) (w0 w : World) (h : Ok w0 w) (hp : p.size < 999999) (hv : Hog.parentL p.data.toList = q) (hb : Hog.parentOk p.data.toList = b) :
    Calls Tryz.prog 73 #[.string p] w fun e w' => e = .returned (.tuple #[.string (Hog.mk q), .bool b]) ∧ Ok w0 w' ∧ Below w.heap.size w w' := by
  refine (parent_any p w h.shape hp).mono ?_
  rintro e w' ⟨rfl, hbl⟩
  exact ⟨ret_two (by rw [hv]) hb, h.next hbl, hbl⟩
theorem part_ok (x : List UInt8) (b : Bool) (w : World) (hp : x.length < 999999) (hv : Hog.partL x = b) :
    Calls Tryz.prog 104 #[.string (Hog.mk x)] w fun e w' => e = .returned (.bool b) ∧ w' = w := by
  refine (part_any (Hog.mk x) w (by rw [Hog.mk_size]; omega)).mono ?_
  rintro e w' ⟨rfl, rfl⟩
  exact ⟨ret_bool (by rw [Hog.mk_data]; exact hv), rfl⟩
theorem mk_inj {x y : List UInt8} (h : Hog.mk x = Hog.mk y) : x = y := by rw [← Hog.mk_data x, h, Hog.mk_data]
theorem map_mk_inj {l m : List (List UInt8)} (h : l.map Hog.mk = m.map Hog.mk) : l = m := by
  rw [← parts_mk l, h, parts_mk]
theorem same_ok (v u : Value) (l m : List (List UInt8)) (b : Bool) (w0 w : World) (h : Ok w0 w) (hv : Txt w v (l.map Hog.mk)) (hu : Txt w u (m.map Hog.mk)) (hl : l.length < 1000000) (hb : decide (l = m) = b) :
    Calls Tryz.prog 20 #[v, u] w fun e w' => e = .returned (.bool b) ∧ Ok w0 w' ∧ Below w.heap.size w w' := by
  refine (same_any v u _ _ w hv hu (by simpa using hl)).mono ?_
  rintro e w' ⟨rfl, hbl⟩
  refine ⟨ret_bool ?_, h.next hbl, hbl⟩
  rw [← hb]
  by_cases e : l = m
  · rw [e]; simp
  · rw [decide_eq_false e, decide_eq_false (fun h => e (map_mk_inj h))]
/-- An append of one text, or of several, onto texts of one's own. -/
theorem A9 : (Tryz.prog.info? 9).map (fun i => (i.zero, i.size, i.bytes)) = some (some (.string ByteArray.empty), 1, 16) := by kernel_rfl
theorem Own.joined {base : Nat} {w : World} {v : Value} {n : Nat} {xs ys : List ByteArray} (h : w.ownsRow base 9 1 v n (xs.map Value.string ++ ys.map Value.string)) : Own base w v (xs ++ ys) := by
  have hn : n = (xs ++ ys).length := by have := h.1; simp at this; simp; omega
  subst hn
  rw [← List.map_append] at h
  exact h
theorem Own.grownBelow {base : Nat} {w w' : World} {v : Value} {xs : List ByteArray} (h : Own base w v xs) (hg : w.grownBy w' v.ownBlock) (hB : base ≤ w.heap.size) : Below base w w' :=
  (Below.refl base w).grown hg hB (fun k hk => (h.lt k hk).1)

end Go.Proofs.YtecjkkipglldlaaGreatDoor
/- An append of texts onto texts of one's own, as a law for a walk. -/
namespace Go.Proofs.YtecjkkipglldlaaGreatDoor
open Go.RowKit

theorem wpList_append_texts {w : World} {ops : Array Oper} {rest : List Oper} {o : Oper} {a : Act} {Q : Exit → Act → World → Prop} (hgd : o.guard = none) (s x : Operand)
    (ho : o.op = .call { callee := .builtin .append, args := #[s, x], argTypes := #[31, 31] })
    (base base' : Nat) (v u : Value) (xs ys : List ByteArray) (hs : a.eval s = v) (hown : Own base w v xs) (hx : a.eval x = u) (hu : Own base' w u ys)
    (hlen : xs.length + ys.length < 1000000) (hbase : base ≤ w.heap.size)
    (h : ∀ b c w', Own base w' (.slice b (xs.length + ys.length) c) (xs ++ ys) → Below base w w' → wpList Tryz.prog ops Q rest (a.put o.dst (.slice b (xs.length + ys.length) c)) w') : wpList Tryz.prog ops Q (o :: rest) a w := by
  obtain ⟨i0, hi, hz0, hz1, hz2⟩ := info_parts A9
  have hu0 := hu
  obtain ⟨_, hu2⟩ := hu
  rcases hu2 with ⟨rfl, h0⟩ | ⟨g, cap, cur, rfl, hb, hg, hn, hm, hsz, ht⟩
  · have hy : ys = [] := List.eq_nil_of_length_eq_zero h0
    subst hy
    obtain ⟨b, c, e⟩ := hown.form
    subst e
    refine wpList_append_own_none hgd s x 31 ho base 9 i0 1 Tryz.underlying31 hi _ _ _ hs hown hx ?_
    exact h b c w (by simpa using hown) (Below.refl _ _)
  · refine wpList_append_own w hgd s x 31 ho base 9 i0 (.string ByteArray.empty) 1 16 Tryz.underlying31 hi hz0 hz1 hz2 rfl (by decide) v xs.length (xs.map Value.string) hs hown ⟨g, 0, none⟩ ys.length cap (ys.map Value.string) hx (by simp) ?_ ?_ (by unfold maxLen; omega) (by omega) hbase ?_
    · exact hu0.cells (g := g) rfl
    · intro z hz
      obtain ⟨y, _, rfl⟩ := List.mem_map.1 hz
      rfl
    · intro v' w' h1 h2 _
      have h3 : Own base w' v' (xs ++ ys) := Own.joined h1
      obtain ⟨b, c, e⟩ := h3.form
      rw [List.length_append] at e
      subst e
      exact h b c w' h3 (Own.grownBelow hown h2 hbase)

end Go.Proofs.YtecjkkipglldlaaGreatDoor
