/- The walk of the statement TreeFilters: for every nodes and every number it answers true. -/
import Derived.Test.YtdgchinfanialaaDoorL22
namespace Go.Proofs.YtdgchinfanialaaDoor
open Go.RowKit

theorem apart_new {w : World} {ao : Option Addr} {n c : Nat} {ns : List Nd} (h : ArgN w ao n c ns) (hne : ns ≠ []) : Apart ao w.heap.size := by
  intro ad e he
  cases ns with
  | nil => exact hne rfl
  | cons x r =>
    have h0 := h.cell ad e 0 (.string x.1) rfl
    rw [addN_zero] at h0
    have := (addrN_plain h0).2
    omega

/-- Two rows that are being filled, of a loop. -/
structure St (B : Nat) (w wr : World) (s1 s2 : Value) (xs ys : List Nd) : Prop where
  one : OwnN B wr s1 xs
  two : OwnN B wr s2 ys
  apart : Two s1 s2
  below : Below B w wr
theorem St.alloc {B : Nat} {w wr : World} {s1 s2 : Value} {xs ys : List Nd} (h : St B w wr s1 s2 xs ys) (hB : B ≤ wr.heap.size) (o : Obj) : St B w (wr.alloc o) s1 s2 xs ys :=
  ⟨h.one.alloc o, h.two.alloc o, h.apart, h.below.alloc hB o⟩
theorem St.first {B : Nat} {w wr w' : World} {s1 s2 s : Value} {xs ys xs' : List Nd} (h : St B w wr s1 s2 xs ys) (hB : B ≤ wr.heap.size) (ho : OwnN B w' s xs') (hg : wr.grownBy w' s1.ownBlock) (hs : Stays wr s1 s) : St B w w' s s2 xs' ys :=
  ⟨ho, h.apart.kept hg h.two, h.apart.stays hs h.two, h.below.trans (h.one.grownBelow hg hB)⟩
theorem St.second {B : Nat} {w wr w' : World} {s1 s2 s : Value} {xs ys ys' : List Nd} (h : St B w wr s1 s2 xs ys) (hB : B ≤ wr.heap.size) (ho : OwnN B w' s ys') (hg : wr.grownBy w' s2.ownBlock) (hs : Stays wr s2 s) : St B w w' s1 s xs ys' :=
  ⟨h.apart.symm.kept hg h.one, ho, (h.apart.symm.stays hs h.one).symm, h.below.trans (h.two.grownBelow hg hB)⟩

set_option maxHeartbeats 400000 in
theorem filters_great (ao : Option Addr) (n c : Nat) (ns : List Nd) (kind : Int) (w : World) (hsh : w.ShapedOpen Tryd.prog) (h : ArgN w ao n c ns) (hm : n ≤ maxLen) (hg : greatN 60 ns = true) :
    Calls Tryd.prog 6 #[.slice ao n c, .int .i64 kind] w fun e w' => e = .returned (.bool true) ∧ Below w.heap.size w w' := by
  have HA := hide h
  have HG := hide hg
  have HL := hide h.len
  clear h hg
  go_enter Tryd.func6, Tryd.ntmps6
  go_wp2_with fail
  refine (greatN_ok _ 60 ns true w HA.out.nods (by rw [HL.out]; exact hm) (by decide) (by decide) HG.out).mono ?_
  rintro e w1 ⟨rfl, rfl⟩
  go_wp2_with fail
  refine (awake2_any _ _ (Ok.start hsh)).mono ?_
  rintro e w2 ⟨rfl, ok2, _⟩
  go_wp2_with fail
  go_ret
  exact ⟨rfl, ok2.2⟩

set_option maxRecDepth 100000 in
set_option maxHeartbeats 4000000 in
theorem filters_few (ao : Option Addr) (n c : Nat) (ns : List Nd) (kind : Int) (w : World) (hsh : w.ShapedOpen Tryd.prog) (h : ArgN w ao n c ns) (hg : greatN 60 ns = false) :
    Calls Tryd.prog 6 #[.slice ao n c, .int .i64 kind] w fun e w' => e = .returned (.bool true) ∧ Below w.heap.size w w' := by
  have HA := hide h
  have HG := hide hg
  have HL := hide h.len
  have hn60 : n ≤ 60 := by have := (greatN_not hg).1; rw [h.len] at this; omega
  clear h hg
  go_enter Tryd.func6, Tryd.ntmps6
  go_wp2_with fail
  refine (greatN_ok _ 60 ns false w HA.out.nods (by rw [HL.out]; unfold maxLen; omega) (by decide) (by decide) HG.out).mono ?_
  rintro e w1 ⟨rfl, rfl⟩
  go_wp2_with fail
  refine (low_any kind 4 _ (by decide) (by decide)).mono ?_
  rintro e w1 ⟨r, rfl, hr, rfl⟩
  go_wp2_with fail
  have HK1 : Hid (KindsAt (w1.alloc (.cells #[.int .i64 (1 + (r : Int)), .int .i64 0] 38)) w1.heap.size (1 + (r : Int)) (0 : Nat)) := heap_alloc_new w1 _
  have HBX := hide (below_box w1 (.cells #[.int .i64 (1 + (r : Int)), .int .i64 0] 38))
  refine (filter_is w1.heap.size (1 + (r : Int)) 0 ao n c ns _ (apart_new HA.out) HK1.out (by decide) (HA.out.below HBX.out) (by omega)).mono ?_
  rintro e w2 ⟨va, rfl, hoa, hka, hga⟩
  have hs1 : (w1.alloc (.cells #[.int .i64 (1 + (r : Int)), .int .i64 0] 38)).heap.size = w1.heap.size + 1 := by simp
  rw [hs1] at hoa
  rw [Nat.zero_add] at hka
  have HB2 := hide (HBX.out.trans (below_grown hga (by rw [hs1]; omega) (fun k e => by cases e; exact Nat.le_refl _)))
  have hz2 : w1.heap.size + 1 ≤ w2.heap.size := by have := hga.size; rw [hs1] at this; exact this
  have HOA2 := hide hoa
  have HK2 := hide hka
  clear hoa hka hga hs1 HBX HK1
  go_wp2_with fail
  refine (filter_plain ao n c ns w2 (HA.out.below HB2.out) (by omega)).mono ?_
  rintro e w3 ⟨vb, rfl, hob, hgb⟩
  have HB23 := hide (below_grown hgb (Nat.le_refl _) (fun k e => by cases e))
  have HB3 := hide (below_two HB2.out HB23.out)
  have HOA3 := hide (HOA2.out.below HB23.out)
  have HK3 := hide (HK2.out.below HB23.out (by omega))
  have HOB3 := hide hob
  have hz3 : w2.heap.size ≤ w3.heap.size := HB23.out.size
  clear hob hgb HK2
  go_wp2_with fail
  refine (filter_nil ao n c ns w3 (HA.out.below HB3.out) (by omega)).mono ?_
  rintro e w4 ⟨vc, rfl, hoc, hgc⟩
  have HB34 := hide hgc
  have HB4 := hide (below_two HB3.out hgc)
  have HOA4 := hide (HOA3.out.below hgc)
  have HK4 := hide (HK3.out.below hgc (by omega))
  have HOB4 := hide (HOB3.out.below hgc)
  have HOC4 := hide hoc
  have hz4 : w3.heap.size ≤ w4.heap.size := hgc.size
  clear hoc hgc HK3 HOB3 HOA3
  go_wp2
  go_loopw [9, 10, 11] (fun s1 s2 i wr => ∃ k : Nat, k ≤ n ∧ i = .int .i64 k ∧ Hid (St w4.heap.size w4 wr s1 s2 ((ns.take k).filter fun x => x.2.1 == 1 + (r : Int)) ((ns.take k).filter fun x => x.2.1 == 2))) (fun _ _ i _ => n - (intOf i).toNat)
  case atStart => exact ⟨0, Nat.zero_le _, rfl, ⟨OwnN.nil _ _, OwnN.nil _ _, Two.nil _, Below.refl _ _⟩⟩
  case round =>
    obtain ⟨k, hk, rfl, HS⟩ := hrel
    by_cases hlt : k < n
    · obtain ⟨x, hx⟩ : ∃ x, ns[k]? = some x := ⟨ns[k]'(by have := HL.out; omega), List.getElem?_eq_some_iff.2 ⟨_, rfl⟩⟩
      have hne : ns ≠ [] := by intro e; rw [e] at hx; simp at hx
      obtain ⟨b, o, c', e, _, hrun⟩ : ∃ b o c', Value.slice ao n c = .slice (some ⟨b, o, none⟩) ns.length c' ∧ ns.length ≤ c' ∧ Run w1 b o ns := by
        rcases HA.out.nods with ⟨e, _⟩ | h5
        · exact absurd e hne
        · exact h5
      simp only [Value.slice.injEq] at e
      obtain ⟨rfl, e2, rfl⟩ := e
      have HRN := hide hrun
      have HX := hide hx
      have hlb : b < w4.heap.size := Nat.lt_of_lt_of_le hrun.1 HB4.out.size
      obtain ⟨g1, g2, g3⟩ := ((hrun.2 k x hx).below HB4.out hrun.1).below HS.out.below hlb
      have hzr := HS.out.below.size
      have hfl := filter_len ns k fun x => x.2.1 == 1 + (r : Int)
      have hfl2 := filter_len ns k fun x => x.2.1 == 2
      clear hx hne hrun e2
      have gat := fun (W : World) (hb : Below w4.heap.size w4 W) => ((HRN.out.2 k x HX.out).below HB4.out HRN.out.1).below hb hlb
      have HGAT := hide gat
      clear gat
      cases hp : (x.2.1 == 1 + (r : Int)) with
      | true =>
          have HP := hide hp
          have HSA := hide (HS.out.alloc hzr (.cells #[.string x.1, .int .i64 x.2.1, .string x.2.2] 24))
          have HRX := hide ((Run.one wr x).arg (c := 1) (by simp))
          go_wp2_with (at_builtin; refine wpList_append_where rfl _ _ rfl w4.heap.size _ ((ns.take k).filter fun x => x.2.1 == 1 + (r : Int)) rfl HSA.out.one _ _ _ [x] rfl HRX.out (by simp; omega) (by simp; omega) ?_)
          intro b5 c5 w5 ho hg hst
          have HS5 := hide (St.first HSA.out (by simp; omega) ho hg hst)
          have hz5 := HS5.out.below.size
          obtain ⟨g1, g2, g3⟩ := HGAT.out w5 HS5.out.below
          clear ho hg hst HSA HRX
          cases hq : (x.2.1 == (2 : Int)) with
          | true =>
            have HQ := hide hq
            have HSB := hide (HS5.out.alloc hz5 (.cells #[.string x.1, .int .i64 x.2.1, .string x.2.2] 24))
            have HRY := hide ((Run.one w5 x).arg (c := 1) (by simp))
            go_wp2_with (at_builtin; refine wpList_append_where rfl _ _ rfl w4.heap.size _ ((ns.take k).filter fun x => x.2.1 == 2) rfl HSB.out.two _ _ _ [x] rfl HRY.out (by simp; omega) (by simp; omega) ?_)
            intro b6 c6 w6 ho hg hst
            have HS6 := hide (St.second HSB.out (by simp; omega) ho hg hst)
            clear ho hg hst
            go_wp2
            go_roundw
            case rel => exact ⟨k + 1, by omega, by go_num, by rw [filter_step HX.out, filter_step HX.out, if_pos HP.out, if_pos HQ.out]; exact HS6⟩
            case measure => simp [intOf]; omega
          | false =>
            have HQ := hide hq
            go_wp2
            go_roundw
            case rel => exact ⟨k + 1, by omega, by go_num, by rw [filter_step HX.out, filter_step HX.out, if_pos HP.out, if_neg (by rw [HQ.out]; decide), List.append_nil]; exact HS5⟩
            case measure => simp [intOf]; omega
      | false =>
          have HP := hide hp
          cases hq : (x.2.1 == (2 : Int)) with
          | true =>
            have HQ := hide hq
            have HSB := hide (HS.out.alloc hzr (.cells #[.string x.1, .int .i64 x.2.1, .string x.2.2] 24))
            have HRY := hide ((Run.one wr x).arg (c := 1) (by simp))
            go_wp2_with (at_builtin; refine wpList_append_where rfl _ _ rfl w4.heap.size _ ((ns.take k).filter fun x => x.2.1 == 2) rfl HSB.out.two _ _ _ [x] rfl HRY.out (by simp; omega) (by simp; omega) ?_)
            intro b6 c6 w6 ho hg hst
            have HS6 := hide (St.second HSB.out (by simp; omega) ho hg hst)
            clear ho hg hst
            go_wp2
            go_roundw
            case rel => exact ⟨k + 1, by omega, by go_num, by rw [filter_step HX.out, filter_step HX.out, if_neg (by rw [HP.out]; decide), List.append_nil, if_pos HQ.out]; exact HS6⟩
            case measure => simp [intOf]; omega
          | false =>
            have HQ := hide hq
            go_wp2
            go_roundw
            case rel => exact ⟨k + 1, by omega, by go_num, by rw [filter_step HX.out, filter_step HX.out, if_neg (by rw [HP.out]; decide), List.append_nil, if_neg (by rw [HQ.out]; decide), List.append_nil]; exact HS⟩
            case measure => simp [intOf]; omega
    · have hkn : k = n := by omega
      have HS1 : Hid (St w4.heap.size w4 wr u9 u10 (ns.filter fun x => x.2.1 == 1 + (r : Int)) (ns.filter fun x => x.2.1 == 2)) := by
        have h5 := HS.out
        rw [hkn, ← HL.out, List.take_length] at h5
        exact h5
      clear hkn HS
      have hzr := HS1.out.below.size
      have hlx : ∀ p : Nd → Bool, (ns.filter p).length ≤ 60 := fun p => by have := List.length_filter_le p ns; rw [HL.out] at this; omega
      have hnn : ((n : Int) == (n : Int)) = true := by simp
      have HB4r := hide HS1.out.below
      have HAr := hide (HOA4.out.below HB4r.out)
      have HBr := hide (HOB4.out.below HB4r.out)
      have HCr := hide (HOC4.out.below HB4r.out)
      have HKr := hide (HK4.out.below HB4r.out (by omega))
      have HBw := hide (below_two HB4.out HB4r.out)
      have HLX := hide hlx
      clear hlx
      go_wp2_with fail
      refine (sameN_any va u9 _ _ wr HAr.out.nods HS1.out.one.nods (by have := HLX.out fun x => x.2.1 == 1 + (r : Int); omega)).mono ?_
      rintro e w5 ⟨rfl, hb5⟩
      rw [decide_eq_true rfl]
      have HBr5 := hide hb5
      clear hb5
      go_wp2_with fail
      refine (sameN_any vb u10 _ _ w5 (HBr.out.below HBr5.out).nods (HS1.out.two.below HBr5.out).nods (by have := HLX.out fun x => x.2.1 == 2; omega)).mono ?_
      rintro e w6 ⟨rfl, hb6⟩
      rw [decide_eq_true rfl]
      have HBr6 := hide (below_two HBr5.out hb6)
      have hkc := (HKr.out.below HBr6.out (by omega)).cells.2.1
      clear hb6
      go_wp2_with fail
      refine (sameN_any vc _ ns ns w6 (HCr.out.below HBr6.out).nods ((HA.out.below (below_two HBw.out HBr6.out)).nods) (by rw [HL.out]; omega)).mono ?_
      rintro e w7 ⟨rfl, hb7⟩
      rw [decide_eq_true rfl]
      have HBr7 := hide (below_two HBr6.out hb7)
      clear hb7 hkc HBr5 HBr6
      have HA7 := hide (HAr.out.below HBr7.out)
      have HC7 := hide (HCr.out.below HBr7.out)
      have H17 := hide (HS1.out.one.below HBr7.out)
      have HK7 := hide (HKr.out.below HBr7.out (by omega))
      have hz7 : wr.heap.size ≤ w7.heap.size := HBr7.out.size
      have HBw7 := hide (below_two HBw.out HBr7.out)
      go_wp2_with fail
      refine (overN_ok va _ (w1.heap.size + 1) w7 HA7.out (by omega) (by have := HLX.out fun x => x.2.1 == 1 + (r : Int); omega)).mono ?_
      rintro e w8 ⟨rfl, hg8⟩
      have T1 := two_bases HOA2.out HS1.out.one (by omega)
      have T2 := two_bases HOA2.out HOC4.out (by omega)
      have H18 := hide (T1.kept hg8 H17.out)
      have HC8 := hide (T2.kept hg8 HC7.out)
      have hb8 : Below (w1.heap.size + 1) w7 w8 := HA7.out.grownBelow hg8 (by omega)
      have HK8 := hide (HK7.out.below hb8 (by omega))
      have HBw8 := hide (HBw7.out.trans (hb8.mono (by omega)))
      have hz8 : w7.heap.size ≤ w8.heap.size := hb8.size
      clear hg8 hb8 T1 T2
      go_wp2_with fail
      refine (overN_ok vc _ w3.heap.size w8 HC8.out (by omega) (by rw [HL.out]; omega)).mono ?_
      rintro e w9 ⟨rfl, hg9⟩
      have T3 := two_bases HOC4.out HS1.out.one (Nat.le_refl _)
      have H19 := hide (T3.kept hg9 H18.out)
      have hb9 : Below w3.heap.size w8 w9 := HC8.out.grownBelow hg9 (by omega)
      have HK9 := hide (HK8.out.below hb9 (by omega))
      have HBw9 := hide (HBw8.out.trans (hb9.mono (by omega)))
      have hz9 : w8.heap.size ≤ w9.heap.size := hb9.size
      clear hg9 hb9 T3
      go_wp2_with fail
      refine (filter_is w1.heap.size (1 + (r : Int)) n ao n c ns w9 (apart_new HA.out) HK9.out (by omega) (HA.out.below HBw9.out) (by omega)).mono ?_
      rintro e w10 ⟨vd, rfl, hod, _, hg10⟩
      have H110 := hide (H19.out.grown hg10 (fun g e => by cases e; omega))
      have hb10 : Below w1.heap.size w9 w10 := below_grown hg10 (by omega) (fun k e => by cases e; exact Nat.le_refl _)
      have HBw10 := hide (HBw9.out.trans hb10)
      have HOD := hide hod
      clear hod hg10 hb10
      go_wp2_with fail
      refine (sameN_any vd u9 _ _ w10 HOD.out.nods H110.out.nods (by have := HLX.out fun x => x.2.1 == 1 + (r : Int); omega)).mono ?_
      rintro e w11 ⟨rfl, hb11⟩
      rw [decide_eq_true rfl]
      have HBw11 := hide (below_two HBw10.out hb11)
      clear hb11
      go_wp2_with fail
      refine (awake2_any w1 w11 ⟨hsh, HBw11.out⟩).mono ?_
      rintro e w12 ⟨rfl, ok12, _⟩
      go_wp2_with fail
      go_ret
      exact ⟨rfl, ok12.2⟩

theorem filters_walk (ao : Option Addr) (n c : Nat) (ns : List Nd) (kind : Int) (w : World) (hsh : w.ShapedOpen Tryd.prog) (h : ArgN w ao n c ns) (hm : n ≤ maxLen) :
    Calls Tryd.prog 6 #[.slice ao n c, .int .i64 kind] w fun e w' => e = .returned (.bool true) ∧ Below w.heap.size w w' := by
  cases hg : greatN 60 ns with
  | true => exact filters_great ao n c ns kind w hsh h hm hg
  | false => exact filters_few ao n c ns kind w hsh h hg
end Go.Proofs.YtdgchinfanialaaDoor
