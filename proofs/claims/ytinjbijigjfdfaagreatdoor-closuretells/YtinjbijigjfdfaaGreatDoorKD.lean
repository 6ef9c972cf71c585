/- The walks of package closure: sign, Prefix, standing, referring, Validate. -/
import Derived.Test.YtinjbijigjfdfaaGreatDoorJ9
import Derived.Test.YtinjbijigjfdfaaGreatDoorJ12
namespace Go.Proofs.YtinjbijigjfdfaaGreatDoor
open Go.RowKit

set_option maxRecDepth 100000 in
theorem sign_any (c : UInt8) (w : World) :
    Calls Tryz.prog 28 #[.int .u8 c.toNat] w fun e w' => e = .returned (.bool (signB c)) ∧ w' = w := by
  go_enter Tryz.func28, Tryz.ntmps28
  by_cases h1 : 97 ≤ c.toNat
  · have h1i : (97 : Int) ≤ (c.toNat : Int) := by omega
    by_cases h2 : c.toNat ≤ 122
    · have h2i : (c.toNat : Int) ≤ 122 := by omega
      go_wp2
      go_ret
      exact ⟨ret_bool (by unfold signB; rw [decide_eq_true h1, decide_eq_true h2]; rfl), rfl⟩
    · have h2i : (122 : Int) < (c.toNat : Int) := by omega
      have h3 : ¬ c.toNat ≤ 57 := by omega
      have h3i : (57 : Int) < (c.toNat : Int) := by omega
      have h4i : (48 : Int) ≤ (c.toNat : Int) := by omega
      go_wp2
      go_ret
      exact ⟨ret_bool (by unfold signB; rw [decide_eq_false h2, decide_eq_false h3]; simp; omega), rfl⟩
  · have h1i : (c.toNat : Int) < 97 := by omega
    by_cases h2 : 48 ≤ c.toNat
    · have h2i : (48 : Int) ≤ (c.toNat : Int) := by omega
      by_cases h3 : c.toNat ≤ 57
      · have h3i : (c.toNat : Int) ≤ 57 := by omega
        go_wp2
        go_ret
        exact ⟨ret_bool (by unfold signB; rw [decide_eq_false h1, decide_eq_true h2, decide_eq_true h3]; rfl), rfl⟩
      · have h3i : (57 : Int) < (c.toNat : Int) := by omega
        go_wp2
        go_ret
        exact ⟨ret_bool (by unfold signB; rw [decide_eq_false h1, decide_eq_true h2, decide_eq_false h3]; simp; omega), rfl⟩
    · have h2i : (c.toNat : Int) < 48 := by omega
      go_wp2
      go_ret
      exact ⟨ret_bool (by unfold signB; rw [decide_eq_false h1, decide_eq_false h2]; rfl), rfl⟩
theorem sign_ok (c : UInt8) (b : Bool) (w : World) (hv : signB c = b) :
    Calls Tryz.prog 28 #[.int .u8 c.toNat] w fun e w' => e = .returned (.bool b) ∧ w' = w := by
  subst hv; exact sign_any c w

theorem pref_short {p : ByteArray} (h : ¬ 4 ≤ p.size) : prefB p = false := by unfold prefB; rw [decide_eq_false h]; rfl
theorem pref_long {p : ByteArray} (h : ¬ p.size ≤ 16) : prefB p = false := by unfold prefB; rw [decide_eq_false h]; simp
theorem pref_first {p : ByteArray} (h : p.data.toList[0]? ≠ some 47) : prefB p = false := by unfold prefB; rw [decide_eq_false h]; simp
theorem pref_sign {p : ByteArray} {k : Nat} {c : UInt8} (hk : 1 ≤ k) (hc : p.data.toList[k]? = some c) (h : signB c = false) : prefB p = false := by
  have : (p.data.toList.drop 1).all signB = false := by
    rw [List.all_eq_false]
    refine ⟨c, List.mem_of_getElem? (i := k - 1) ?_, by rw [h]; decide⟩
    rw [List.getElem?_drop, show 1 + (k - 1) = k by omega]; exact hc
  unfold prefB; rw [this]; simp
theorem pref_full {p : ByteArray} (h1 : 4 ≤ p.size) (h2 : p.size ≤ 16) (h3 : p.data.toList[0]? = some 47) (h4 : ((p.data.toList.drop 1).take (p.size - 1)).all signB = true) : prefB p = true := by
  unfold prefB
  have : (p.data.toList.drop 1).take (p.size - 1) = p.data.toList.drop 1 := List.take_of_length_le (by rw [List.length_drop, ← Hog.size_len]; omega)
  rw [this] at h4
  rw [decide_eq_true h1, decide_eq_true h2, decide_eq_true h3, h4]; rfl
theorem sign_step {p : ByteArray} {k : Nat} {c : UInt8} (hk : 1 ≤ k) (hc : p.data.toList[k]? = some c) (h : signB c = true) (ha : ((p.data.toList.drop 1).take (k - 1)).all signB = true) : ((p.data.toList.drop 1).take (k + 1 - 1)).all signB = true := by
  have e : k + 1 - 1 = k - 1 + 1 := by omega
  have hd : (p.data.toList.drop 1)[k - 1]? = some c := by rw [List.getElem?_drop, show 1 + (k - 1) = k by omega]; exact hc
  rw [e, List.take_add_one, hd, Option.toList_some, List.all_append, ha]
  simpa using h

set_option maxRecDepth 100000 in
set_option maxHeartbeats 1000000 in
theorem prefix_any (p : ByteArray) (w : World) (hp : p.size ≤ 9223372036854775807) :
    Calls Tryz.prog 13 #[.string p] w fun e w' => e = .returned (.bool (prefB p)) ∧ w' = w := by
  have hpi : (p.size : Int) ≤ 9223372036854775807 := by omega
  go_enter Tryz.func13, Tryz.ntmps13
  by_cases h4 : 4 ≤ p.size
  case neg =>
    have h4i : (p.size : Int) < 4 := by omega
    go_wp2
    go_ret
    exact ⟨ret_bool (pref_short h4).symm, rfl⟩
  have h4i : (4 : Int) ≤ (p.size : Int) := by omega
  by_cases h16 : p.size ≤ 16
  case neg =>
    have h16i : (16 : Int) < (p.size : Int) := by omega
    go_wp2
    go_ret
    exact ⟨ret_bool (pref_long h16).symm, rfl⟩
  have h16i : (p.size : Int) ≤ 16 := by omega
  have h0 : 0 < p.size := by omega
  have h0i : (0 : Int) < (p.size : Int) := by omega
  have HAT := hide (at_byte p 0 h0)
  by_cases hf : p[0] = 47
  case neg =>
    have hb : ((p[0].toNat : Int) != 47) = true := by
      rw [bne_iff_ne]
      intro e
      exact hf (UInt8.toNat_inj.1 (by show p[0].toNat = 47; omega))
    have HF := hide hf
    clear hf
    go_wp2
    go_ret
    exact ⟨ret_bool (pref_first (by rw [HAT.out]; intro e; exact HF.out (Option.some.inj e))).symm, rfl⟩
  have hb : ((p[0].toNat : Int) != 47) = false := by rw [hf]; rfl
  have HF := hide hf
  clear hf
  go_wp2
  go_loop [3] (fun i => ∃ k : Nat, 1 ≤ k ∧ k ≤ p.size ∧ i = .int .i64 k ∧ Hid (((p.data.toList.drop 1).take (k - 1)).all signB = true)) (fun i => p.size - (intOf i).toNat)
  case atStart => exact ⟨1, Nat.le_refl _, by omega, rfl, by simp [Hid]⟩
  case round =>
    obtain ⟨k, hk1, hk, rfl, ha⟩ := hrel
    by_cases hlt : k < p.size
    · have hki : (k : Int) < (p.size : Int) := by omega
      have HAK := hide (at_byte p k hlt)
      cases hs : signB p[k] with
      | false =>
        have HS := hide hs
        clear hs
        go_wp2_with fail
        refine (sign_ok p[k] false w HS.out).mono ?_
        rintro e w1 ⟨rfl, hw⟩
        obtain rfl := hw
        go_wp2
        go_ret
        exact ⟨ret_bool (pref_sign hk1 HAK.out HS.out).symm, rfl⟩
      | true =>
        have HS := hide hs
        clear hs
        go_wp2_with fail
        refine (sign_ok p[k] true w HS.out).mono ?_
        rintro e w1 ⟨rfl, hw⟩
        obtain rfl := hw
        go_wp2
        go_round
        case rel => exact ⟨k + 1, by omega, by omega, by go_num, sign_step hk1 HAK.out HS.out ha.out⟩
        case measure => simp [intOf]; omega
    · have hki : (p.size : Int) ≤ (k : Int) := by omega
      have HE : Hid (k = p.size) := by show k = p.size; omega
      go_wp2
      go_ret
      refine ⟨ret_bool (pref_full h4 h16 (by rw [HAT.out, HF.out]) ?_).symm, rfl⟩
      have := ha.out
      rw [HE.out] at this
      exact this
theorem prefix_ok (p : ByteArray) (b : Bool) (w : World) (hp : p.size ≤ 9223372036854775807) (hv : prefB p = b) :
    Calls Tryz.prog 13 #[.string p] w fun e w' => e = .returned (.bool b) ∧ w' = w := by
  subst hv; exact prefix_any p w hp

theorem mayK_ok (nm : ByteArray) (rs : List ByteArray) (ns : List Nd) (ra : Option Addr) (rn rc : Nat) (ta : Option Addr) (tn tc : Nat) (r : Bool) (w0 w : World) (hok : Ok w0 w) (hf : Fair (nm, rs, ns)) (hr : Txt w (.slice ra rn rc) rs) (ht : Nods w (.slice ta tn tc) ns) (hv : mayI (nm, rs, ns) = r) :
    Calls Tryz.prog 44 #[.agg #[.string nm, .slice ra rn rc, .slice ta tn tc]] w fun e w' => e = .returned (.bool r) ∧ Ok w0 w' ∧ Below w.heap.size w w' := mayI_ok (nm, rs, ns) ra rn rc ta tn tc r w0 w hok hf hr ht hv

/-- What looks at one item after another has come to place k: what is behind is told of the hash that was met last. -/
theorem stand_step {is : List It} {k : Nat} {i : It} {h : List UInt8} {r : Int} (hi : is[k]? = some i) (hr : standV h (is.drop k) = r) (h1 : Op.bytesLess h (hashT i.1).data.toList = true) (h2 : ownB i.2.2 = true) :
    standV (hashT i.1).data.toList (is.drop (k + 1)) = r := by
  obtain ⟨hk, rfl⟩ := List.getElem?_eq_some_iff.1 hi
  rw [List.drop_eq_getElem_cons hk] at hr
  unfold standV at hr
  rw [if_pos h1, if_pos h2] at hr
  exact hr
theorem stand_name {is : List It} {k : Nat} {i : It} {h : List UInt8} {r : Int} (hi : is[k]? = some i) (hr : standV h (is.drop k) = r) (h1 : Op.bytesLess h (hashT i.1).data.toList = false) : r = 6 := by
  obtain ⟨hk, rfl⟩ := List.getElem?_eq_some_iff.1 hi
  rw [List.drop_eq_getElem_cons hk] at hr
  unfold standV at hr
  rw [if_neg (by rw [h1]; decide)] at hr
  exact hr.symm
theorem stand_tree {is : List It} {k : Nat} {i : It} {h : List UInt8} {r : Int} (hi : is[k]? = some i) (hr : standV h (is.drop k) = r) (h1 : Op.bytesLess h (hashT i.1).data.toList = true) (h2 : ownB i.2.2 = false) : r = 7 := by
  obtain ⟨hk, rfl⟩ := List.getElem?_eq_some_iff.1 hi
  rw [List.drop_eq_getElem_cons hk] at hr
  unfold standV at hr
  rw [if_pos h1, if_neg (by rw [h2]; decide)] at hr
  exact hr.symm
theorem may_bare {nm : ByteArray} {ns : List Nd} (h : Hog.nameL nm.data.toList = true) : mayI (nm, [], ns) = ownB ns := by
  unfold mayI
  have : refsB [] = true := by decide
  rw [h, this]; rfl
theorem leq_not {x y : ByteArray} (h : Op.bytesLess y.data.toList x.data.toList = true) : Op.bytesLess x.toList y.toList = false ∧ (x.toList == y.toList) = false := ⟨(less_yes h).2, (less_yes h).1⟩
theorem leq_yes {x y : ByteArray} (h : Op.bytesLess y.data.toList x.data.toList = false) : Op.bytesLess x.toList y.toList = true ∨ (x.toList == y.toList) = true := by
  rcases less_not h with e | e
  · exact .inr (by rw [e]; exact beq_self_eq_true _)
  · exact .inl e

set_option maxRecDepth 100000 in
set_option maxHeartbeats 2000000 in
theorem standing9_some (b o c n : Nat) (is : List It) (r : Int) (w0 w : World) (hok : Ok w0 w) (hn : n = is.length) (h8 : n ≤ 8) (hr : RunI w b o is) (hf : ∀ i ∈ is, Fair i) (hv : standV [] is = r) :
    Calls Tryz.prog 30 #[.slice (some ⟨b, o, none⟩) n c] w fun e w' => e = .returned (.int .i64 r) ∧ Ok w0 w' ∧ Below w.heap.size w w' := by
  have HR := hide hr
  have HN := hide hn
  have HF := hide hf
  have HOK := hide hok
  have HV := hide hv
  clear hr hn hf hok hv
  go_enter Tryz.func30, Tryz.ntmps30
  go_wp2
  go_loopw [3, 9] (fun u i wr => ∃ (k : Nat) (h : ByteArray), k ≤ n ∧ u = .string h ∧ i = .int .i64 k ∧ Hid (standV h.data.toList (is.drop k) = r) ∧ Hid (Below w.heap.size w wr)) (fun _ i _ => n - (intOf i).toNat)
  case atStart => exact ⟨0, ⟨#[]⟩, Nat.zero_le _, rfl, rfl, HV.out, Below.refl _ _⟩
  case round =>
    obtain ⟨k, h, hk, rfl, rfl, hst, hbl⟩ := hrel
    by_cases hlt : k < n
    · obtain ⟨i, hi⟩ : ∃ i, is[k]? = some i := ⟨is[k]'(by have := HN.out; omega), List.getElem?_eq_some_iff.2 ⟨_, rfl⟩⟩
      obtain ⟨ra, rn, rc, ta, tn, tc, q0, q1, q2, _, q4⟩ := (HR.out.2 k i hi).below hbl.out
      have HFI := hide (HF.out i (List.mem_of_getElem? hi))
      have hnm : i.1.size < 900000 := HFI.out.name
      have HI := hide hi
      have Q4 := hide q4
      have hki : (k : Int) < (n : Int) := by omega
      have HBX := hide (below_box wr (.cells #[.string i.1, .slice ra rn rc, .slice ta tn tc] 29))
      have hsz : wr.heap.size < (wr.alloc (.cells #[.string i.1, .slice ra rn rc, .slice ta tn tc] 29)).heap.size := by simp
      have c0 : (wr.alloc (.cells #[.string i.1, .slice ra rn rc, .slice ta tn tc] 29)).cell? ⟨wr.heap.size, 0, none⟩ = some (.string i.1) := by simp
      have c2 : (wr.alloc (.cells #[.string i.1, .slice ra rn rc, .slice ta tn tc] 29)).cell? ⟨wr.heap.size, 2, none⟩ = some (.slice ta tn tc) := by simp
      clear hi q4
      go_wp2_with fail
      refine (hash_ok i.1 (hashT i.1) _ (by omega) rfl).mono ?_
      rintro e w1 ⟨rfl, hb1⟩
      have d0 := (hb1.cell (p := ⟨wr.heap.size, 0, none⟩) hsz).trans c0
      have d2 := (hb1.cell (p := ⟨wr.heap.size, 2, none⟩) hsz).trans c2
      have HB1 := hide (below_two HBX.out hb1)
      clear hb1 c0 c2 hsz HBX q0 q1 q2
      cases hle : Op.bytesLess h.data.toList (hashT i.1).data.toList with
      | false =>
        have hq := leq_yes hle
        have HE := hide (stand_name HI.out hst.out hle)
        clear hle
        rcases hq with hq | hq
        · go_wp2
          go_ret
          exact ⟨by rw [HE.out]; rfl, HOK.out.next (below_two hbl.out HB1.out), below_two hbl.out HB1.out⟩
        · go_wp2
          go_ret
          exact ⟨by rw [HE.out]; rfl, HOK.out.next (below_two hbl.out HB1.out), below_two hbl.out HB1.out⟩
      | true =>
        obtain ⟨hq, hq2⟩ := leq_not hle
        have HLE := hide hle
        clear hle
        have HM : Hid (mayI (i.1, [], i.2.2) = ownB i.2.2) := may_bare (name_less HLE.out)
        have HFJ : Hid (Fair (i.1, [], i.2.2)) := ⟨HFI.out.name, by show ([] : List ByteArray).length < 900000; simp, fun x hx => absurd hx (by simp), HFI.out.tree, HFI.out.path⟩
        cases how : ownB i.2.2 with
        | false =>
          have HOW := hide how
          clear how
          go_wp2_with fail
          refine (mayK_ok _ _ _ none 0 0 ta tn tc false w0 w1 (HOK.out.next (below_two hbl.out HB1.out)) HFJ.out (Txt.none _ _ _) (Q4.out.below HB1.out) (HM.out.trans HOW.out)).mono ?_
          rintro e w2 ⟨rfl, ok2, hb2⟩
          have HE := hide (stand_tree HI.out hst.out HLE.out HOW.out)
          go_wp2
          go_ret
          exact ⟨by rw [HE.out]; rfl, ok2, below_two (below_two hbl.out HB1.out) hb2⟩
        | true =>
          have HOW := hide how
          clear how
          go_wp2_with fail
          refine (mayK_ok _ _ _ none 0 0 ta tn tc true w0 w1 (HOK.out.next (below_two hbl.out HB1.out)) HFJ.out (Txt.none _ _ _) (Q4.out.below HB1.out) (HM.out.trans HOW.out)).mono ?_
          rintro e w2 ⟨rfl, ok2, hb2⟩
          have HB2 := hide (below_two (below_two hbl.out HB1.out) hb2)
          clear hb2 ok2
          go_wp2
          go_roundw
          case rel => exact ⟨k + 1, hashT i.1, by omega, rfl, by go_num, stand_step HI.out hst.out HLE.out HOW.out, HB2⟩
          case measure => simp [intOf]; omega
    · have hki : (n : Int) ≤ (k : Int) := by omega
      have HE : Hid (r = 0) := by
        have h1 := hst.out
        rw [List.drop_eq_nil_of_le (by have := HN.out; omega)] at h1
        exact h1.symm
      go_wp2
      go_ret
      exact ⟨by rw [HE.out]; rfl, HOK.out.next hbl.out, hbl.out⟩
end Go.Proofs.YtinjbijigjfdfaaGreatDoor
