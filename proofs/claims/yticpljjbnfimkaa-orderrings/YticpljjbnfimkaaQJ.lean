/- The walk of order's arrange. -/
import Derived.Test.YticpljjbnfimkaaQI
namespace Go.Proofs.Yticpljjbnfimkaa
open Go.RowKit

/-- The order of these items, and the places of it. -/
structure Arr (is : List It) (P : List Nat) : Prop where
  each : P.Nodup
  low : ∀ z ∈ P, z < is.length
  ord : Hog.OrdIs ltB is (if P.length = is.length then some (P.map (Hog.nmP is)) else none)
theorem kahn_lt {is : List It} {f : ByteArray → Option Nat} {P L cs : List Nat} {z : Nat} (hk : Hog.Kahn ltB is f P L cs) (hz : z ∈ L) (h : ∀ y ∈ L, ¬ ltQ (is.map (·.1)) y z) : ∀ y ∈ L, ¬ ltB (Hog.nmP is y) (Hog.nmP is z) := fun y hy => by
  have := h y hy
  unfold ltQ at this
  rw [nmN_nmP (hk.low y (List.mem_append_right _ hy)), nmN_nmP (hk.low z (List.mem_append_right _ hz))] at this
  exact this
theorem kahn_few {is : List It} {f : ByteArray → Option Nat} {P L cs : List Nat} (h : Hog.Kahn ltB is f P L cs) : P.length + L.length ≤ is.length := by
  have := Hog.nodup_le h.each (m := List.range is.length) fun x hx => List.mem_range.2 (h.low x hx)
  rwa [List.length_append, List.length_range] at this
theorem kin_few {is : List It} {f : ByteArray → Option Nat} {P pre L cs : List Nat} {z : Nat} (h : Hog.Kin ltB is f P z pre L cs) : P.length + 1 + L.length ≤ is.length := by
  have := Hog.nodup_le h.each (m := List.range is.length) fun x hx => List.mem_range.2 (h.low x hx)
  rwa [List.length_append, List.length_append, List.length_range] at this
/-- How long the slice is. -/
def lenV : Value → Nat
  | .slice _ n _ => n
  | _ => 0
theorem names_n (v : Value) (is : List It) (l : List ByteArray) (n : Nat) (w : World) (hn : is.length = n) (h : Its w v is) (h1 : n < 900000) (hl : is.map (·.1) = l) :
    Calls Try.prog 25 #[v] w fun e w' => ∃ a' c', e = .returned (.slice a' n c') ∧ Own w.heap.size w' (.slice a' n c') l ∧ Below w.heap.size w w' := by
  subst hn
  exact names_ok v is l w h h1 hl
theorem indexed_n (v : Value) (xs : List ByteArray) (n : Nat) (w : World) (hn : xs.length = n) (h : Txt w v xs) (h9 : n < 900000) :
    Calls Try.prog 26 #[v] w fun e w' => ∃ m f r, e = .returned (.tuple #[.map (some m), .bool r]) ∧ (r = true ↔ xs.Nodup) ∧ Upto xs n f ∧ w.heap.size ≤ m ∧ MapF w' m (intM f) ∧ Below w.heap.size w w' := by
  subst hn
  exact indexed_ok v xs w h h9
theorem linked_n (v : Value) (m n : Nat) (is : List It) (f : ByteArray → Option Nat) (w : World) (hn : is.length = n) (h : Its w v is) (h9 : n < 900) (hr : ∀ i ∈ is, i.2.1.length ≤ 900) (hm : MapF w m (intM f)) (hf : ∀ x z, f x = some z → z < is.length) :
    Calls Try.prog 27 #[v, .map (some m)] w fun e w' => ∃ U W B cs ls ws tot, e = .returned (.tuple #[.slice (some ⟨U, 0, none⟩) n n, .slice (some ⟨W, 0, none⟩) n n]) ∧ Linked w is f U W B w' cs ls ws tot := by
  subst hn
  exact linked_ok v m is f w h h9 hr hm hf
set_option maxRecDepth 100000 in
set_option maxHeartbeats 8000000 in
theorem arrange_any (v : Value) (n : Nat) (is : List It) (w : World) (h : Its w v is) (hn : n = is.length) (h9 : n < 900) (hr : ∀ i ∈ is, i.2.1.length ≤ 900) :
    Calls Try.prog 22 #[v] w fun e w' => Below w.heap.size w w' ∧ ((¬ (is.map (·.1)).Nodup ∧ e = .returned (.tuple #[.slice none 0 0, .bool false])) ∨
      ((is.map (·.1)).Nodup ∧ ∃ P a c, e = .returned (.tuple #[.slice a P.length c, .bool ((P.length : Int) == (n : Int))]) ∧ OwnZ w.heap.size w' (.slice a P.length c) (numK P) ∧ Arr is P)) := by
  obtain ⟨ns, hns⟩ : ∃ ns, is.map (·.1) = ns := ⟨_, rfl⟩
  obtain ⟨ia, ic, e⟩ := h.form
  rw [← hn] at e
  subst e
  have HI := hide h
  have HN := hide hn
  have HR := hide hr
  have HNS := hide hns
  have HNL : Hid (ns.length = n) := hide (by rw [← hns, List.length_map, hn])
  rw [hns]
  clear h hr hns hn
  go_enter Try.func22, Try.ntmps22
  go_wp2_with fail
  refine (names_n _ is ns n w HN.out.symm HI.out (by omega) HNS.out).mono ?_
  rintro e w1 ⟨na, nc, rfl, ho1, hb1⟩
  have HO1 := hide ho1
  have HB1 := hide hb1
  clear ho1 hb1
  go_wp2_with fail
  refine (indexed_n _ ns n w1 HNL.out HO1.out.txt (by omega)).mono ?_
  rintro e w2 ⟨m, f, r, rfl, hr2, hu2, hm2, hmf2, hb2⟩
  have HR2 := hide hr2
  have HU2 := hide hu2
  have HMF2 := hide hmf2
  have HB2 := hide hb2
  have HB20 := hide (below_two HB1.out hb2)
  clear hr2 hu2 hmf2 hb2 hm2
  cases r with
  | false =>
    go_wp2_with fail
    go_ret2
    exact ⟨HB20.out, .inl ⟨fun k => (by have := HR2.out.2 k; cases this), rfl⟩⟩
  | true =>
    have HND : Hid (is.map (·.1)).Nodup := hide (by rw [HNS.out]; exact HR2.out.1 rfl)
    have HIDX : Hid (Hog.Idx is f) := hide (idx_of HND.out (by rw [HNS.out, ← HN.out]; exact HU2.out))
    go_wp2_with fail
    refine (linked_n _ m n is f w2 HN.out.symm (HI.out.below HB20.out) h9 HR.out HMF2.out (fun x z hz => (HIDX.out.of' x z hz).1)).mono ?_
    rintro e w3 ⟨U, W, B, cs, ls, ws, tot, rfl, hl3⟩
    have HL3 := hide hl3
    clear hl3
    go_wp2_with fail
    obtain ⟨g, hg⟩ : ∃ g, g = w3.heap.size := ⟨_, rfl⟩
    have HG := hide hg
    have HBW : Hid (Below w.heap.size w (w3.alloc (.cells #[.slice na n nc, .slice none 0 0] 59))) := hide (below_two (below_two HB20.out HL3.out.below) (below_box _ _))
    have HAT : Hid (AtQ w2.heap.size B U W n g (w3.alloc (.cells #[.slice na n nc, .slice none 0 0] 59)) ns cs ls ws [] none 0 [] none 0) := by
      have hl := HL3.out
      have hmem := hl.mem
      rw [← HN.out] at hmem
      have hbx := below_box w3 (.cells #[.slice na n nc, .slice none 0 0] 59)
      refine hide ⟨hmem.below hbx, fun z v k hz e => ?_, by rw [hg]; exact hmem.hB, hl.hw, ⟨⟨⟨na, nc, ?_, fun j x hx => ?_⟩, OwnZ.nil _ _, by simp, by rw [hg]; exact hl.below.size⟩, Hog.Heapy.nil _⟩, OwnZ.nil _ _, .inl rfl⟩
      · have h1 : ls[z]? = some (ls[z]'(by have := hmem.ll; have := hmem.cl; have := (List.getElem?_eq_some_iff.1 hz).1; omega)) := List.getElem?_eq_getElem _
        rw [hg]
        exact ((hmem.row z v _ hz h1).2.lt k e).2
      · rw [HNL.out, hg]
        exact BoxQ.made w3 _ _
      · rcases HO1.out.txt with ⟨e, _⟩ | ⟨nb, no, nc', e, _, hlt, hc⟩
        · rw [e] at hx; simp at hx
        · simp only [Value.slice.injEq] at e
          refine ⟨nb, no, e.1, Nat.lt_of_lt_of_le hlt HB2.out.size, ?_⟩
          have h1 := (HB2.out.cell (p := ⟨nb, no + j, none⟩) hlt).trans (hc j x hx)
          have h2 := (hl.below.cell (p := ⟨nb, no + j, none⟩) (Nat.lt_of_lt_of_le hlt HB2.out.size)).trans h1
          exact (hbx.cell (p := ⟨nb, no + j, none⟩) (Nat.lt_of_lt_of_le hlt (Nat.le_trans HB2.out.size hl.below.size))).trans h2
    have HLNK : Hid (Hog.Lnk n (Hog.needE is f) ls ws tot) := hide (by have := HL3.out.lnk; rw [← HN.out] at this; exact this)
    have HWS : Hid (∀ m ∈ ws, m ≤ 900000) := hide fun m hm => by
      have h1 := HLNK.out.few m hm
      have h2 := HL3.out.few
      rw [← HN.out] at h2
      omega
    have HTOT : Hid (tot ≤ 900000) := hide (by have h2 := HL3.out.few; rw [← HN.out] at h2; omega)
    have HW2 : Hid (w.heap.size ≤ w2.heap.size) := hide HB20.out.size
    have HWG : Hid (w.heap.size ≤ g) := hide (by rw [hg]; exact Nat.le_trans HB20.out.size HL3.out.below.size)
    rw [← hg]
    obtain ⟨wg, hwg⟩ : ∃ wg, wg = w3.alloc (.cells #[.slice na n nc, .slice none 0 0] 59) := ⟨_, rfl⟩
    rw [← hwg] at HBW HAT ⊢
    clear HL3 HO1 HB1 HB2 HB20 HMF2 HU2 HR2 hg hwg HG
    go_loopw [36] (fun i wr => ∃ (k : Nat) (L : List Nat) (a : Option Addr) (c : Nat), k ≤ n ∧ i = .int .i64 k ∧ Hid (AtQ w2.heap.size B U W n g wr ns cs ls ws L a c [] none 0) ∧ Hid (L.Nodup ∧ ∀ x, x ∈ L ↔ x < k ∧ ws[x]? = some 0) ∧ L.length ≤ k ∧ Hid (Below w.heap.size w wr)) (fun i _ => n - (intOf i).toNat)
    case atStart => exact ⟨0, [], none, 0, Nat.zero_le _, rfl, HAT, hide ⟨List.nodup_nil, by simp⟩, Nat.zero_le _, HBW⟩
    case round =>
      clear HAT HBW
      obtain ⟨k, L, a, c, hk, rfl, hat, hl, hll, hbl⟩ := hrel
      by_cases hlt : k < n
      · obtain ⟨q, c1, c2, _⟩ := hat.out.lk.count hlt
        have C1 := hide c1
        have hki : (k : Int) < (n : Int) := by omega
        clear c1
        by_cases hq : q = 0
        · subst hq
          go_wp2_with fail
          refine (hpush_ok wr g ns L a c k (ordQ ns) hat.out.rdy (by rw [HNL.out]; exact hlt) (by omega)).mono ?_
          rintro e w5 ⟨rfl, L', a', c', hr5, hp5, hk5, hs5⟩
          have HAT5 := hide (hat.out.heaped hk5 hr5 hs5)
          have HB5 := hide (hbl.out.trans (hk5.below (B := w.heap.size) HWG.out (fun j e => by have := (hat.out.row e).1; have := HWG.out; omega) hbl.out.size))
          have HL5 : Hid (L'.Nodup ∧ ∀ x, x ∈ L' ↔ x < k + 1 ∧ ws[x]? = some 0) := by
            refine hide ⟨hp5.nodup_iff.2 (List.nodup_cons.2 ⟨fun hm => by have := ((hl.out.2 k).1 hm).1; omega, hl.out.1⟩), fun x => ?_⟩
            rw [hp5.mem_iff, List.mem_cons, hl.out.2]
            constructor
            · rintro (rfl | ⟨h1, h2⟩)
              · exact ⟨by omega, C1.out⟩
              · exact ⟨by omega, h2⟩
            · rintro ⟨h1, h2⟩
              by_cases e : x = k
              · exact .inl e
              · exact .inr ⟨by omega, h2⟩
          have HLL : Hid (L'.length ≤ k + 1) := hide (by rw [hp5.length_eq, List.length_cons]; omega)
          clear hr5 hp5 hk5 hs5 c2
          go_wp2_with fail
          go_roundw
          case rel => exact ⟨k + 1, L', a', c', by omega, by go_num, HAT5, HL5, HLL.out, HB5⟩
          case measure => simp [intOf]; omega
        · have hq0 : ((q : Int) == 0) = false := by rw [beq_eq_false_iff_ne]; omega
          have HL5 : Hid (L.Nodup ∧ ∀ x, x ∈ L ↔ x < k + 1 ∧ ws[x]? = some 0) := by
            refine hide ⟨hl.out.1, fun x => ?_⟩
            rw [hl.out.2]
            constructor
            · rintro ⟨h1, h2⟩
              exact ⟨by omega, h2⟩
            · rintro ⟨h1, h2⟩
              refine ⟨Nat.lt_of_le_of_ne (by omega) (fun e => hq ?_), h2⟩
              rw [e, C1.out] at h2
              exact Option.some.inj h2
          go_wp2_with fail
          go_roundw
          case rel => exact ⟨k + 1, L, a, c, by omega, by go_num, hat, HL5, by omega, hbl⟩
          case measure => simp [intOf]; omega
      · have hki : (n : Int) ≤ (k : Int) := by omega
        have HL0 : Hid (L.Nodup ∧ ∀ x, x ∈ L ↔ x < n ∧ ws[x]? = some 0) := by rw [show n = k by omega]; exact hl
        have HK0 : Hid (Hog.Kahn ltB is f [] L ws) := hide (Hog.Kahn.begin ltB (by rw [← HN.out]; exact HLNK.out.wl) (fun a m h => HLNK.out.wait a m h) HL0.out.1 (fun x => by rw [HL0.out.2 x, HLNK.out.wl]))
        go_wp2_with fail
        clear hl hll hk hlt hki HL0
        go_loopw [12] (fun pv wr => ∃ (q : Nat) (P : List Nat) (pa : Option Addr) (pc : Nat) (L : List Nat) (a : Option Addr) (c : Nat) (ws' : List Nat), pv = .slice pa q pc ∧ Hid (P.length = q) ∧ Hid (Hog.Kahn ltB is f P L ws') ∧ Hid (AtQ w2.heap.size B U W n g wr ns cs ls ws' L a c P pa pc) ∧ Hid (∀ m ∈ ws', m ≤ 900000) ∧ Hid (Below w.heap.size w wr)) (fun pv _ => n - lenV pv)
        case atStart => exact ⟨0, [], none, 0, L, a, c, ws, rfl, rfl, HK0, hat, HWS, hbl⟩
        case round =>
          rename World => wx
          clear hat hbl HK0
          obtain ⟨q, P, pa, pc, L, a, c, ws', rfl, hpq, hkn, hat, hws, hbl⟩ := hrel
          obtain ⟨s, hs⟩ : ∃ s, L.length = s := ⟨_, rfl⟩
          have HS := hide hs
          have hfew : q + s ≤ n := by
            have := kahn_few hkn.out
            rw [hpq.out, hs, ← HN.out] at this
            exact this
          clear hs
          cases s with
          | zero =>
            go_wp2_with fail
            refine (lenQ_ok wx g ns L a c 0 hat.out.rdy.rdy HS.out).mono ?_
            rintro e w5 ⟨rfl, rfl⟩
            go_wp2_with fail
            go_ret2
            refine ⟨hbl.out, .inr ⟨by rw [← HNS.out]; exact HND.out, P, pa, pc, by rw [hpq.out]; rfl, ?_, ?_⟩⟩
            · have h1 := hat.out.pl
              exact h1.base (by have := HWG.out; omega)
            · have e := List.eq_nil_of_length_eq_zero HS.out
              have h1 := hkn.out
              rw [e] at h1
              exact ⟨by have := h1.each; rw [List.append_nil] at this; exact this, fun z hz => h1.low z (List.mem_append_left _ hz), h1.ended HIDX.out⟩
          | succ t =>
            have ht1 : (0 : Int) < (t : Int) + 1 := by omega
            go_wp2_with fail
            refine (lenQ_ok wx g ns L a c (t + 1) hat.out.rdy.rdy HS.out).mono ?_
            rintro e w5 ⟨rfl, rfl⟩
            go_wp2_with fail
            refine (hpop_ok w5 g ns L a c t (ordQ ns) hat.out.rdy HS.out (by rw [HS.out]; omega)).mono ?_
            rintro e w6 ⟨z, M, rfl, hr6, hp6, hm6, hk6⟩
            have HAT6 := hide (hat.out.heaped hk6 hr6 (.inl (own_len _ _ _ _ _)))
            have HKIN : Hid (Hog.Kin ltB is f P z [] M ws') := hide (hkn.out.take HIDX.out hp6 (kahn_lt hkn.out (hp6.mem_iff.2 List.mem_cons_self) (by rw [HNS.out]; exact hm6)))
            have HB6 := hide (hbl.out.trans (hk6.below (B := w.heap.size) HWG.out (fun j e => by have := (hat.out.row e).1; have := HWG.out; omega) hbl.out.size))
            have hzn : z < n := by have := hkn.out.low z (List.mem_append_right _ (hp6.mem_iff.2 List.mem_cons_self)); rw [← HN.out] at this; exact this
            have HZP : Hid (¬ z ∈ P) := hide fun hz => (List.nodup_append.1 hkn.out.each).2.2 z hz z (hp6.mem_iff.2 List.mem_cons_self) rfl
            have hta := run_is_int (z : Int)
            have HGS6 : Hid (g + 1 ≤ w6.heap.size) := hide hr6.rdy.lt
            clear hr6 hp6 hm6 hk6 hat hkn hbl HS
            have hzi : (z : Int) < (n : Int) := by omega
            have HBA := hide (below_box w6 (.cells #[.int .i64 (z : Int)] 3))
            have HOA := hide (HAT6.out.pl.below HBA.out)
            rw [hpq.out] at HOA
            have HA := hide (argI_one w6 (z : Int))
            go_wp2_with (at_builtin; refine wpList_append_whereZ rfl _ _ rfl (g + 1) _ (numK P) rfl HOA.out _ _ _ [(z : Int)] rfl HA.out ?d1 ?d2 ?_)
            case d1 => rw [nums_len, hpq.out]; simp; omega
            case d2 => have := HGS6.out; simp; omega
            intro b7 c7 w7 h7 hg7 hs7
            rw [nums_len, hpq.out] at h7 hs7 ⊢
            have HAT7 : Hid (AtQ w2.heap.size B U W n g w7 ns cs ls ws' M a c (P ++ [z]) b7 c7) := hide (HAT6.out.came HBA.out (by rw [hpq.out, nums_app]; exact h7) (by rw [hpq.out]; exact hg7) (by rw [hpq.out]; exact hs7))
            have HB7 := hide ((HB6.out.trans (HBA.out.mono HB6.out.size)).grown hg7 (Nat.le_trans HB6.out.size HBA.out.size) (fun j e => by have := (HOA.out.lt j e).1; have := HWG.out; omega))
            clear h7 hg7 hs7 HAT6 HB6 HOA HA HBA hta HGS6
            obtain ⟨ua, uq, uc, l, u1, u2, u3, _, u5, _⟩ := HAT7.out.lk.at' hzn
            have U1 := hide u1
            have U2 := hide u2
            have U3 := hide u3
            have HLU : Hid (∀ x, x < is.length → l.count x = (Hog.needE is f x).count z) := hide fun x _ => HLNK.out.user z l u2 x
            have huq : uq ≤ 900000 := by have h1 := (HLNK.out.mem l (List.mem_of_getElem? u2)).2; have h2 := HTOT.out; omega
            clear u1 u2 u3
            go_wp2_with fail
            clear u5
            go_loopw [65] (fun jv wr => ∃ (j : Nat) (L : List Nat) (a : Option Addr) (c : Nat) (ws' : List Nat), j ≤ uq ∧ jv = .int .i64 j ∧ Hid (Hog.Kin ltB is f P z (l.take j) L ws') ∧ Hid (AtQ w2.heap.size B U W n g wr ns cs ls ws' L a c (P ++ [z]) b7 c7) ∧ Hid (∀ m ∈ ws', m ≤ 900000) ∧ Hid (Below w.heap.size w wr)) (fun jv _ => uq - (intOf jv).toNat)
            case atStart => exact ⟨0, M, a, c, ws', Nat.zero_le _, rfl, by rw [List.take_zero]; exact HKIN, HAT7, hws, HB7⟩
            case round =>
              rename World => wy
              clear HKIN HAT7 hws HB7
              obtain ⟨j, L, a, c, ws', hj, rfl, hkin, hat, hws, hbl⟩ := hrel
              by_cases hlj : j < uq
              · obtain ⟨u, hu⟩ : ∃ u, l[j]? = some u := ⟨l[j]'(by have := U3.out; omega), List.getElem?_eq_some_iff.2 ⟨_, rfl⟩⟩
                obtain ⟨gg, rfl, hcu⟩ : ∃ gg, ua = some ⟨gg, 0, none⟩ ∧ wy.cell? ⟨gg, j, none⟩ = some (.int .i64 u) := by
                  have h1 := (hat.out.lk.row z _ l U1.out U2.out).2
                  exact h1.at' hu
                have hun : u < n := (HLNK.out.mem l (List.mem_of_getElem? U2.out)).1 u (List.mem_of_getElem? hu)
                obtain ⟨mm, c1, c2, c3⟩ := hat.out.lk.count hun
                obtain ⟨m', rfl⟩ : ∃ m', mm = m' + 1 := ⟨mm - 1, by have := hkin.out.waits HZP.out HLU.out hu c1; omega⟩
                have hm9 : m' + 1 ≤ 900000 := hws.out _ (List.mem_of_getElem? c1)
                rw [show ((m' + 1 : Nat) : Int) = (m' : Int) + 1 by omega] at c2
                have HU := hide hu
                have C1 := hide c1
                have hji : (j : Int) < (uq : Int) := by omega
                have hui : (u : Int) < (n : Int) := by omega
                have HAT8 := hide (hat.out.waited u m')
                have HB8 : Hid (Below w.heap.size w (wy.setCell ⟨W, u, none⟩ (.int .i64 (m' : Int)))) := hide (hbl.out.setCell (p := ⟨W, u, none⟩) (Nat.le_trans HW2.out hat.out.hw) _)
                have HWS8 : Hid (∀ m ∈ ws'.set u m', m ≤ 900000) := hide fun m hm => by
                  rcases List.mem_or_eq_of_mem_set hm with hm | rfl
                  · exact hws.out m hm
                  · omega
                have HFEW := hide (kin_few hkin.out)
                clear hu c1
                by_cases hm0 : m' = 0
                · have hq0 : ((m' : Int) == 0) = true := by rw [beq_iff_eq]; omega
                  have HM0 := hide hm0
                  clear hm0
                  go_wp2_with fail
                  refine (hpush_ok _ g ns L a c u (ordQ ns) HAT8.out.rdy (by rw [HNL.out]; exact hun) (by have := HFEW.out; rw [← HN.out] at this; omega)).mono ?_
                  rintro e w9 ⟨rfl, L', a', c', hr9, hp9, hk9, hs9⟩
                  have HAT9 := hide (HAT8.out.heaped hk9 hr9 hs9)
                  have HB9 := hide (HB8.out.trans (hk9.below (B := w.heap.size) HWG.out (fun j e => by have := (HAT8.out.row e).1; have := HWG.out; omega) HB8.out.size))
                  have HK9 : Hid (Hog.Kin ltB is f P z (l.take (j + 1)) L' (ws'.set u m')) := by
                    have e := HM0.out
                    have h1 := C1.out
                    rw [e] at h1 ⊢
                    exact hide (hkin.out.last HU.out h1 hp9)
                  clear hr9 hp9 hk9 hs9 hcu c2 c3
                  go_wp2_with fail
                  go_roundw
                  case rel => exact ⟨j + 1, L', a', c', _, by omega, by go_num, HK9, HAT9, HWS8, HB9⟩
                  case measure => simp [intOf]; omega
                · have hq0 : ((m' : Int) == 0) = false := by rw [beq_eq_false_iff_ne]; omega
                  have HK9 : Hid (Hog.Kin ltB is f P z (l.take (j + 1)) L (ws'.set u m')) := hide (hkin.out.less HU.out C1.out hm0)
                  clear hm0
                  go_wp2_with fail
                  go_roundw
                  case rel => exact ⟨j + 1, L, a, c, _, by omega, by go_num, HK9, HAT8, HWS8, HB8⟩
                  case measure => simp [intOf]; omega
              · have hji : (uq : Int) ≤ (j : Int) := by omega
                have HDONE : Hid (Hog.Kahn ltB is f (P ++ [z]) L ws') := by
                  have h1 := hkin.out
                  rw [List.take_of_length_le (by have := U3.out; omega)] at h1
                  exact hide (h1.done HLU.out)
                have HFEW := hide (kin_few hkin.out)
                go_wp2_with fail
                go_roundw
                case rel => exact ⟨q + 1, P ++ [z], b7, c7, L, a, c, ws', rfl, hide (by rw [List.length_append, hpq.out]; rfl), HDONE, hat, hws, hbl⟩
                case measure => have := HFEW.out; have := hpq.out; have := HN.out; simp [lenV]; omega
/-- What arrange answers. -/
theorem arrange_ok (v : Value) (is : List It) (w : World) (h : Its w v is) (h9 : is.length < 900) (hr : ∀ i ∈ is, i.2.1.length ≤ 900) :
    Calls Try.prog 22 #[v] w fun e w' => Below w.heap.size w w' ∧ ((¬ (is.map (·.1)).Nodup ∧ e = .returned (.tuple #[.slice none 0 0, .bool false])) ∨
      ((is.map (·.1)).Nodup ∧ ∃ P a c, e = .returned (.tuple #[.slice a P.length c, .bool ((P.length : Int) == (is.length : Int))]) ∧ OwnZ w.heap.size w' (.slice a P.length c) (numK P) ∧ Arr is P)) :=
  arrange_any v is.length is w h rfl h9 hr
end Go.Proofs.Yticpljjbnfimkaa
