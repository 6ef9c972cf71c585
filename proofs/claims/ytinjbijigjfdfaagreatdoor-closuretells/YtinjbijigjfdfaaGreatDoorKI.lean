/- The walk of closure's Reach. -/
import Derived.Test.YtinjbijigjfdfaaGreatDoorKH
import Derived.Test.YtinjbijigjfdfaaGreatDoorJ9
namespace Go.Proofs.YtinjbijigjfdfaaGreatDoor
open Go.RowKit

theorem OwnZ.argI {base : Nat} {w : World} {ao : Option Addr} {n c : Nat} {xs : List Int} (h : OwnZ base w (.slice ao n c) xs) : ArgI w ao n c xs := by
  have h' := h
  obtain ⟨_, h2⟩ := h
  rcases h2 with ⟨e, h0⟩ | ⟨g, cap, cur, e, hb, hg, hn, hm, hs, ht⟩
  · obtain rfl := List.eq_nil_of_length_eq_zero h0
    cases e
    exact ⟨rfl, fun _ => ⟨rfl, rfl⟩, Nat.le_refl _, fun ad e => by cases e⟩
  · obtain ⟨rfl, rfl, rfl⟩ : ao = some ⟨g, 0, none⟩ ∧ n = xs.length ∧ c = cap := by simpa using e
    exact ⟨rfl, fun e => by (cases e), hn, fun ad e j u hu => by cases e; exact World.ownsRow.cells h' (g := g) rfl j u hu⟩
theorem wpList_append_argZ {w : World} {ops : Array Oper} {rest : List Oper} {o : Oper} {a : Act} {Q : Exit → Act → World → Prop} (hgd : o.guard = none) (s x : Operand)
    (ho : o.op = .call { callee := .builtin .append, args := #[s, x], argTypes := #[49, 49] })
    (base : Nat) (v : Value) (xs : List Int) (hs : a.eval s = v) (hown : OwnZ base w v xs) (ao : Option Addr) (m c : Nat) (ys : List Int) (hx : a.eval x = .slice ao m c) (hu : ArgI w ao m c ys)
    (q : Nat) (hq : xs.length + ys.length = q) (zs : List Int) (hz : xs ++ ys = zs) (hlen : q < 1000000) (hbase : base ≤ w.heap.size)
    (h : ∀ b c w', OwnZ base w' (.slice b q c) zs → w.grownBy w' v.ownBlock → wpList Tryz.prog ops Q rest (a.put o.dst (.slice b q c)) w') : wpList Tryz.prog ops Q (o :: rest) a w := by
  subst hq hz
  cases ao with
  | none =>
    obtain ⟨i0, hi, hz0, hz1, hz2⟩ := info_parts A3
    obtain ⟨rfl, rfl⟩ := hu.none rfl
    have hy : ys = [] := List.eq_nil_of_length_eq_zero hu.len
    subst hy
    obtain ⟨b, c, e⟩ := hown.form
    subst e
    refine wpList_append_own_none hgd s x 49 ho base 3 i0 1 Tryz.underlying49 hi _ _ _ hs hown hx ?_
    exact h b c w (by simpa using hown) (grown_refl _ _)
  | some ad =>
    refine wpList_append_whereZ hgd s x ho base v xs hs hown ad m c ys hx hu hlen hbase fun b c w' h1 h2 _ => h b c w' h1 h2
theorem OwnZ.at' {base : Nat} {w : World} {a : Option Addr} {q c k z : Nat} {zs : List Nat} (h : OwnZ base w (.slice a q c) (numK zs)) (hz : zs[k]? = some z) : ∃ g, a = some ⟨g, 0, none⟩ ∧ w.cell? ⟨g, k, none⟩ = some (.int .i64 z) := by
  have h1 := h.argI
  have hk := (List.getElem?_eq_some_iff.1 hz).1
  have hc := h1.cell
  rcases h.2 with ⟨e, h0⟩ | ⟨g, cap, cur, e, _⟩
  · rw [nums_len] at h0; omega
  · obtain ⟨rfl, _⟩ : a = some ⟨g, 0, none⟩ ∧ _ := by simpa using e
    refine ⟨g, rfl, ?_⟩
    have := hc _ rfl k (.int .i64 z) (by rw [List.getElem?_map, nums_get hz]; rfl)
    rw [add_plain, Nat.zero_add] at this
    exact this

/-- The name at a place. -/
def nmAt (is : List It) (z : Nat) : ByteArray := match is[z]? with
  | some i => i.1
  | none => ByteArray.empty
theorem nm_at {is : List It} {z : Nat} {i : It} (h : is[z]? = some i) : nmAt is z = i.1 := by unfold nmAt; rw [h]
theorem nm_first {is : List It} {x : ByteArray} {z : Nat} (h : Hog.firstK is x = some z) : nmAt is z = x := by
  obtain ⟨i, h1, h2, _⟩ := Hog.firstK_some h
  rw [nm_at h1, h2]
theorem walk_names {is : List It} {ns : List ByteArray} {f : ByteArray → Option Nat} {zs : List Nat} (h : Hog.Walk is ns f zs zs.length) (x : ByteArray) : x ∈ zs.map (nmAt is) ↔ Hog.Rch is ns x := by
  rw [h.ended x, List.mem_map]
  constructor
  · rintro ⟨z, hz, rfl⟩
    obtain ⟨y, hy, _⟩ := h.good z hz
    exact ⟨z, hz, by rw [nm_first hy]; exact hy⟩
  · rintro ⟨z, hz, hx⟩
    exact ⟨z, hz, nm_first hx⟩
theorem walk_each {is : List It} {ns : List ByteArray} {f : ByteArray → Option Nat} {zs : List Nat} {n : Nat} (h : Hog.Walk is ns f zs n) : (zs.map (nmAt is)).Nodup := by
  refine List.pairwise_map.2 (h.rest.each.imp_of_mem fun {a b} ha hb hne e => hne ?_)
  obtain ⟨x, hx, _⟩ := h.good a ha
  obtain ⟨y, hy, _⟩ := h.good b hb
  have e1 := nm_first hx
  have e2 := nm_first hy
  rw [e1, e2] at e
  subst e
  rw [hx] at hy
  exact Option.some.inj hy
theorem sorted_rise {l : List ByteArray} (h : l.Nodup) : Hog.rise (sortedL (plainT l)) := by
  have h1 := Hog.sorted_T (plainT l)
  have h2 : (sortedL (plainT l)).Nodup := by
    refine (List.mergeSort_perm (plainT l) _).nodup_iff.2 ?_
    unfold plainT
    exact List.pairwise_map.2 (h.imp fun {a b} hne e => hne (by rw [← Hog.data_mk a, e, Hog.data_mk]))
  unfold sortedL at h2 ⊢
  unfold Hog.rise
  exact (h1.and h2).imp fun {a b} k => Hog.le_lt k.1 k.2
theorem walk_sorted {is : List It} {ns R : List ByteArray} {f : ByteArray → Option Nat} {zs : List Nat} (h : Hog.Walk is ns f zs zs.length) (hR : RchIs is ns R) : (sortedL (plainT (zs.map (nmAt is)))).map Hog.mk = R := by
  refine rise_same (by rw [plain_mk]; exact sorted_rise (walk_each h)) hR.rise fun x => ?_
  rw [hR.mem, ← walk_names h, ← plain_mem, plain_mk]
  unfold sortedL
  rw [List.mem_mergeSort, plain_mem]

set_option maxRecDepth 100000 in
set_option maxHeartbeats 4000000 in
theorem reach_any (ao : Option Addr) (n c : Nat) (u : Value) (is : List It) (ns R : List ByteArray) (w : World) (hn : n = is.length) (h9 : n < 900000) (hI : ∀ (j : Nat) i, is[j]? = some i → ∃ b o, ao = some ⟨b, o, none⟩ ∧ b < w.heap.size ∧ ItAt w b (o + j * 3) i)
    (hI2 : Its w (.slice ao n c) is) (hu : Txt w u ns) (hl : ns.length < 900000) (hf : ∀ i ∈ is, i.2.1.length < 900000) (hR : RchIs is ns R) :
    Calls Tryz.prog 9 #[.slice ao n c, u] w fun e w' => ∃ a c', e = .returned (.slice a R.length c') ∧ Own w.heap.size w' (.slice a R.length c') R ∧ Below w.heap.size w w' := by
  have HI := hide hI
  have HI2 := hide hI2
  have HN := hide hn
  have HU := hide hu
  have HF := hide hf
  have HR := hide hR
  obtain ⟨au, cu, rfl⟩ := hu.form
  obtain ⟨nu, hnu⟩ : ∃ nu, nu = ns.length := ⟨_, rfl⟩
  rw [← hnu] at HU hl ⊢
  have HNU := hide hnu
  clear hI hI2 hn hu hf hR hnu
  go_enter Tryz.func9, Tryz.ntmps9
  go_wp2_with fail
  refine (firsts_ok _ is w HI2.out (by have := HN.out; omega)).mono ?_
  rintro e w1 ⟨m, rfl, hmw, hm1, hb1⟩
  have HM1 := hide hm1
  have HB1 := hide hb1
  have hm1lt := hm1.lt
  clear hm1 hb1
  obtain ⟨⟨f1, L1⟩, ht1⟩ : ∃ p, Hog.takeK (Hog.firstK is) ns = p := ⟨_, rfl⟩
  have HWK := hide (Hog.Walk.begin is ns)
  rw [ht1] at HWK
  go_wp2_with fail
  refine (take_ok m _ (Hog.firstK is) f1 L1 ns w1 HM1.out (HU.out.below HB1.out) (by have := HNU.out; omega) ht1).mono ?_
  rintro e w2 ⟨a2, c2, rfl, ho2, hm2, hg2⟩
  have HO2 := hide ho2
  have HM2 := hide hm2
  have hw01 : w.heap.size ≤ w1.heap.size := HB1.out.size
  have HB2 := hide (HB1.out.grown hg2 hw01 (fun k e => by cases e; exact hmw))
  have hB2 : w1.heap.size ≤ w2.heap.size := hg2.size
  clear ho2 hm2 hg2 ht1 HM1
  obtain ⟨q1, hq1⟩ : ∃ q, L1.length = q := ⟨_, rfl⟩
  rw [hq1] at HO2 ⊢
  have HQ1 := hide hq1
  have HLOW1 := hide HWK.out.low
  have hq1n : q1 ≤ n := by have := HLOW1.out.1; rw [hq1] at this; rw [HN.out]; exact this
  clear hq1
  go_wp2
  go_loopw [6, 7] (fun v i wr => ∃ (k q : Nat) (f : ByteArray → Option Nat) (zs : List Nat) (a : Option Addr) (c2 : Nat), k ≤ q ∧ q ≤ n ∧ v = .slice a q c2 ∧ i = .int .i64 k ∧ Hid (zs.length = q) ∧ Hid (Hog.Walk is ns f zs k) ∧ Hid (OwnZ w1.heap.size wr (.slice a q c2) (numK zs)) ∧ Hid (MapF wr m (intM f)) ∧ Hid (Below w.heap.size w wr) ∧ w1.heap.size ≤ wr.heap.size) (fun _ i _ => n - (intOf i).toNat)
  case atStart => exact ⟨0, q1, f1, L1, a2, c2, Nat.zero_le _, hq1n, rfl, rfl, HQ1.out, HWK.out, HO2.out, HM2.out, HB2.out, hB2⟩
  case round =>
    obtain ⟨k, q, f, zs, a, cz, hk, hqn, rfl, rfl, hlen, hwk, hown, hmf, hbl, hsz⟩ := hrel
    by_cases hlt : k < q
    case pos =>
      obtain ⟨z, hz⟩ : ∃ z, zs[k]? = some z := ⟨zs[k]'(by have := hlen.out; omega), List.getElem?_eq_some_iff.2 ⟨_, rfl⟩⟩
      have hzn : z < n := by rw [HN.out]; exact hwk.out.low.2 z (List.mem_of_getElem? hz)
      obtain ⟨i, hi⟩ : ∃ i, is[z]? = some i := ⟨is[z]'(by have := HN.out; omega), List.getElem?_eq_some_iff.2 ⟨_, rfl⟩⟩
      obtain ⟨g, hag, hcz⟩ := hown.out.at' hz
      obtain ⟨b, o, hab, hbw, hat⟩ := HI.out z i hi
      subst hag
      subst hab
      obtain ⟨ra, rn, rc, ta, tn, tc, _, k1, _, k3, _⟩ := hat.below hbl.out
      have KT := hide k3
      have hkq : (k : Int) < (q : Int) := by omega
      have hzi : (z : Int) < (n : Int) := by omega
      have hz0 : (0 : Int) ≤ (z : Int) := by omega
      obtain ⟨⟨f', L⟩, ht⟩ : ∃ p, Hog.takeK f i.2.1 = p := ⟨_, rfl⟩
      have HNX := hide (hwk.out.next hz hi)
      rw [ht] at HNX
      have HFI := hide (HF.out i (List.mem_of_getElem? hi))
      have HT := hide ht
      clear hz hi hat k3 ht
      go_wp2_with fail
      refine (take_ok m _ f f' L i.2.1 wr hmf.out KT.out HFI.out HT.out).mono ?_
      rintro e w3 ⟨a3, c3, rfl, ho3, hm3, hg3⟩
      have HA3 := hide ho3.argI
      have HM3 := hide hm3
      have HP3 := hide (hown.out.held hg3 hm1lt)
      have HB3 := hide (hbl.out.grown hg3 (by omega) (fun k e => by cases e; exact hmw))
      have hs3 : wr.heap.size ≤ w3.heap.size := hg3.size
      have HLOW := hide HNX.out.low
      have HQ : Hid ((zs ++ L).length = q + L.length) := by rw [List.length_append, hlen.out]; exact hide rfl
      have hqL : q + L.length ≤ n := by have := HLOW.out.1; have h5 := HQ.out; have h6 := HN.out; omega
      clear ho3 hm3 hg3 k1 hcz
      go_wp2_with (at_builtin; refine wpList_append_argZ rfl _ _ rfl w1.heap.size _ (numK zs) rfl HP3.out _ _ _ (numK L) rfl HA3.out (q + L.length) ?d1 (numK (zs ++ L)) ?d2 ?d3 ?d4 ?_)
      case d1 => rw [nums_len, nums_len, hlen.out]
      case d2 => rw [nums_app]
      case d3 => omega
      case d4 => omega
      intro b4 c4 w4 h4 hg4
      have HO4 := hide h4
      have HM4 := hide (HM3.out.grown hg4 (fun e => by have := (HP3.out.lt m e.symm).1; omega))
      have HB4 := hide (HB3.out.grown hg4 (by omega) (fun j e => by have := (HP3.out.lt j e).1; omega))
      have hs4 : w3.heap.size ≤ w4.heap.size := hg4.size
      clear h4 hg4
      go_wp2
      go_roundw
      case rel => exact ⟨k + 1, q + L.length, f', zs ++ L, b4, c4, by omega, hqL, rfl, by go_num, HQ.out, HNX.out, HO4.out, HM4.out, HB4.out, by omega⟩
      case measure => simp [intOf]; omega
    case neg =>
      have hkd : decide (k < q) = false := by rw [decide_eq_false_iff_not]; omega
      obtain rfl : k = q := by omega
      have HWE : Hid (Hog.Walk is ns f zs zs.length) := by have := hwk.out; rw [← hlen.out] at this; exact hide this
      have HSRT := hide (walk_sorted HWE.out HR.out)
      have HLS : Hid ((zs.map (nmAt is)).length = k) := by rw [List.length_map]; exact hlen
      have HRL : Hid (R.length = k) := by rw [← HSRT.out, List.length_map, sortedL_len]; unfold plainT; rw [List.length_map]; exact HLS
      rename World => wx
      have hki : (k : Int) ≤ 900000 := by omega
      clear hkd hk hlt
      go_wp2
      go_loopw [8, 36] (fun v i wr => ∃ (j : Nat) (a' : Option Addr) (c' : Nat), j ≤ k ∧ v = .slice a' j c' ∧ i = .int .i64 j ∧ Hid (Own wx.heap.size wr (.slice a' j c') ((zs.map (nmAt is)).take j)) ∧ Hid (Below wx.heap.size wx wr)) (fun _ i _ => k - (intOf i).toNat)
      case atStart => exact ⟨0, none, 0, Nat.zero_le _, rfl, rfl, by rw [List.take_zero]; exact Own.nil _ _, Below.refl _ _⟩
      case round =>
        rename World => wq
        obtain ⟨j, a', c', hj, rfl, rfl, hown2, hbl2⟩ := hrel
        have hxs : w.heap.size ≤ wx.heap.size := hbl.out.size
        by_cases hjk : j < k
        case pos =>
          obtain ⟨z, hz⟩ : ∃ z, zs[j]? = some z := ⟨zs[j]'(by have := hlen.out; omega), List.getElem?_eq_some_iff.2 ⟨_, rfl⟩⟩
          have hzn : z < n := by rw [HN.out]; exact HWE.out.low.2 z (List.mem_of_getElem? hz)
          obtain ⟨i, hi⟩ : ∃ i, is[z]? = some i := ⟨is[z]'(by have := HN.out; omega), List.getElem?_eq_some_iff.2 ⟨_, rfl⟩⟩
          obtain ⟨g, hag, hcz⟩ := (hown.out.below hbl2.out).at' hz
          obtain ⟨b, o, hab, hbw, hat⟩ := HI.out z i hi
          subst hag
          subst hab
          obtain ⟨ra, rn, rc, ta, tn, tc, k0, _⟩ := hat.below (below_two hbl.out hbl2.out)
          have hjq : (j : Int) < (k : Int) := by omega
          have hzi : (z : Int) < (n : Int) := by omega
          have hz0 : (0 : Int) ≤ (z : Int) := by omega
          have HTK : Hid ((zs.map (nmAt is)).take (j + 1) = (zs.map (nmAt is)).take j ++ [i.1]) := by
            rw [List.take_add_one, List.getElem?_map, hz]
            show _ ++ [nmAt is z] = _
            rw [nm_at hi]
          have HLJ : Hid (((zs.map (nmAt is)).take j).length = j) := by rw [List.length_take, HLS.out]; exact Nat.min_eq_left hj
          have hxr : wx.heap.size ≤ wq.heap.size := hbl2.out.size
          have HOA := hide (hown2.out.alloc (.cells #[.string i.1] 9))
          have HA := hide (arg_one wq i.1)
          clear hz hi hat
          go_wp2_with (at_builtin; refine wpList_append_one rfl _ _ rfl wx.heap.size _ _ rfl HOA.out _ i.1 rfl HA.out j HLJ.out _ rfl ?d1 ?d2 ?_)
          case d1 => omega
          case d2 => simp; omega
          intro b5 c5 w5 h5 hg5
          rw [← HTK.out] at h5
          have HO5 := hide h5
          have HB5 := hide ((hbl2.out.alloc hxr (.cells #[.string i.1] 9)).grown hg5 (by simp; omega) (fun t e => (HOA.out.lt t e).1))
          clear h5 hg5
          go_wp2
          go_roundw
          case rel => exact ⟨j + 1, b5, c5, by omega, rfl, by go_num, HO5, HB5⟩
          case measure => simp [intOf]; omega
        case neg =>
          have hjd : decide (j < k) = false := by rw [decide_eq_false_iff_not]; omega
          obtain rfl : j = k := by omega
          have HE : Hid ((zs.map (nmAt is)).take j = zs.map (nmAt is)) := List.take_of_length_le (by rw [HLS.out]; exact Nat.le_refl _)
          have HO5 : Hid (Own wx.heap.size wq (.slice a' j c') (zs.map (nmAt is))) := by have := hown2.out; rw [HE.out] at this; exact hide this
          clear hjk hj
          go_wp2_with fail
          refine (sortT_ok _ (zs.map (nmAt is)) R wx.heap.size wq HO5.out (by rw [HLS.out]; omega) HSRT.out).mono ?_
          rintro e w6 ⟨rfl, ho6, hg6⟩
          have HO6 := hide ho6
          have HB6 := hide (hbl2.out.grown hg6 hbl2.out.size (fun t e => (HO5.out.lt t e).1))
          clear ho6 hg6
          go_wp2
          go_ret
          exact ⟨a', c', by rw [HRL.out]; rfl, by rw [HRL.out]; exact HO6.out.base hxs, below_two hbl.out HB6.out⟩
theorem reach_ok (v u : Value) (is : List It) (ns R : List ByteArray) (w : World) (hI : Its w v is) (h9 : is.length < 900000) (hu : Txt w u ns) (hl : ns.length < 900000) (hf : ∀ i ∈ is, i.2.1.length < 900000) (hR : RchIs is ns R) :
    Calls Tryz.prog 9 #[v, u] w fun e w' => ∃ a c', e = .returned (.slice a R.length c') ∧ Own w.heap.size w' (.slice a R.length c') R ∧ Below w.heap.size w w' := by
  have hI2 := hI
  rcases hI with ⟨rfl, a, c, rfl⟩ | ⟨b, o, c, rfl, _, hr⟩
  · exact reach_any a 0 c u [] ns R w rfl (by omega) (fun j i h => by simp at h) hI2 hu hl hf hR
  · exact reach_any _ is.length c u is ns R w rfl h9 (fun j i h => ⟨b, o, rfl, hr.1, hr.2 j i h⟩) hI2 hu hl hf hR
end Go.Proofs.YtinjbijigjfdfaaGreatDoor
