/- The walk of ItemNames. -/
import Derived.Test.YtggojmimodpfaaaDoorO2
import Derived.Test.YtggojmimodpfaaaDoorBs
import Derived.Test.YtggojmimodpfaaaDoorRdZ
import Derived.Laws.Bits64
import Derived.Laws.BitsAllLaws
namespace Go.Proofs.YtggojmimodpfaaaDoor
open Go.RowKit

def hashB : ByteArray := ⟨#[48, 49, 50, 51, 52, 53, 54, 55, 56, 57, 97, 98, 99, 100, 102, 103, 104, 105, 106, 107, 108, 109, 110, 112, 113, 114, 115, 118, 119, 120, 121, 122]⟩
def restB : ByteArray := ⟨#[97, 98, 99, 100, 101, 102, 103, 104, 105, 106, 107, 108, 109, 110, 111, 112, 113, 114, 115, 116, 117, 118, 119, 120, 121, 122, 48, 49, 50, 51, 52, 53, 54, 55, 56, 57, 46, 43, 95, 45]⟩
theorem hash_in (d : Nat) (hd : d < hashB.size) : hashB[d]'hd ∈ Hog.hashG := by
  have h := at_byte hashB d hd
  exact List.mem_of_getElem? (l := Hog.hashG) (i := d) h
theorem rest_in (d : Nat) (hd : d < restB.size) : restB[d]'hd ∈ Hog.restG := by
  have h := at_byte restB d hd
  exact List.mem_of_getElem? (l := Hog.restG) (i := d) h
theorem first_in (d : Nat) (hd : d < restB.size) (h36 : d < 36) : restB[d]'hd ∈ Hog.firstG := by
  obtain ⟨c, h1, h2⟩ := more_first d h36
  have h := at_byte restB d hd
  have e : Hog.restG[d]? = some (restB[d]'hd) := h
  rw [h1] at e
  rw [← Option.some.inj e]
  exact h2
theorem digit5 (h j : Nat) (hh : h < 18446744073709551616) : bits .and .u64 ((h : Int) / 2 ^ (5 * j)) 31 = ((h / 2 ^ (5 * j) % 32 : Nat) : Int) := by
  have e : (h : Int) / 2 ^ (5 * j) = ((h / 2 ^ (5 * j) : Nat) : Int) := by rw [Int.natCast_ediv, Int.natCast_pow]; rfl
  have hl : h / 2 ^ (5 * j) < 18446744073709551616 := Nat.lt_of_le_of_lt (Nat.div_le_self _ _) hh
  rw [e]
  have := u64_and_nat (h / 2 ^ (5 * j)) 31 hl (by decide)
  rw [Nat.and_two_pow_sub_one_eq_mod _ 5] at this
  exact this
theorem or128 (x : UInt8) : ∃ y : UInt8, bits .or .u8 (x.toNat : Int) 128 = (y.toNat : Int) ∧ 128 ≤ y.toNat := by
  have hx := x.toNat_lt
  have h1 := u8_or_nat x.toNat 128 hx (by decide)
  have h2 : x.toNat ||| 128 < 2 ^ 8 := Nat.or_lt_two_pow hx (by decide)
  refine ⟨UInt8.ofNat (x.toNat ||| 128), ?_, ?_⟩
  · rw [UInt8.toNat_ofNat', Nat.mod_eq_of_lt h2]; exact h1
  · rw [UInt8.toNat_ofNat', Nat.mod_eq_of_lt h2]; exact Nat.right_le_or

theorem OwnB.stored {base : Nat} {w : World} {g n cap : Nat} {l : List UInt8} (h : OwnB base w (.slice (some ⟨g, 0, none⟩) n cap) l) (j : Nat) (y : UInt8) :
    OwnB base (w.setCell ⟨g, j, none⟩ (.int .u8 y.toNat)) (.slice (some ⟨g, 0, none⟩) n cap) (l.set j y) := by
  have hn := h.argAt.1
  subst hn
  have h2 := World.ownsRow.stored h j (.int .u8 y.toNat)
  unfold OwnB
  rw [List.length_set]
  have e : bcells (l.set j y) = (bcells l).set j (.int .u8 y.toNat) := by unfold bcells; rw [List.map_set]
  rw [e]
  exact h2.1
theorem OwnB.block {base : Nat} {w : World} {ao : Option Addr} {n c : Nat} {l : List UInt8} (h : OwnB base w (.slice ao n c) l) (hn : 0 < n) : ∃ g, ao = some ⟨g, 0, none⟩ ∧ base ≤ g ∧ g < w.heap.size := by
  rcases h.2 with ⟨e, _⟩ | ⟨g, cap, cur, e, hb, hg, _⟩
  · simp only [Value.slice.injEq] at e; omega
  · simp only [Value.slice.injEq] at e; exact ⟨g, e.1, hb, (Array.getElem?_eq_some_iff.1 hg).1⟩

set_option maxRecDepth 100000 in
set_option maxHeartbeats 2000000 in
theorem names_walk (h : Nat) (ao : Option Addr) (m c : Nat) (zs : List Int) (at' : Int) (x : UInt8) (w : World) (hsh : w.ShapedOpen Tryd.prog) (hh : h < 18446744073709551616) (hz : ArgZ w ao m c zs) (hm : m ≤ maxLen) :
    Calls Tryd.prog 4 #[.int .u64 h, .slice ao m c, .int .i64 at', .int .u8 x.toNat] w fun e w' => e = .returned (.bool true) ∧ Below w.heap.size w w' := by
  unfold maxLen at hm
  have HSH := hide hsh
  have HZ := hide hz
  have HZL := hide hz.len
  clear hz hsh
  by_cases h21 : 21 < m
  · have h21' : (21 : Int) < (m : Int) := by omega
    go_enter Tryd.func4, Tryd.ntmps4
    go_wp2_with fail
    refine (awake7_ok w w (Ok.start HSH.out)).mono ?_
    rintro e w3 ⟨rfl, ok3, _⟩
    go_wp2
    go_ret
    exact ⟨rfl, ok3.2⟩
  · have h21' : (m : Int) ≤ 21 := by omega
    by_cases h0 : m = 0
    · subst h0
      go_enter Tryd.func4, Tryd.ntmps4
      go_wp2_with fail
      refine (awake7_ok w w (Ok.start HSH.out)).mono ?_
      rintro e w3 ⟨rfl, ok3, _⟩
      go_wp2
      go_ret
      exact ⟨rfl, ok3.2⟩
    · have h0' : ((m : Int) == 0) = false := by rw [beq_eq_false_iff_ne]; omega
      obtain ⟨bz, oz, rfl, hbz⟩ := HZ.out.plain (by omega)
      go_enter Tryd.func4, Tryd.ntmps4
      go_wp2
      go_loopw [11, 12] (fun v i wr => ∃ (k : Nat) (l : List UInt8) (b : Option Addr) (d : Nat), k ≤ 8 ∧ i = .int .i64 k ∧ v = .slice b k d ∧ Hid (Pre l) ∧ Hid (OwnB w.heap.size wr (.slice b k d) l) ∧ Hid (Below w.heap.size w wr)) (fun _ i _ => 8 - (intOf i).toNat)
      case atStart => exact ⟨0, [], none, 0, Nat.zero_le _, rfl, rfl, Pre.nil, OwnB.nil _ _, Below.refl _ _⟩
      case round =>
        obtain ⟨k, l, b, d, hk, rfl, rfl, HP, HO, HB⟩ := hrel
        have HL := hide (HO.out.argAt.1).symm
        have hbw : w.heap.size ≤ wr.heap.size := HB.out.size
        by_cases hlt : k < 8
        · have hki : (k : Int) < 8 := by omega
          obtain ⟨q, hq⟩ : ∃ q, q = h / 2 ^ (5 * k) % 32 := ⟨_, rfl⟩
          have hand : bits .and .u64 ((h : Int) / 2 ^ (5 * k)) 31 = (q : Int) := by rw [hq]; exact digit5 h k hh
          have hq32 : q < 32 := by omega
          have hq0 : (0 : Int) ≤ (q : Int) := by omega
          have hq1 : (q : Int) < 32 := by omega
          clear hq
          obtain ⟨ls, hls⟩ : ∃ ls, l ++ [hashB[q]'(show q < hashB.size from hq32)] = ls := ⟨_, rfl⟩
          have HLS := hide hls
          clear hls
          go_wp2_with (at_builtin; refine wpList_append_b1 rfl _ _ rfl w.heap.size _ _ rfl HO.out _ rfl (hashB[q]'(show q < hashB.size from hq32)) ?c1 k HL.out _ HLS.out ?c2 hbw ?_)
          case c1 => rfl
          case c2 => omega
          intro b1 c1 w1 ho1 hl1
          have HO1 := hide ho1
          have HB1 := hide (HB.out.trans (hl1.below HO.out hbw))
          clear ho1 hl1
          go_wp2
          go_roundw
          case rel => exact ⟨k + 1, ls, b1, c1, by omega, by go_num, rfl, by rw [← HLS.out]; exact HP.out.hashed (by rw [HL.out]; exact hlt) (hash_in q _), HO1, HB1⟩
          case measure => simp [intOf]; omega
        · have hk8 : (8 : Int) ≤ (k : Int) := by omega
          have HK : Hid (k = 8) := by have : k = 8 := by omega
                                      exact this
          obtain ⟨l9, hl9⟩ : ∃ l9, l ++ [45] = l9 := ⟨_, rfl⟩
          have HL9 := hide hl9
          have HP9 : Hid (Pre l9) := by rw [← hl9]; exact HP.out.struck (by rw [HL.out]; exact HK.out)
          clear hl9
          go_wp2_with (at_builtin; refine wpList_append_b1 rfl _ _ rfl w.heap.size _ _ rfl HO.out _ rfl 45 ?c1 k HL.out _ HL9.out ?c2 hbw ?_)
          case c1 => rfl
          case c2 => omega
          intro b9 c9 w9 ho9 hl9
          have HO9 := hide ho9
          have HB9 := hide (HB.out.trans (hl9.below HO.out hbw))
          clear ho9 hl9 HB hbw HO
          go_wp2
          go_loopw [11, 13, 14] (fun v i _ wq => ∃ (j n : Nat) (l : List UInt8) (b : Option Addr) (d : Nat), j ≤ m ∧ i = .int .i64 j ∧ v = .slice b n d ∧ Hid (n = 9 + j) ∧ Hid (Pre l) ∧ Hid (OwnB w.heap.size wq (.slice b n d) l) ∧ Hid (Below w.heap.size w wq)) (fun _ i _ _ => m - (intOf i).toNat)
          case atStart => exact ⟨0, k + 1, l9, b9, c9, Nat.zero_le _, rfl, rfl, by rw [HK.out]; exact hide rfl, HP9, HO9, HB9⟩
          case round =>
            clear HO9 HB9 HP9 HL9 HP HL
            obtain ⟨j, n, l, b, d, hj, rfl, rfl, HN, HP, HO, HB⟩ := hrel
            have HL := hide (HO.out.argAt.1).symm
            have hbw : w.heap.size ≤ wr.heap.size := HB.out.size
            by_cases hlt : j < m
            · have hji : (j : Int) < (m : Int) := by omega
              obtain ⟨z, hz⟩ : ∃ z, zs[j]? = some z := ⟨zs[j]'(by have := HZL.out; omega), List.getElem?_eq_some_iff.2 ⟨_, rfl⟩⟩
              have hcz := (HZ.out.below HB.out).at hz
              clear hz
              by_cases hj0 : j = 0
              · subst hj0
                rw [Nat.add_zero] at hcz
                go_wp2_with fail
                refine (low_any z 40 wr (by decide) (by decide)).mono ?_
                rintro e w2 ⟨r0, rfl, _, rfl⟩
                go_wp2_with fail
                refine (low_any z 36 _ (by decide) (by decide)).mono ?_
                rintro e w2 ⟨r, rfl, hr36, rfl⟩
                have hr40 : r < 40 := by omega
                have hr36' : r < 36 := by omega
                have hr0 : (0 : Int) ≤ (r : Int) := by omega
                have hr1 : (r : Int) < 40 := by omega
                obtain ⟨ls, hls⟩ : ∃ ls, l ++ [restB[r]'(show r < restB.size from hr40)] = ls := ⟨_, rfl⟩
                have HLS := hide hls
                clear hls
                go_wp2_with (at_builtin; refine wpList_append_b1 rfl _ _ rfl w.heap.size _ _ rfl HO.out _ rfl (restB[r]'(show r < restB.size from hr40)) ?e1 n HL.out _ HLS.out ?e2 hbw ?_)
                case e1 => rfl
                case e2 => have := HN.out; omega
                intro b1 c1 w1 ho1 hl1
                have HO1 := hide ho1
                have HB1 := hide (HB.out.trans (hl1.below HO.out hbw))
                clear ho1 hl1
                go_wp2
                go_roundw
                case rel => exact ⟨1, n + 1, ls, b1, c1, by omega, by go_num, rfl, by rw [HN.out]; exact hide rfl, by rw [← HLS.out]; exact HP.out.behind (by rw [HL.out, HN.out]; omega) (rest_in r _) (fun _ => first_in r _ hr36'), HO1, HB1⟩
                case measure => simp [intOf]; omega
              · have hj0' : ((j : Int) == 0) = false := by rw [beq_eq_false_iff_ne]; omega
                go_wp2_with fail
                refine (low_any z 40 wr (by decide) (by decide)).mono ?_
                rintro e w2 ⟨r, rfl, hr, rfl⟩
                have hr40 : r < 40 := by omega
                have hr0 : (0 : Int) ≤ (r : Int) := by omega
                have hr1 : (r : Int) < 40 := by omega
                obtain ⟨ls, hls⟩ : ∃ ls, l ++ [restB[r]'(show r < restB.size from hr40)] = ls := ⟨_, rfl⟩
                have HLS := hide hls
                clear hls
                go_wp2_with (at_builtin; refine wpList_append_b1 rfl _ _ rfl w.heap.size _ _ rfl HO.out _ rfl (restB[r]'(show r < restB.size from hr40)) ?f1 n HL.out _ HLS.out ?f2 hbw ?_)
                case f1 => rfl
                case f2 => have := HN.out; omega
                intro b1 c1 w1 ho1 hl1
                have HO1 := hide ho1
                have HB1 := hide (HB.out.trans (hl1.below HO.out hbw))
                clear ho1 hl1
                go_wp2
                go_roundw
                case rel => exact ⟨j + 1, n + 1, ls, b1, c1, by omega, by go_num, rfl, by rw [HN.out]; exact hide rfl, by rw [← HLS.out]; exact HP.out.behind (by rw [HL.out, HN.out]; omega) (rest_in r _) (fun e => by rw [HL.out, HN.out] at e; omega), HO1, HB1⟩
                case measure => simp [intOf]; omega
            · have hjm : (m : Int) ≤ (j : Int) := by omega
              have hn : n = 9 + m := by have := HN.out; omega
              have hn10 : 10 ≤ n := by omega
              have hn30 : n ≤ 30 := by omega
              obtain ⟨g, rfl, hg1, hg2⟩ := HO.out.block (by omega)
              have HNM : Hid (Hog.nameL l = true) := Hog.name_iff.2 (HP.out.name (by rw [HL.out]; exact hn10) (by rw [HL.out]; exact hn30))
              obtain ⟨s, hs⟩ : ∃ s, s = Hog.mk l := ⟨_, rfl⟩
              have hsd : s.data.toList = l := by rw [hs, Hog.mk_data]
              have hss : s.size = n := by rw [hs, Hog.mk_size, HL.out]
              have h8s : (8 : Int) ≤ (s.size : Int) := by omega
              have h9s : (9 : Int) ≤ (s.size : Int) := by omega
              have hz1 : s.size ≤ 30 := by omega
              have hz2 : 10 ≤ s.size := by omega
              have HSD := hide hsd
              have hstr := str_bytes HO.out.argAt.2
              rw [← hs] at hstr
              have HNS : Hid (Hog.nameL s.data.toList = true) := by rw [hsd]; exact HNM.out
              have HC1 : Hid (∀ p : Later wr, Calls Tryd.prog 13 #[.string s] p.w1 fun e w' => e = .returned (.bool true) ∧ Below p.w1.heap.size p.w1 w') := fun p => name_ok s true p.w1 (by omega) HNS.out
              have HC2 : Hid (∀ p : Later wr, Calls Tryd.prog 15 #[.string s] p.w1 fun e w' => e = .returned (.string (s.extract 0 8)) ∧ Below p.w1.heap.size p.w1 w') := fun p => hash_ok s _ p.w1 (by omega) (hash_is HNS.out)
              have hne := later_one wr
              have HKN := hide hn
              clear hs hsd hss HNM hn
              go_wp2
              refine wp_region_later (by kernel_rfl) (by kernel_rfl) ?_
              repeat (first
                | go_big_quiet_step ((first
                  | (go_at_call 13; exact Calls.later_of (HC1.out _))
                  | (go_at_call 15; exact Calls.later_of (HC2.out _)))))
              refine wpQuiet_nil ?_
              intro W5 hw'
              have hbq := later_below hw'
              have HB5 := hide (below_two HB.out hbq)
              have HO5 := hide (HO.out.below hbq)
              have hg5 : g < W5.heap.size := Nat.lt_of_lt_of_le hg2 hbq.size
              clear hw' hbq HC1 HC2 hne hstr HO HB
              go_wp2_with fail
              refine (low_any at' n W5 (by omega) (by omega)).mono ?_
              rintro e w6 ⟨r, rfl, hrn, rfl⟩
              have hr0 : (0 : Int) ≤ (r : Int) := by omega
              obtain ⟨y, hy, hy128⟩ := or128 x
              obtain ⟨y0, hy0⟩ : ∃ y0, l[r]? = some y0 := ⟨l[r]'(by have := HL.out; omega), List.getElem?_eq_some_iff.2 ⟨_, rfl⟩⟩
              have hc5 := HO5.out.argAt.2.at hy0
              rw [Nat.zero_add] at hc5
              have hf5 : w6.frozen? ⟨g, r, none⟩ = false := World.ownsRow.frozenAt (n := n) (by have h9 := HO5.out; unfold OwnB at h9; rw [HL.out] at h9; exact h9) r
              have HO6 := hide (HO5.out.stored r y)
              have HB6 := hide (HB5.out.setCell (p := ⟨g, r, none⟩) hg1 (.int .u8 y.toNat))
              obtain ⟨t, ht⟩ : ∃ t, t = Hog.mk (l.set r y) := ⟨_, rfl⟩
              have hst2 := str_bytes HO6.out.argAt.2
              rw [← ht] at hst2
              have HNT : Hid (Hog.nameL t.data.toList = false) := by rw [ht, Hog.mk_data]; exact turned_not (by rw [HL.out]; omega) hy128
              have htz : t.size ≤ 1000 := by rw [ht, Hog.mk_size, List.length_set, HL.out]; omega
              have HE9 : Hid (Hog.nameL (s.extract 0 9).data.toList = false) := Hog.name_not fun k => by
                have := k.low
                rw [take_mk, Hog.mk_data, List.length_take] at this
                omega
              have HE21 : Hid (Hog.nameL (s ++ ⟨#[97, 97, 97, 97, 97, 97, 97, 97, 97, 97, 97, 97, 97, 97, 97, 97, 97, 97, 97, 97, 97]⟩).data.toList = false) := Hog.name_not fun k => by
                have := k.high
                rw [app_data, List.length_append, ← Hog.size_len] at this
                have e : (ByteArray.mk #[97, 97, 97, 97, 97, 97, 97, 97, 97, 97, 97, 97, 97, 97, 97, 97, 97, 97, 97, 97, 97]).data.toList.length = 21 := rfl
                omega
              have z9 : (s.extract 0 9).size ≤ 1000 := by rw [take_mk, Hog.mk_size, List.length_take]; omega
              have z21 : (s ++ ⟨#[97, 97, 97, 97, 97, 97, 97, 97, 97, 97, 97, 97, 97, 97, 97, 97, 97, 97, 97, 97, 97]⟩).size ≤ 1000 := by
                rw [Hog.size_len, app_data, List.length_append, ← Hog.size_len]
                have e : (ByteArray.mk #[97, 97, 97, 97, 97, 97, 97, 97, 97, 97, 97, 97, 97, 97, 97, 97, 97, 97, 97, 97, 97]).data.toList.length = 21 := rfl
                omega
              clear ht hy0 HO5 HB5 HO6
              go_wp2_with fail
              refine (name_ok t false _ (by omega) HNT.out).mono ?_
              rintro e w7 ⟨rfl, hb7⟩
              have HB7 := hide (below_two HB6.out hb7)
              clear hb7 hst2 hc5 hf5 HB6
              go_wp2_with fail
              refine (hash_ok t ⟨#[]⟩ w7 (by omega) (hash_not HNT.out)).mono ?_
              rintro e w8 ⟨rfl, hb8⟩
              have HB8 := hide (below_two HB7.out hb8)
              clear hb8 HB7
              go_wp2_with fail
              refine (name_ok _ false w8 (by omega) HE9.out).mono ?_
              rintro e w9 ⟨rfl, hb9⟩
              have HB9 := hide (below_two HB8.out hb9)
              clear hb9 HB8
              go_wp2_with fail
              refine (name_ok _ false w9 (by omega) HE21.out).mono ?_
              rintro e w10 ⟨rfl, hb10⟩
              have HB10 := hide (below_two HB9.out hb10)
              clear hb10 HB9
              go_wp2_with fail
              refine (awake7_ok w w10 ⟨HSH.out, HB10.out⟩).mono ?_
              rintro e w11 ⟨rfl, ok11, _⟩
              go_wp2
              go_ret
              exact ⟨rfl, ok11.2⟩
end Go.Proofs.YtggojmimodpfaaaDoor
