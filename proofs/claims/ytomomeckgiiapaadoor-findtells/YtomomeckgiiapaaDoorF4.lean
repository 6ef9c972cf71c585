/- The walk of find.List. -/
import Derived.Test.YtomomeckgiiapaaDoorF3
import Derived.Test.YtomomeckgiiapaaDoorJ2
namespace Go.Proofs.YtomomeckgiiapaaDoor
open Go.RowKit

theorem Own.allocF {base : Nat} {w : World} {v : Value} {xs : List ByteArray} (h : Own base w v xs) (o : Obj) : Own base (w.alloc o) v xs := h.below (below_box _ _)
theorem Own.oneF (w : World) (x : ByteArray) : Own w.heap.size (w.alloc (.cells #[.string x] 9)) (.slice (some ⟨w.heap.size, 0, none⟩) 1 1) [x] := Own.made w [x] (by simp [maxLen])

/-- What List tells. -/
def listB (t : List Nd) (p : ByteArray) : Bool := (lookP t p).2 && decide ((lookP t p).1.2.1 = 1)
def listL (t : List Nd) (p : ByteArray) : List (List UInt8) := if listB t p = true then names t p.data.toList else []
theorem names_step {t : List Nd} {k : Nat} {n : Nd} {d : List UInt8} (hn : t[k]? = some n) : names (t.take (k + 1)) d = names (t.take k) d ++ if inDir d n = true then [Hog.baseL (key n)] else [] := by
  unfold names
  rw [filter_step hn, List.map_append]
  by_cases h : inDir d n = true
  · rw [if_pos h, if_pos h]; rfl
  · rw [if_neg h, if_neg h]; rfl
theorem names_len (t : List Nd) (k : Nat) (d : List UInt8) : (names (t.take k) d).length ≤ k := by
  unfold names
  rw [List.length_map]
  exact Nat.le_trans (List.length_filter_le _ _) (List.length_take_le _ _)
theorem ret_sb {a b : Value} {x y : Bool} (h : a = b) (k : x = y) : Ending.returned (.tuple #[a, .bool x]) = .returned (.tuple #[b, .bool y]) := by rw [h, k]
theorem text_eq {q : List UInt8} {p : ByteArray} : ((Hog.mk q).toList == p.toList) = decide (q = p.data.toList) := by
  rw [Hog.mk_toList, Lib.toList_data]
  by_cases h : q = p.data.toList
  · rw [h]; simp
  · rw [decide_eq_false h, beq_eq_false_iff_ne]; exact h

set_option maxRecDepth 100000 in
set_option maxHeartbeats 1000000 in
theorem list_ok (b o c : Nat) (t : List Nd) (p : ByteArray) (l : List (List UInt8)) (f : Bool) (w0 w : World) (h : Ok w0 w) (hp : ∀ n ∈ t, n.1.size < 999999) (hr : Run w b o t) (hc : t.length ≤ c) (hm : t.length < 900000) (hf : listB t p = f) (hl : listL t p = l) :
    Calls Tryd.prog 12 #[.slice (some ⟨b, o, none⟩) t.length c, .string p] w fun e w' => ∃ a' c', e = .returned (.tuple #[.slice a' l.length c', .bool f]) ∧ Own w.heap.size w' (.slice a' l.length c') (l.map Hog.mk) ∧ Ok w0 w' ∧ Below w.heap.size w w' := by
  obtain ⟨x, g, hx⟩ : ∃ x g, lookP t p = (x, g) := ⟨_, _, rfl⟩
  have HP := hide hp
  have HR := hide hr
  have HX := hide hx
  have HF := hide hf
  have HL := hide hl
  obtain ⟨m, hmt⟩ : ∃ m, m = t.length := ⟨_, rfl⟩
  have HMT := hide hmt
  have hm' : m < 900000 := by omega
  rw [← hmt]
  clear hp hr hx hf hl hmt
  go_enter Tryd.func12, Tryd.ntmps12
  go_wp2_with fail
  rw [HMT.out]
  refine (lookup_ok _ t p x g w0 w h HP.out (HR.out.nods hc) hm HX.out).mono ?_
  rintro e w1 ⟨rfl, ok1, hb1⟩
  rw [← HMT.out]
  cases g with
  | false =>
    have e1 : f = false := by rw [← HF.out]; unfold listB; rw [HX.out]; rfl
    subst e1
    have e2 : l = [] := by rw [← HL.out]; unfold listL; rw [if_neg (by rw [HF.out]; decide)]
    subst e2
    have HB := hide (hb1.trans ((below_box w1 (.cells #[.string x.1, .int .i64 x.2.1, .string x.2.2] 27)).mono hb1.size))
    clear hb1
    go_wp2
    go_ret2
    exact ⟨none, 0, rfl, Own.nil _ _, h.next HB.out, HB.out⟩
  | true =>
    by_cases hk : x.2.1 = 1
    · have e1 : f = true := by rw [← HF.out]; unfold listB; rw [HX.out]; simp [hk]
      subst e1
      have e2 : names t p.data.toList = l := by rw [← HL.out]; unfold listL; rw [if_pos HF.out]
      have HE := hide e2
      clear e2
      obtain ⟨xp, xk, xd⟩ := x
      obtain rfl : xk = 1 := hk
      have HB := hide (hb1.trans ((below_box w1 (.cells #[.string xp, .int .i64 1, .string xd] 27)).mono hb1.size))
      have HR1 := hide (HR.out.below HB.out HR.out.1)
      clear hb1 ok1 HL
      go_wp2
      go_loopw [8, 10, 11, 12, 28] (fun s _ _ _ i wr => ∃ (k : Nat) (ys : List (List UInt8)) (a' : Option Addr) (c' : Nat), k ≤ m ∧ i = .int .i64 k ∧ s = .slice a' ys.length c' ∧ Hid (ys = names (t.take k) p.data.toList) ∧ Hid (Own w.heap.size wr (.slice a' ys.length c') (ys.map Hog.mk)) ∧ Hid (Below w.heap.size w wr)) (fun _ _ _ _ i _ => m - (intOf i).toNat)
      case atStart => exact ⟨0, [], none, 0, Nat.zero_le _, rfl, rfl, by rw [List.take_zero]; rfl, Own.nil _ _, HB⟩
      case round =>
        obtain ⟨k, ys, a', c', hk, rfl, rfl, HYS, HO, HBR⟩ := hrel
        by_cases hlt : k < m
        · obtain ⟨n, hn⟩ : ∃ n, t[k]? = some n := ⟨t[k]'(by have := HMT.out; omega), List.getElem?_eq_some_iff.2 ⟨_, rfl⟩⟩
          obtain ⟨g1, g2, g3⟩ := (HR.out.2 k n hn).below HBR.out HR.out.1
          have HN := hide hn
          have hnp := HP.out n (List.mem_of_getElem? hn)
          clear hn
          have okr : Ok w0 wr := h.next HBR.out
          obtain ⟨q, hq⟩ : ∃ q, Hog.parentL n.1.data.toList = q := ⟨_, rfl⟩
          obtain ⟨pb, hpb⟩ : ∃ pb, Hog.parentOk n.1.data.toList = pb := ⟨_, rfl⟩
          have HQ := hide hq
          have HPB := hide hpb
          clear hq hpb
          have hbox : At (wr.alloc (.cells #[.string n.1, .int .i64 n.2.1, .string n.2.2] 27)) wr.heap.size 0 n := ⟨by simp, by simp, by simp⟩
          have HX1 := hide hbox
          clear hbox
          go_wp2_with fail
          refine (parent_ok n.1 q pb w0 _ (okr.alloc _) hnp HQ.out HPB.out).mono ?_
          rintro e w3 ⟨rfl, ok3, hb3⟩
          obtain ⟨x1, x2, x3⟩ := HX1.out.below hb3 (by simp)
          have hb3' : Below wr.heap.size wr w3 := (below_box wr _).trans (hb3.mono (by simp))
          have HB3 := hide (HBR.out.trans (hb3'.mono HBR.out.size))
          have HO3 := hide (HO.out.below hb3')
          clear hb3 hb3' HX1 g1 g2 g3
          cases pb with
          | false =>
            have hin : inDir p.data.toList n = false := by unfold inDir; rw [show Hog.parentOk (key n) = false from HPB.out]; rfl
            have HIN := hide hin
            clear hin
            go_wp2
            go_roundw
            case rel => exact ⟨k + 1, ys, a', c', by omega, by go_num, rfl, by rw [names_step HN.out, if_neg (by rw [HIN.out]; decide), List.append_nil]; exact HYS, HO3, HB3⟩
            case measure => simp [intOf]; omega
          | true =>
            have hte := text_eq (q := q) (p := p)
            by_cases hqp : q = p.data.toList
            · rw [decide_eq_true hqp] at hte
              have hin : inDir p.data.toList n = true := by unfold inDir; rw [show Hog.parentOk (key n) = true from HPB.out, show Hog.parentL (key n) = q from HQ.out, decide_eq_true hqp]; rfl
              have HIN := hide hin
              clear hin hqp
              obtain ⟨bs, hbs⟩ : ∃ bs, Hog.baseL n.1.data.toList = bs := ⟨_, rfl⟩
              have HBS := hide hbs
              clear hbs
              go_wp2_with fail
              refine (base_ok n.1 bs w0 _ ok3 hnp HBS.out).mono ?_
              rintro e w4 ⟨rfl, ok4, hb4⟩
              have HB4 := hide (HB3.out.trans (hb4.mono HB3.out.size))
              have HO4 := hide ((HO3.out.below hb4).allocF (.cells #[.string (Hog.mk bs)] 9))
              have hyl : ys.length ≤ k := by rw [HYS.out]; exact names_len t k _
              have hsz := HB4.out.size
              clear hb4
              go_wp2_with (at_builtin; refine wpList_append_texts rfl _ _ rfl w.heap.size w4.heap.size _ _ (ys.map Hog.mk) [Hog.mk bs] rfl HO4.out rfl (Own.oneF w4 _) (by simp; omega) (by simp; omega) ?_)
              intro b5 c5 w5 ho5 hb5
              have HB5 := hide (HB4.out.trans (((below_box w4 _).mono hsz).trans hb5))
              have HO5 : Hid (Own w.heap.size w5 (.slice b5 (ys ++ [bs]).length c5) ((ys ++ [bs]).map Hog.mk)) := by
                show Own _ _ _ _
                simpa using ho5
              clear ho5 hb5
              go_wp2
              go_roundw
              case rel => exact ⟨k + 1, ys ++ [bs], b5, c5, by omega, by go_num, by simp, hide (by rw [names_step HN.out, if_pos HIN.out, ← HYS.out]; exact congrArg (fun z => ys ++ [z]) HBS.out.symm), HO5, HB5⟩
              case measure => simp [intOf]; omega
            · rw [decide_eq_false hqp] at hte
              have hin : inDir p.data.toList n = false := by unfold inDir; rw [show Hog.parentL (key n) = q from HQ.out, decide_eq_false hqp, Bool.and_false]
              have HIN := hide hin
              clear hin hqp
              go_wp2
              go_roundw
              case rel => exact ⟨k + 1, ys, a', c', by omega, by go_num, rfl, by rw [names_step HN.out, if_neg (by rw [HIN.out]; decide), List.append_nil]; exact HYS, HO3, HB3⟩
              case measure => simp [intOf]; omega
        · go_wp2
          go_ret2
          have e : k = t.length := by have := HMT.out; omega
          have e3 : ys = l := by rw [HYS.out, e, List.take_length, HE.out]
          subst e3
          exact ⟨a', c', rfl, HO.out, h.next HBR.out, HBR.out⟩
    · have e1 : f = false := by rw [← HF.out]; unfold listB; rw [HX.out]; simp [hk]
      subst e1
      have e2 : l = [] := by rw [← HL.out]; unfold listL; rw [if_neg (by rw [HF.out]; decide)]
      subst e2
      have HB := hide (hb1.trans ((below_box w1 (.cells #[.string x.1, .int .i64 x.2.1, .string x.2.2] 27)).mono hb1.size))
      clear hb1
      go_wp2
      go_ret2
      exact ⟨none, 0, rfl, Own.nil _ _, h.next HB.out, HB.out⟩
end Go.Proofs.YtomomeckgiiapaaDoor
