/- The walk of head's Lay. -/
import Derived.Test.YtecjkkipglldlaaGreatDoorJ23
import Derived.Test.YtecjkkipglldlaaGreatDoorPlainA
namespace Go.Proofs.YtecjkkipglldlaaGreatDoor
open Go.RowKit Hog

/-- The same as one step of a region that draws its order. -/
theorem step_copy_str {ops : Array Oper} {o : Oper} {a : Act} {w : World} {K : Act → World → Prop} {Q : Exit → Act → World → Prop} {E : Prop} (hgd : o.guard = none) (d s : Operand)
    (ho : o.op = .call { callee := .builtin .copy, args := #[d, s], argTypes := #[22, 9] })
    (g k m c : Nat) (hd : a.eval d = .slice (some ⟨g, k, none⟩) m c) (t : ByteArray) (hs : a.eval s = .string t) (l xs l' : List UInt8) (hg : RowH w g l) (hx : t.data.toList = xs) (hl : splice l k xs = l')
    (hle : xs.length ≤ m) (hfit : k + xs.length ≤ l.length) (B : Nat) (w0 : World) (hb : Below B w0 w) (hB : B ≤ g)
    (h : ∀ w', Hid (RowH w' g l') → Hid (Below B w0 w') → K (a.put o.dst (goInt t.size)) w') : if Region.wanted o (yielded ops a.tmps) = true then Oper.wp Tryz.prog o a w K Q else E := by
  have hw : Region.wanted o (yielded ops a.tmps) = true := by simp [Region.wanted, hgd]
  rw [if_pos hw]
  obtain ⟨i0, hi, hz0, hz1, hz2⟩ := info_parts A5
  subst hx
  subst hl
  rw [← Hog.size_len] at hle hfit
  have hrun := Lib.run_copy_row_string (P := Tryz.prog) w 22 9 o.type 5 g k m c t _ 5 Tryz.underlying22 (by rw [hi]; simp [hz1]) hg hle (by simpa [bcells] using hfit)
  unfold Oper.wp
  simp only [execOp, ho, resolve, invoke, builtin, Sem.run_bind, Sem.run_pure, Result.andThen_ok, List.map_toArray, List.map_cons, List.map_nil, hd, hs, hrun]
  refine h _ ?_ (below_setRow hb hB _)
  refine hide ?_
  unfold RowH
  rw [setRow_heap w g _ _ 5 (0, 0) hg]
  have e := bcells_splice l t.data.toList k
  rw [← Hog.size_len] at e
  rw [← e]
  rfl
/-- The row that 512 bytes 0 make. -/
def objH : Obj := .cells (bcells (pad 512 [])).toArray 5
theorem run_makeH (W : World) : (Instr.makeSlice 22 (.int .i64 512) (.int .i64 512)).run Tryz.prog W = .ok (.slice (some ⟨W.heap.size, 0, none⟩) 512 512) (W.alloc objH) := by
  obtain ⟨i0, hi, hz0, hz1, hz2⟩ := info_parts A5
  have h := run_make (P := Tryz.prog) W 22 5 i0 _ Tryz.underlying22 hi hz0 .i64 .i64 512 512 (by omega) (Int.le_refl _) (by rw [hz2]; omega) (by omega)
  rw [h]
  have e : madeCells (Value.int .u8 0).cells ((512 : Int).toNat * i0.size) = (bcells (pad 512 [])).toArray := by
    rw [hz1, show ((512 : Int).toNat * 1) = 512 by rfl]
    have e1 : ∀ (z : Value) (n : Nat), madeCells #[z] n = (List.replicate n z).toArray := fun z n => by rw [← toList_madeCells_one, Array.toArray_toList]
    rw [show (Value.int .u8 0).cells = #[Value.int .u8 0] by rfl, e1]
    unfold bcells pad
    rw [List.nil_append, List.map_replicate, List.length_nil, Nat.sub_zero]
    rfl
  rw [e]
  rfl
theorem lay_parts {nm lk : List UInt8} {k sz : Int} (h : mayH nm k sz lk = false) : octR sz 11 = false ∨ octR sz 11 = true ∧ (nm = [] ∨ nm ≠ [] ∧ (fillB nm = false ∨ fillB nm = true ∧ (fillB lk = false ∨ fillB lk = true ∧ mayK k sz lk = false))) := by
  unfold mayH at h
  cases h1 : octR sz 11
  · exact .inl rfl
  · refine .inr ⟨rfl, ?_⟩
    by_cases h2 : nm = []
    · exact .inl h2
    · refine .inr ⟨h2, ?_⟩
      cases h3 : fillB nm
      · exact .inl rfl
      · refine .inr ⟨rfl, ?_⟩
        cases h4 : fillB lk
        · exact .inl rfl
        · refine .inr ⟨rfl, ?_⟩
          rw [h1, h3, h4, decide_eq_true h2] at h
          simpa using h
set_option maxHeartbeats 1000000 in
theorem lay_bad (s t : ByteArray) (nm lk : List UInt8) (k sz : Int) (w0 w : World) (hok : Ok w0 w) (hs : s.data.toList = nm) (ht : t.data.toList = lk) (hz : sz < 9223372036854775808) (h : mayH nm k sz lk = false) :
    Calls Tryz.prog 40 #[.string s, .int .i64 k, .int .i64 sz, .string t] w fun e w' => e = .returned (.tuple #[.slice none 0 0, .bool false]) ∧ Ok w0 w' ∧ Below w.heap.size w w' := by
  obtain ⟨x, hx⟩ : ∃ x, octT sz 11 = x := ⟨_, rfl⟩
  have HX := hide hx
  have HS := hide hs
  have HT := hide ht
  have HOK := hide hok
  clear hx hok ht
  rcases lay_parts h with h1 | ⟨h1, h2 | ⟨h2, h3 | ⟨h3, h4 | ⟨h4, h5⟩⟩⟩⟩
  · have H1 := hide h1
    clear h h1 hs
    go_enter Tryz.func40, Tryz.ntmps40
    go_wp2_with fail
    refine (octal_ok sz 11 x false w0 w HOK.out hz HX.out H1.out).mono ?_
    rintro e w1 ⟨rfl, ok1, hb1⟩
    go_wp2_with fail
    go_ret2
    exact ⟨rfl, ok1, hb1⟩
  · have n1 := nil_yes hs h2
    have H1 := hide h1
    clear h h1 h2 hs
    go_enter Tryz.func40, Tryz.ntmps40
    go_wp2_with fail
    refine (octal_ok sz 11 x true w0 w HOK.out hz HX.out H1.out).mono ?_
    rintro e w1 ⟨rfl, ok1, hb1⟩
    go_wp2_with fail
    go_ret2
    exact ⟨rfl, ok1, hb1⟩
  · have n1 := nil_no hs h2
    have H1 := hide h1
    have H3 := hide h3
    clear h h1 h2 h3 hs
    go_enter Tryz.func40, Tryz.ntmps40
    go_wp2_with fail
    refine (octal_ok sz 11 x true w0 w HOK.out hz HX.out H1.out).mono ?_
    rintro e w1 ⟨rfl, ok1, hb1⟩
    go_wp2_with fail
    refine (mayfill_ok s nm false w1 HS.out H3.out).mono ?_
    rintro e w2 ⟨rfl, rfl⟩
    go_wp2_with fail
    go_ret2
    exact ⟨rfl, ok1, hb1⟩
  · have n1 := nil_no hs h2
    have H1 := hide h1
    have H3 := hide h3
    have H4 := hide h4
    clear h h1 h2 h3 h4 hs
    go_enter Tryz.func40, Tryz.ntmps40
    go_wp2_with fail
    refine (octal_ok sz 11 x true w0 w HOK.out hz HX.out H1.out).mono ?_
    rintro e w1 ⟨rfl, ok1, hb1⟩
    go_wp2_with fail
    refine (mayfill_ok s nm true w1 HS.out H3.out).mono ?_
    rintro e w2 ⟨rfl, rfl⟩
    go_wp2_with fail
    refine (mayfill_ok t lk false w2 HT.out H4.out).mono ?_
    rintro e w3 ⟨rfl, rfl⟩
    go_wp2_with fail
    go_ret2
    exact ⟨rfl, ok1, hb1⟩
  · have n1 := nil_no hs h2
    have H1 := hide h1
    have H3 := hide h3
    have H4 := hide h4
    have H5 := hide h5
    clear h h1 h2 h3 h4 h5 hs
    go_enter Tryz.func40, Tryz.ntmps40
    go_wp2_with fail
    refine (octal_ok sz 11 x true w0 w HOK.out hz HX.out H1.out).mono ?_
    rintro e w1 ⟨rfl, ok1, hb1⟩
    go_wp2_with fail
    refine (mayfill_ok s nm true w1 HS.out H3.out).mono ?_
    rintro e w2 ⟨rfl, rfl⟩
    go_wp2_with fail
    refine (mayfill_ok t lk true w2 HT.out H4.out).mono ?_
    rintro e w3 ⟨rfl, rfl⟩
    go_wp2_with fail
    refine (maybe_ok k sz t lk false w3 HT.out H5.out).mono ?_
    rintro e w4 ⟨rfl, rfl⟩
    go_wp2_with fail
    go_ret2
    exact ⟨rfl, ok1, hb1⟩

set_option maxRecDepth 100000 in
set_option maxHeartbeats 2000000 in
theorem lay_good (s t : ByteArray) (nm lk : List UInt8) (k sz : Int) (w0 w : World) (hok : Ok w0 w) (hs : s.data.toList = nm) (ht : t.data.toList = lk) (h : May nm k sz lk) :
    Calls Tryz.prog 40 #[.string s, .int .i64 k, .int .i64 sz, .string t] w fun e w' => ∃ g, e = .returned (.tuple #[.slice (some ⟨g, 0, none⟩) 512 512, .bool true]) ∧ w.heap.size ≤ g ∧ RowH w' g (headH nm k sz lk) ∧ Ok w0 w' ∧ Below w.heap.size w w' := by
  have hsz : sz < 9223372036854775808 := by
    have := oct_room h.size
    have h2 : 8 ^ (11 : Int).toNat = 8589934592 := by decide
    omega
  have hkr := mayK_range h.kind
  obtain ⟨x, hx⟩ : ∃ x, octL 11 sz.toNat = x := ⟨_, rfl⟩
  obtain ⟨md, hmd⟩ : ∃ md, pad 8 (modeK k) = md := ⟨_, rfl⟩
  obtain ⟨sg, hsg⟩ : ∃ sg, signK k = sg := ⟨_, rfl⟩
  have HXL : Hid (x.length = 11) := by rw [← hx]; exact hide (octL_len _ _)
  have HML : Hid (md.length = 8) := by rw [← hmd]; exact hide (pad_len (by rw [modeK_len]; decide))
  have HX : Hid (octT sz 11 = x) := by unfold octT; rw [if_pos h.size]; exact hide hx
  have HXE := hide hx
  have HM := hide hmd
  have HG := hide hsg
  have HS := hide hs
  have HT := hide ht
  have HOK := hide hok
  have H := hide h
  have HK1 := hide hkr.1
  have HK5 := hide hkr.2
  have n1 := nil_no hs h.some
  obtain ⟨l1, e1⟩ : ∃ l, splice (pad 512 []) 0 nm = l := ⟨_, rfl⟩
  obtain ⟨l2, e2⟩ : ∃ l, splice l1 100 md = l := ⟨_, rfl⟩
  obtain ⟨l3, e3⟩ : ∃ l, splice l2 108 (own7 ++ [0]) = l := ⟨_, rfl⟩
  obtain ⟨l4, e4⟩ : ∃ l, splice l3 116 (own7 ++ [0]) = l := ⟨_, rfl⟩
  obtain ⟨l5, e5⟩ : ∃ l, splice l4 124 (x ++ [0]) = l := ⟨_, rfl⟩
  obtain ⟨l6, e6⟩ : ∃ l, splice l5 136 (time11 ++ [0]) = l := ⟨_, rfl⟩
  obtain ⟨l7, e7⟩ : ∃ l, splice l6 148 blanks = l := ⟨_, rfl⟩
  obtain ⟨l8, e8⟩ : ∃ l, splice (l7.set 156 sg) 157 lk = l := ⟨_, rfl⟩
  obtain ⟨l9, e9⟩ : ∃ l, splice l8 257 mark8 = l := ⟨_, rfl⟩
  have HNL := hide (fillB_of h.name).1
  have HLL := hide (fillB_of h.link).1
  have HXZ : Hid ((x ++ [0]).length = 12) := by rw [List.length_append, HXL.out]; exact hide rfl
  have L0 : (pad 512 []).length = 512 := pad_len (by decide)
  have L1 := len_on e1 L0 (by have := HNL.out; omega)
  have L2 := len_on e2 L1 (by have := HML.out; omega)
  have L3 := len_on e3 L2 (by decide)
  have L4 := len_on e4 L3 (by decide)
  have L5 := len_on e5 L4 (by rw [HXZ.out]; omega)
  have L6 := len_on e6 L5 (by decide)
  have L7 := len_on e7 L6 (by decide)
  have e8' : splice (splice l7 156 [sg]) 157 lk = l8 := by rw [← over_set sg (by omega)]; exact e8
  have L8 := len_on e8 (by rw [List.length_set]; exact L7) (by have := HLL.out; omega)
  have L9 := len_on e9 L8 (by decide)
  have HRAW := hide (chain_head h hx hmd hsg e1 e2 e3 e4 e5 e6 e7 e8' e9)
  have HL0 := hide L0
  have HL1 := hide L1
  have HL2 := hide L2
  have HL3 := hide L3
  have HL4 := hide L4
  have HL5 := hide L5
  have HL6 := hide L6
  have HL7 := hide L7
  have HL7' : Hid ((l7.set 156 sg).length = 512) := by rw [List.length_set]; exact hide L7
  have HL8 := hide L8
  have HL9 := hide L9
  have HE1 := hide e1
  have HE2 := hide e2
  have HE3 := hide e3
  have HE4 := hide e4
  have HE5 := hide e5
  have HE6 := hide e6
  have HE7 := hide e7
  have HE8 := hide e8
  have HE9 := hide e9
  have hmk := run_makeH
  obtain ⟨z7, hz7⟩ : ∃ z, l7[156]? = some z := ⟨l7[156]'(by omega), List.getElem?_eq_some_iff.2 ⟨_, rfl⟩⟩
  have HZ7 := hide hz7
  have hxs : (mk x).size = 11 := by rw [mk_size]; exact HXL.out
  have HXS := hide hxs
  have hxb : (mk x).size ≤ 11 := by omega
  have HXA : Hid ((mk x ++ ⟨#[0]⟩ : ByteArray).data.toList = x ++ [0]) := by rw [show (⟨#[0]⟩ : ByteArray) = mk [0] by rfl, mk_join, mk_data]; exact hide rfl
  clear hxs e8' hz7 hx hmd hsg hs ht hok h hkr e1 e2 e3 e4 e5 e6 e7 e8 e9 L0 L1 L2 L3 L4 L5 L6 L7 L8 L9
  go_enter Tryz.func40, Tryz.ntmps40
  go_wp2_with fail
  refine (octal_ok sz 11 x true w0 w HOK.out hsz HX.out H.out.size).mono ?_
  rintro e wa ⟨rfl, ok1, hb1⟩
  go_wp2_with fail
  refine (mayfill_ok s nm true wa HS.out H.out.name).mono ?_
  rintro e w2 ⟨rfl, rfl⟩
  go_wp2_with fail
  refine (mayfill_ok t lk true w2 HT.out H.out.link).mono ?_
  rintro e w3 ⟨rfl, rfl⟩
  go_wp2_with fail
  refine (maybe_ok k sz t lk true w3 HT.out H.out.kind).mono ?_
  rintro e wa ⟨rfl, rfl⟩
  go_wp2_with fail
  refine (look_ok k md sg wa HK1.out HK5.out HM.out HG.out).mono ?_
  rintro e wa ⟨rfl, rfl⟩
  have HOK1 := hide ok1
  have HB1' := hide hb1
  have HGB' : Hid (w.heap.size ≤ wa.heap.size) := hide hb1.size
  have HR0' : Hid (RowH (wa.alloc objH) wa.heap.size (pad 512 [])) := hide (heap_alloc_new wa _)
  have HB0' : Hid (Below w.heap.size w (wa.alloc objH)) := hide (hb1.alloc hb1.size _)
  obtain ⟨G, hG⟩ : ∃ G, wa.heap.size = G := ⟨_, rfl⟩
  obtain ⟨V, hV⟩ : ∃ V, wa.alloc objH = V := ⟨_, rfl⟩
  have hmk1 := run_makeH wa
  rw [hG, hV] at hmk1
  rw [hG] at HGB' HR0'
  rw [hV] at HR0' HB0'
  have HGB := HGB'
  have HR0 := HR0'
  have HB0 := HB0'
  clear hmk ok1 hb1 HGB' HR0' HB0' HB1' hG hV
  go_wp2_with (refine wpList_copy_str rfl _ _ rfl G 0 _ _ rfl _ rfl (pad 512 []) nm l1 HR0.out HS.out HE1.out ?_ ?_ w.heap.size w HB0.out HGB.out ?_)
  · first | (have := HNL.out; omega) | (have := HLL.out; omega) | (have := HML.out; omega) | (rw [HXZ.out]; omega) | decide
  · rw [HL0.out]; first | (have := HNL.out; omega) | (have := HLL.out; omega) | (have := HML.out; omega) | (rw [HXZ.out]; omega) | decide
  intro wb HR1 HB1
  -- TAIL
  go_wp2_with (refine wpList_copy_str rfl _ _ rfl G 100 _ _ rfl _ rfl l1 md l2 HR1.out (mk_data md) HE2.out ?_ ?_ w.heap.size w HB1.out HGB.out ?_)
  · first | (have := HNL.out; omega) | (have := HLL.out; omega) | (have := HML.out; omega) | (rw [HXZ.out]; omega) | decide
  · rw [HL1.out]; first | (have := HNL.out; omega) | (have := HLL.out; omega) | (have := HML.out; omega) | (rw [HXZ.out]; omega) | decide
  intro v2 HR2 HB2
  clear HR1 HB1
  go_wp2_with (refine wpList_copy_str rfl _ _ rfl G 108 _ _ rfl _ rfl l2 (own7 ++ [0]) l3 HR2.out rfl HE3.out ?_ ?_ w.heap.size w HB2.out HGB.out ?_)
  · first | (have := HNL.out; omega) | (have := HLL.out; omega) | (have := HML.out; omega) | (rw [HXZ.out]; omega) | decide
  · rw [HL2.out]; first | (have := HNL.out; omega) | (have := HLL.out; omega) | (have := HML.out; omega) | (rw [HXZ.out]; omega) | decide
  intro v3 HR3 HB3
  clear HR2 HB2
  go_wp2_with (refine wpList_copy_str rfl _ _ rfl G 116 _ _ rfl _ rfl l3 (own7 ++ [0]) l4 HR3.out rfl HE4.out ?_ ?_ w.heap.size w HB3.out HGB.out ?_)
  · first | (have := HNL.out; omega) | (have := HLL.out; omega) | (have := HML.out; omega) | (rw [HXZ.out]; omega) | decide
  · rw [HL3.out]; first | (have := HNL.out; omega) | (have := HLL.out; omega) | (have := HML.out; omega) | (rw [HXZ.out]; omega) | decide
  intro v4 HR4 HB4
  clear HR3 HB3
  go_wp2_with (refine wpList_copy_str rfl _ _ rfl G 124 _ _ rfl _ rfl l4 (x ++ [0]) l5 HR4.out HXA.out HE5.out ?_ ?_ w.heap.size w HB4.out HGB.out ?_)
  · first | (have := HNL.out; omega) | (have := HLL.out; omega) | (have := HML.out; omega) | (rw [HXZ.out]; omega) | decide
  · rw [HL4.out]; first | (have := HNL.out; omega) | (have := HLL.out; omega) | (have := HML.out; omega) | (rw [HXZ.out]; omega) | decide
  intro v5 HR5 HB5
  clear HR4 HB4
  go_wp2_with (refine wpList_copy_str rfl _ _ rfl G 136 _ _ rfl _ rfl l5 (time11 ++ [0]) l6 HR5.out rfl HE6.out ?_ ?_ w.heap.size w HB5.out HGB.out ?_)
  · first | (have := HNL.out; omega) | (have := HLL.out; omega) | (have := HML.out; omega) | (rw [HXZ.out]; omega) | decide
  · rw [HL5.out]; first | (have := HNL.out; omega) | (have := HLL.out; omega) | (have := HML.out; omega) | (rw [HXZ.out]; omega) | decide
  intro v6 HR6 HB6
  clear HR5 HB5
  go_wp2_with (refine wpList_copy_str rfl _ _ rfl G 148 _ _ rfl _ rfl l6 blanks l7 HR6.out rfl HE7.out ?_ ?_ w.heap.size w HB6.out HGB.out ?_)
  · first | (have := HNL.out; omega) | (have := HLL.out; omega) | (have := HML.out; omega) | (rw [HXZ.out]; omega) | decide
  · rw [HL6.out]; first | (have := HNL.out; omega) | (have := HLL.out; omega) | (have := HML.out; omega) | (rw [HXZ.out]; omega) | decide
  intro v7 HR7 HB7
  clear HR6 HB6
  have c7 := HR7.out.cell HZ7.out
  have f7 := HR7.out.free 156
  have HR7' : Hid (RowH (v7.setCell ⟨G, 156, none⟩ (.int .u8 sg.toNat)) G (l7.set 156 sg)) := hide (HR7.out.stored 156 sg)
  have HB7' : Hid (Below w.heap.size w (v7.setCell ⟨G, 156, none⟩ (.int .u8 sg.toNat))) := hide (HB7.out.setCell HGB.out _)
  go_wp2_with (refine wpList_copy_str rfl _ _ rfl G 157 _ _ rfl _ rfl (l7.set 156 sg) lk l8 HR7'.out HT.out HE8.out ?_ ?_ w.heap.size w HB7'.out HGB.out ?_)
  · first | (have := HNL.out; omega) | (have := HLL.out; omega) | (have := HML.out; omega) | (rw [HXZ.out]; omega) | decide
  · rw [HL7'.out]; first | (have := HNL.out; omega) | (have := HLL.out; omega) | (have := HML.out; omega) | (rw [HXZ.out]; omega) | decide
  intro v8 HR8 HB8
  clear HR7 HB7 HR7' HB7' c7 f7
  go_wp2_with (refine wpList_copy_str rfl _ _ rfl G 257 _ _ rfl _ rfl l8 mark8 l9 HR8.out rfl HE9.out ?_ ?_ w.heap.size w HB8.out HGB.out ?_)
  · first | (have := HNL.out; omega) | (have := HLL.out; omega) | (have := HML.out; omega) | (rw [HXZ.out]; omega) | decide
  · rw [HL8.out]; first | (have := HNL.out; omega) | (have := HLL.out; omega) | (have := HML.out; omega) | (rw [HXZ.out]; omega) | decide
  intro v9 HR9 HB9
  clear HR8 HB8
  -- END
  obtain ⟨sm, hsm⟩ : ∃ sm, octL 6 (sumL l9) = sm := ⟨_, rfl⟩
  have HSM := hide hsm
  have hsl : sm.length = 6 := by rw [← hsm]; exact octL_len _ _
  have hsb : (mk sm).size ≤ 6 := by rw [mk_size]; omega
  have HSX : Hid ((mk sm ++ ⟨#[0, 32]⟩ : ByteArray).data.toList = sm ++ [0, 32]) := by rw [show (⟨#[0, 32]⟩ : ByteArray) = mk [0, 32] by rfl, mk_join, mk_data]; exact hide rfl
  have HSL := hide hsl
  have HOK9 : Hid (Ok w0 v9) := hide (HOK.out.next HB9.out)
  clear hsm hsl
  go_wp2_with fail
  refine wp_region_any (by kernel_rfl) ?_
  change wpAny _ _ _ _ _ _ _ (World.drew _)
  refine wpAny_take (i := 0) (v := .slice (some ⟨G, 0, none⟩) 512 512) rfl (by kernel_rfl) (by kernel_rfl) (by kernel_rfl) (fun _ _ _ h => h) (Or.inl ⟨by kernel_rfl, ?_⟩) ?_
  · intro w'; go_simp
  refine wpAny_take (i := 1) (v := .slice (some ⟨G, 148, none⟩) 364 364) rfl (by kernel_rfl) (by kernel_rfl) (by kernel_rfl) (fun _ _ _ h => h) (Or.inl ⟨by kernel_rfl, ?_⟩) ?_
  · intro w'; go_simp
  refine wpAny_take (i := 2) (v := .slice (some ⟨G, 0, none⟩) 512 512) rfl (by kernel_rfl) (by kernel_rfl) (by kernel_rfl) (fun _ _ _ h => h) (Or.inl ⟨by kernel_rfl, ?_⟩) ?_
  · intro w'; go_simp
  refine wpAny_ready (rs := [3]) (by kernel_rfl) (by simp) (AllReady.cons rfl ?_ AllReady.nil)
  intro K hK
  go_simp
  have HBd : Hid (Below v9.heap.size v9 v9.drew) := hide (Below.refl _ v9).drew
  have HRd : Hid (RowH v9.drew G l9) := hide (HR9.out.below HBd.out HR9.out.lt)
  refine (sumof_any G 0 512 512 l9 sm w0 v9.drew (HOK9.out.next HBd.out) (HRd.out.arg HL9.out (Nat.le_refl _)) (Nat.le_refl _) HSM.out).mono ?_
  rintro e va ⟨rfl, oka, hba⟩
  have HRa : Hid (RowH va G l9) := hide (HRd.out.below hba HRd.out.lt)
  have HBa : Hid (Below w.heap.size w va) := hide ((below_two HB9.out HBd.out).trans (hba.mono (below_two HB9.out HBd.out).size))
  have HOKa := hide oka
  clear oka hba
  refine hK _ _ ?_
  clear hK K HBd HRd HR9 HB9 HOK9
  refine wpAny_take (i := 4) (v := .string (mk sm ++ ⟨#[0, 32]⟩)) rfl (by kernel_rfl) (by kernel_rfl) (by kernel_rfl) (fun _ _ _ h => h) (Or.inl ⟨by kernel_rfl, ?_⟩) ?_
  · intro w'; go_simp; omega
  refine wpAny_ready (rs := [5]) (by kernel_rfl) (by simp) (AllReady.cons rfl ?_ AllReady.nil)
  intro K hK
  refine step_copy_str rfl (.tmp 85) (.tmp 88) rfl G 148 364 364 (by simp [Act.eval, Act.put]) _ (by simp [Act.eval, Act.put]) l9 (sm ++ [0, 32]) (headH nm k sz lk) HRa.out HSX.out ?_ ?_ ?_ w.heap.size w HBa.out HGB.out ?_
  · rw [← HSM.out]
    unfold headH
    rw [← HRAW.out]
    rfl
  · rw [List.length_append, HSL.out]; decide
  · rw [List.length_append, HSL.out, HL9.out]; decide
  intro vb HRb HBb
  refine hK _ _ ?_
  clear hK K
  refine wpAny_done (by kernel_rfl) ?_ _
  go_wp2_with fail
  go_ret2
  exact ⟨G, rfl, HGB.out, HRb.out, HOK.out.next HBb.out, HBb.out⟩
end Go.Proofs.YtecjkkipglldlaaGreatDoor
