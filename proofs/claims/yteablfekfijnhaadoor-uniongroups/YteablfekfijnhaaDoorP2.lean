/- pile.lay. -/
import Derived.Test.YteablfekfijnhaaDoorP1
namespace Go.Proofs.YteablfekfijnhaaDoor
open Go.RowKit

set_option maxRecDepth 100000 in
set_option maxHeartbeats 2000000 in
/-- pile.lay: the node stays if it can stand there; does it go together with what is there? -/
theorem lay_ok (p m : Nat) (v : Value) (ns : List Nd) (n : Nd) (w0 w : World) (ok : Ok w0 w) (h : PileAt w0.heap.size w p m v ns) (hz : n.1.size < 999999) (hlen : ns.length < 900000) (b : Bool) (ms : List Nd) (hl : layN ns n = (ms, b)) :
    Calls Tryd.prog 30 #[.pointer (some ⟨p, 0, none⟩), .agg #[.string n.1, .int .i64 n.2.1, .string n.2.2]] w fun e w' => e = .returned (.bool b) ∧ (∃ v', PileAt w0.heap.size w' p m v' ms) ∧ Ok w0 w' := by
  obtain ⟨wa, hwa⟩ : ∃ wa, wa = w.alloc (.cells #[.string n.1, .int .i64 n.2.1, .string n.2.2] 37) := ⟨_, rfl⟩
  have hba : Below w.heap.size w wa := by rw [hwa]; exact below_alloc _ _
  have oka := ok.next hba
  have HPA := hide (h.below hba)
  have hk : Blk wa w.heap.size n := by rw [hwa]; exact Blk.made w n
  have HK := hide hk
  obtain ⟨⟨k1, k2, k3⟩, _, k4⟩ := hk.facts
  obtain ⟨c1, c2, c3, c4⟩ := HPA.out.cells
  obtain ⟨f, hf⟩ : ∃ f, atN ns n.1 = f := ⟨_, rfl⟩
  obtain ⟨x, hx⟩ : ∃ x, (lookN ns n.1).isSome = x := ⟨_, rfl⟩
  have hr := map_look (w := wa.drew) HPA.out.map n.1 true
  rw [hf, hx] at hr
  simp only [nagg, if_true] at hr
  have hbz : Below wa.heap.size wa (wa.alloc (.cells #[.string ⟨#[]⟩, .int .i64 0, .string ⟨#[]⟩] 37)) := below_alloc _ _
  have HPZ := hide (HPA.out.below hbz)
  have hrz := map_look (w := (wa.alloc (.cells #[.string ⟨#[]⟩, .int .i64 0, .string ⟨#[]⟩] 37)).drew) HPZ.out.map n.1 true
  rw [hf, hx] at hrz
  simp only [nagg, if_true] at hrz
  have z1 := HPZ.out.cells.2.1
  have z2 := (hk.below hbz).facts.1.1
  have HL := hide hl
  have HF := hide hf
  have HX := hide hx
  have HWA := hide hwa
  have HBA := hide hba
  clear h hk hl hf hx hwa hba ok c1 c3 c4 hbz
  go_enter Tryd.func30, Tryd.ntmps30
  go_wp2
  rw [← HWA.out]
  go_region
  all_goals
    obtain ⟨wb, hwb⟩ : ∃ wb, wb = (wa.alloc (.cells #[.string f.1, .int .i64 f.2.1, .string f.2.2] 37)).drew := ⟨_, rfl⟩
    rw [← hwb]
    have hbb : Below wa.heap.size wa wb := by rw [hwb]; exact (below_alloc _ _).drew
    have hPB := HPA.out.below hbb
    have HPB := hide hPB
    have hKB := HK.out.below hbb
    have hFB : Blk wb wa.heap.size f := by rw [hwb]; exact Blk.made wa f
    have okb := oka.next hbb
    have HKB := hide hKB
    obtain ⟨⟨b1, b2, b3⟩, _, _⟩ := hKB.facts
    obtain ⟨⟨d1, d2, d3⟩, _, _⟩ := hFB.facts
    have hgd := guard_node
    clear hr hrz z1 z2 k1 k2 k3 k4 c2 hwb hbb hPB hKB hFB HPZ
    cases x with
    | true =>
      have HE : Hid (ms = ns ∧ decide (n = f) = b) := by
        show _ ∧ _
        have h1 := HX.out
        have h2 := HL.out
        cases k : lookN ns n.1 with
        | none => rw [k] at h1; cases h1
        | some y =>
          have h3 : f = y := by rw [← HF.out]; unfold atN; rw [k]; rfl
          rw [lay_found k] at h2
          cases h2
          exact ⟨rfl, by rw [h3]⟩
      go_wp2
      all_goals
        go_ret
        refine ⟨ret_bool ?_, ⟨v, by rw [HE.out.1]; exact HPB.out⟩, okb⟩
        rw [← HE.out.2]
        simp [nd_eq, bytes_eq, *]
    | false =>
      have HN : Hid (lookN ns n.1 = none) := by
        show _ = _
        have h1 := HX.out
        cases k : lookN ns n.1 with
        | none => rfl
        | some y => rw [k] at h1; cases h1
      obtain ⟨y, hy⟩ : ∃ y, housesB n ns = y := ⟨_, rfl⟩
      have HY := hide hy
      clear hy
      go_wp2_with fail
      refine (houses_ok _ p m v ns n y w0 wb okb HPB.out hz HY.out).mono ?_
      rintro e w1 ⟨rfl, ok1, hb1⟩
      have HP1 := hide (HPB.out.below hb1)
      obtain ⟨⟨e1, e2, e3⟩, _, _⟩ := (HKB.out.below hb1).facts
      clear hb1 b1 b2 b3 d1 d2 d3
      cases y with
      | false =>
        have HE : Hid ((ns, false) = (ms, b)) := by
          show _ = _
          rw [← HL.out, lay_not HN.out HY.out]
        go_wp2
        go_ret
        have h2 := HE.out
        simp only [Prod.mk.injEq] at h2
        exact ⟨ret_bool h2.2, ⟨v, by rw [← h2.1]; exact HP1.out⟩, ok1⟩
      | true =>
        have HE : Hid ((ns ++ [n], true) = (ms, b)) := by
          show _ = _
          rw [← HL.out, lay_new HN.out HY.out]
        go_wp2_with fail
        refine (add_ok _ p m v ns n w1 HP1.out ok1.size hlen HN.out).mono ?_
        rintro e w2 ⟨rfl, ⟨v', hp2⟩, hb2⟩
        have HP2 := hide hp2
        have ok2 := ok1.step hb2
        clear hp2 hb2 e1 e2 e3
        go_wp2
        go_ret
        have h2 := HE.out
        simp only [Prod.mk.injEq] at h2
        exact ⟨ret_bool h2.2, ⟨v', by rw [← h2.1]; exact HP2.out⟩, ok2⟩
end Go.Proofs.YteablfekfijnhaaDoor
