/- The walk of nar.Read. -/
import Derived.Test.YtlepahfbbdjdgaaDoorB7
namespace Go.Proofs.YtlepahfbbdjdgaaDoor
open Go.RowKit

/-- What Read tells. -/
def readB (l : List UInt8) : Bool := decide ((readS l).1 = markL) && (!(readS l).2.2.2 && (readS l).2.2.1.isEmpty) && mayN (readS l).2.1
theorem may_ne {t : List Nd} (h : mayN t = true) : t ≠ [] := fun e => by rw [e] at h; simp [mayN, badN] at h
theorem readB_sound {l : List UInt8} (h : readB l = true) : mayN (readS l).2.1 = true ∧ (∀ n ∈ (readS l).2.1, FitN n) ∧ (readS l).2.1.length ≤ 400 ∧ l = layL (readS l).2.1 := by
  unfold readB at h
  simp only [Bool.and_eq_true, decide_eq_true_eq, Bool.not_eq_true', List.isEmpty_iff] at h
  obtain ⟨⟨h1, h2, h3⟩, h4⟩ := h
  have e : readS l = (markL, (readS l).2.1, ([], false)) := by
    rw [← h1, ← h2, ← h3]
  obtain ⟨a, b, c⟩ := read_sound e (may_ne h4)
  exact ⟨h4, a, b, by rw [List.append_nil] at c; exact c⟩
theorem readB_lay {t : List Nd} (hm : mayN t = true) (h : ∀ n ∈ t, FitN n) (hl : t.length ≤ 400) : readB (layL t) = true ∧ (readS (layL t)).2.1 = t := by
  have e := read_lay h hl []
  rw [List.append_nil] at e
  unfold readB
  rw [e]
  exact ⟨by simp [hm], rfl⟩

theorem num_len {s s' : RS} {n : Int} (h : numR s = (n, s')) : s'.1.length ≤ s.1.length := by
  unfold numR at h
  obtain ⟨_, h2⟩ := Prod.mk.inj h
  rw [← h2]
  exact (takeR_le (x := (takeR 8 s).1) (s' := (takeR 8 s).2) rfl).2
theorem fail_len (b : Bool) (s : RS) : (failIf b s).1.length ≤ s.1.length := by unfold failIf; split <;> simp
theorem text_len {s s' : RS} {x : List UInt8} (h : textR s = (x, s')) : x.length ≤ s.1.length ∧ s'.1.length ≤ s.1.length := by
  obtain ⟨n, s1, h1⟩ : ∃ n s1, numR s = (n, s1) := ⟨_, _, rfl⟩
  obtain ⟨y, s2, h2⟩ : ∃ x s2, takeR n s1 = (x, s2) := ⟨_, _, rfl⟩
  obtain ⟨z, s3, h3⟩ : ∃ z s3, takeR (fillN y.length) s2 = (z, s3) := ⟨_, _, rfl⟩
  rw [textR_parts s n s1 y s2 z s3 h1 h2 h3] at h
  obtain ⟨e1, e2⟩ := Prod.mk.inj h
  have k1 := num_len h1
  have k2 := takeR_le h2
  have k3 := takeR_le h3
  have k4 := fail_len (setN z) s3
  refine ⟨?_, by rw [← e2]; omega⟩
  rw [← e1]
  split
  · simp
  · omega
theorem node_len {s s' : RS} {x : Nd} (h : nodeR s = (x, s')) : x.1.size ≤ s.1.length ∧ x.2.2.size ≤ s.1.length ∧ s'.1.length ≤ s.1.length := by
  obtain ⟨p, s1, h1⟩ : ∃ p s1, textR s = (p, s1) := ⟨_, _, rfl⟩
  obtain ⟨k, s2, h2⟩ : ∃ k s2, numR s1 = (k, s2) := ⟨_, _, rfl⟩
  obtain ⟨d, s3, h3⟩ : ∃ d s3, textR s2 = (d, s3) := ⟨_, _, rfl⟩
  unfold nodeR at h
  rw [h1] at h
  simp only [] at h
  rw [h2] at h
  simp only [] at h
  rw [h3] at h
  obtain ⟨e1, e2⟩ := Prod.mk.inj h
  have k1 := text_len h1
  have k2 := num_len h2
  have k3 := text_len h3
  rw [← e1, ← e2]
  refine ⟨?_, ?_, ?_⟩
  · show (Hog.mk p).size ≤ _; rw [Hog.mk_size]; omega
  · show (Hog.mk d).size ≤ _; rw [Hog.mk_size]; omega
  · show s3.1.length ≤ _; omega
theorem nodes_len : ∀ (k : Nat) (s : RS), ∀ n ∈ (nodesR k s).1, n.1.size ≤ s.1.length ∧ n.2.2.size ≤ s.1.length
  | 0, s, n, h => by simp [nodesR] at h
  | k + 1, s, n, h => by
    obtain ⟨x, s', hx⟩ : ∃ x s', nodeR s = (x, s') := ⟨_, _, (Prod.eta _).symm⟩
    have e := node_len hx
    rw [nodesR_succ, hx] at h
    rcases List.mem_cons.1 h with h | h
    · rw [h]; exact ⟨e.1, e.2.1⟩
    · have h2 := nodes_len k s' n h
      have h3 := e.2.2
      exact ⟨Nat.le_trans h2.1 h3, Nat.le_trans h2.2 h3⟩
theorem list_len {s s' : RS} {t : List Nd} (h : listR s = (t, s')) : t.length ≤ 400 ∧ ∀ n ∈ t, n.1.size ≤ s.1.length ∧ n.2.2.size ≤ s.1.length := by
  obtain ⟨n, s1, h1⟩ : ∃ n s1, numR s = (n, s1) := ⟨_, _, rfl⟩
  have k1 := num_len h1
  unfold listR at h
  rw [h1] at h
  simp only [] at h
  split at h
  · obtain ⟨e1, _⟩ := Prod.mk.inj h
    rw [← e1]; simp
  · have e1 : t = (nodesR n.toNat s1).1 := by rw [h]
    rw [e1]
    refine ⟨by rw [nodesR_len]; omega, fun m hm => ?_⟩
    have := nodes_len n.toNat s1 m hm
    omega
theorem readS_len (l : List UInt8) : (readS l).2.1.length ≤ 400 ∧ ∀ n ∈ (readS l).2.1, n.1.size ≤ l.length ∧ n.2.2.size ≤ l.length := by
  obtain ⟨z, s1, h1⟩ : ∃ z s1, textR (l, false) = (z, s1) := ⟨_, _, (Prod.eta _).symm⟩
  obtain ⟨t, s2, h2⟩ : ∃ t s2, listR s1 = (t, s2) := ⟨_, _, (Prod.eta _).symm⟩
  have hS : readS l = (z, t, s2) := by unfold readS; rw [h1, h2]
  rw [hS]
  have k1 := (text_len h1).2
  obtain ⟨k2, k3⟩ := list_len h2
  refine ⟨k2, fun n hn => ?_⟩
  have h3 := k3 n hn
  exact ⟨Nat.le_trans h3.1 k1, Nat.le_trans h3.2 k1⟩

theorem RdAt.made {w : World} {ao : Option Addr} {n c : Nat} {l : List UInt8} (h : ArgB w ao n c l) : RdAt (w.alloc (.cells #[.slice ao n c, .bool false] 53)) w.heap.size (l, false) :=
  ⟨ao, n, c, heap_alloc_new w _, h.below (boxB w _), fun ad e h0 => by
    obtain ⟨b, o, e2, hb⟩ := h.plain h0
    rw [e] at e2
    cases e2
    exact hb⟩
theorem below_of_grown {w W w' : World} {o : Obj} (hW : W = w.alloc o) (h : W.grownBy w' (some w.heap.size)) : Below w.heap.size w w' := by
  subst hW
  exact (boxB w o).grown h (by simp) (fun k e => by cases e; exact Nat.le_refl _)

/-- What Read tells: the nodes, and the error. -/
def readP (l : List UInt8) : List Nd × Int := if readB l = true then ((readS l).2.1, 0) else ([], 5)

set_option maxRecDepth 100000 in
set_option maxHeartbeats 1000000 in
theorem read_ok (ao : Option Addr) (m c : Nat) (l : List UInt8) (T : List Nd) (E : Int) (k : Nat) (w0 w : World) (h : Ok w0 w) (ha : ArgB w ao m c l) (hm : m < 999999) (hv : readP l = (T, E)) (hk : T.length = k) :
    Calls Tryd.prog 21 #[.slice ao m c] w fun e w' => ∃ b c, e = .returned (.tuple #[.slice b k c, .int .i64 E]) ∧ OwnN w.heap.size w' (.slice b k c) T ∧ Ok w0 w' ∧ Below w.heap.size w w' := by
  obtain ⟨z, s1, h1⟩ : ∃ z s1, textR (l, false) = (z, s1) := ⟨_, _, (Prod.eta _).symm⟩
  obtain ⟨t, s2, h2⟩ : ∃ t s2, listR s1 = (t, s2) := ⟨_, _, (Prod.eta _).symm⟩
  have hS : readS l = (z, t, s2) := by unfold readS; rw [h1, h2]
  have hlen := readS_len l
  obtain ⟨q, hq⟩ : ∃ q, q = (z == [110, 97, 114, 45, 49]) := ⟨_, rfl⟩
  have hqm : decide (z = markL) = q := by
    rw [hq]
    show decide (z = markL) = (z == markL)
    by_cases e : z = markL <;> simp [e]
  have hB : readB l = (q && (!s2.2 && s2.1.isEmpty) && mayN t) := by unfold readB; rw [hS]; simp only []; rw [hqm]
  have hl := ha.len
  unfold readP at hv
  rw [hS] at hlen hv
  simp only [] at hlen hv
  obtain ⟨y, hy⟩ : ∃ y, mayN t = y := ⟨_, rfl⟩
  obtain ⟨f, hf⟩ : ∃ f, f = (!s2.2 && s2.1.isEmpty) := ⟨_, rfl⟩
  rw [hy, ← hf] at hB
  rw [hB] at hv
  obtain ⟨n, hn⟩ : ∃ n, n = t.length := ⟨_, rfl⟩
  obtain ⟨W, hW⟩ : ∃ W, W = w.alloc (.cells #[.slice ao m c, .bool false] 53) := ⟨_, rfl⟩
  have HR : Hid (RdAt W w.heap.size (l, false)) := by rw [hW]; exact hide (RdAt.made ha)
  have hsW : w.heap.size < W.heap.size := by rw [hW]; simp
  have HW := hide hW
  have H1 := hide h1
  have H2 := hide h2
  have HV := hide hv
  have HK := hide hk
  have HY := hide hy
  have HF := hide hf
  have HN := hide hn
  have HP : Hid (∀ n ∈ t, n.1.size < 999999) := fun n hn => by have := hlen.2 n hn; omega
  have HT : Hid (t.length ≤ 400) := hlen.1
  have hq' := hq.symm
  clear h1 h2 hS hlen hB hy hf hl ha hW hn hv hk hqm hq
  have hml := Hog.mk_toList
  go_enter Tryd.func21, Tryd.ntmps21
  go_wp2_with fail
  rw [← HW.out]
  refine (text_ok w.heap.size (l, false) z s1 W HR.out H1.out).mono ?_
  rintro e w1 ⟨rfl, hr1, hg1⟩
  have HR1 := hide hr1
  have HG1 := hide hg1
  clear hr1 hg1
  go_wp2_with fail
  refine (list_ok w.heap.size s1 t s2 w1 HR1.out H2.out).mono ?_
  rintro e w2 ⟨b2, c2, rfl, ho2, hr2, hg2⟩
  rw [← HN.out] at ho2 ⊢
  have HO2 := hide (ho2.base (show w.heap.size ≤ w1.heap.size by have := HG1.out.size; omega))
  have HR2 := hide hr2
  have HB2 := hide (below_of_grown HW.out (grown_trans HG1.out hg2))
  clear ho2 hr2 hg2
  cases q with
  | false =>
    go_wp2
    go_ret2
    have hv := HV.out
    simp at hv
    obtain ⟨rfl, rfl⟩ := hv
    obtain rfl : k = 0 := HK.out.symm
    exact ⟨none, 0, rfl, OwnN.nil _ _, h.next HB2.out, HB2.out⟩
  | true =>
    go_wp2_with fail
    refine (ended_ok w.heap.size s2 w2 HR2.out).mono ?_
    rintro e w3 ⟨rfl, rfl⟩
    rw [← HF.out]
    cases f with
    | false =>
      go_wp2
      go_ret2
      have hv := HV.out
      simp at hv
      obtain ⟨rfl, rfl⟩ := hv
      obtain rfl : k = 0 := HK.out.symm
      exact ⟨none, 0, rfl, OwnN.nil _ _, h.next HB2.out, HB2.out⟩
    | true =>
      go_wp2_with fail
      refine (mayT_ok _ t y w0 w3 (h.next HB2.out) HP.out HO2.out.nods (by have := HT.out; omega) HY.out).mono ?_
      rintro e w4 ⟨rfl, ok4, hb4⟩
      have HB4 := hide (below_two HB2.out hb4)
      have HO4 := hide (HO2.out.below hb4)
      cases y with
      | false =>
        go_wp2
        go_ret2
        have hv := HV.out
        simp at hv
        obtain ⟨rfl, rfl⟩ := hv
        obtain rfl : k = 0 := HK.out.symm
        exact ⟨none, 0, rfl, OwnN.nil _ _, ok4, HB4.out⟩
      | true =>
        go_wp2
        go_ret2
        have hv := HV.out
        simp at hv
        obtain ⟨rfl, rfl⟩ := hv
        obtain rfl : k = n := by rw [← HK.out, HN.out]
        exact ⟨b2, c2, rfl, HO4.out, ok4, HB4.out⟩
end Go.Proofs.YtlepahfbbdjdgaaDoor
