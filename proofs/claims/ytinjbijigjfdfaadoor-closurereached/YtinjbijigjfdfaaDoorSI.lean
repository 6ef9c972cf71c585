/- The walks of package scan: the two searches. -/
import Derived.Test.YtinjbijigjfdfaaDoorSH
namespace Go.Proofs.YtinjbijigjfdfaaDoor
open Go.RowKit

/-- Does the text q, of eight bytes, stand in s? -/
def hitB (s q : ByteArray) : Bool := decide (q.data.toList.length = 8) && Hog.hasL q.data.toList s.data.toList
theorem metB_whole (seen : ByteArray → Bool) (s q : ByteArray) : metB seen s (s.size + 1 - 8) q = (seen q || hitB s q) := by
  unfold metB hitB
  rw [Hog.size_len, Hog.metL_has]

/-- What a search does: from a tally in which nothing was seen it makes one that tells of what act tells. -/
def Searches (F : Nat) (lb : Array Value) (act : ByteArray → Bool) (w0 : World) : Prop :=
  ∀ (w : World) (m : Nat) (keys : ByteArray → Bool), Below w0.heap.size w0 w → w0.heap.size ≤ m → (∃ f, MapF w m f ∧ Tal keys (fun _ => false) 0 f) →
    Calls Tryd.prog F (#[.map (some m)] ++ lb) w fun e w' => e = .returned (.tuple #[]) ∧ (∃ f, MapF w' m f ∧ ∃ b, Tal keys act b f) ∧ w.grownBy w' (some m)

/-- Does q, of eight bytes, stand in the data of a node? -/
def hitN (ns : List Nd) (q : ByteArray) : Bool := ns.any fun n => hitB n.2.2 q
theorem hitN_step {ns : List Nd} {k : Nat} {n : Nd} (h : ns[k]? = some n) (q : ByteArray) : hitN (ns.take (k + 1)) q = (hitN (ns.take k) q || hitB n.2.2 q) := by
  obtain ⟨hk, rfl⟩ := List.getElem?_eq_some_iff.1 h
  unfold hitN
  rw [List.take_succ_eq_append_getElem hk, List.any_append]
  simp

set_option maxRecDepth 100000 in
set_option maxHeartbeats 1000000 in
theorem tree1_none (B : Nat) (a : Option Addr) (c : Nat) (w0 : World) (hB : B < w0.heap.size) (hc : w0.cell? ⟨B, 0, none⟩ = some (.slice a 0 c)) :
    Searches 30 #[.pointer (some ⟨B, 0, none⟩)] (hitN []) w0 := by
  intro w m keys hb _ hf
  have hcw := (hb.cell (p := ⟨B, 0, none⟩) hB).trans hc
  have HF := hide hf
  clear hf hb
  show Calls Tryd.prog 30 #[.map (some m), .pointer (some ⟨B, 0, none⟩)] w _
  go_enter Tryd.func30, Tryd.ntmps30
  go_wp2
  go_loop [7] (fun i => i = .int .i64 0) (fun _ => 0)
  case atStart => rfl
  case round =>
    subst hrel
    go_wp2
    go_end0
    obtain ⟨f, h1, h2⟩ := HF.out
    exact ⟨rfl, ⟨f, h1, 0, h2.more (fun q => rfl) (Nat.le_refl _)⟩, grown_refl _ _⟩
set_option maxRecDepth 100000 in
set_option maxHeartbeats 1000000 in
theorem tree1_some (B b o c n : Nat) (ns : List Nd) (w0 : World) (hB : B < w0.heap.size) (hn : ns.length = n) (hl : n < 900000) (hz : ∀ x ∈ ns, x.2.2.size < 1000000) (hc : w0.cell? ⟨B, 0, none⟩ = some (.slice (some ⟨b, o, none⟩) n c)) (hr : Run w0 b o ns) :
    Searches 30 #[.pointer (some ⟨B, 0, none⟩)] (hitN ns) w0 := by
  intro w m keys hb hm hf
  have hcw := (hb.cell (p := ⟨B, 0, none⟩) hB).trans hc
  have HR := hide (hr.below hb hr.1)
  have hbm : b < m := Nat.lt_of_lt_of_le hr.1 hm
  have HF := hide hf
  have HN := hide hn
  have HZ := hide hz
  clear hf hb hn hz hr
  show Calls Tryd.prog 30 #[.map (some m), .pointer (some ⟨B, 0, none⟩)] w _
  go_enter Tryd.func30, Tryd.ntmps30
  go_wp2
  go_loopw [7] (fun i wr => ∃ k : Nat, k ≤ n ∧ i = .int .i64 k ∧ Hid (∃ f, MapF wr m f ∧ Tal keys (hitN (ns.take k)) (k * 1000000) f) ∧ Hid (w.grownBy wr (some m))) (fun i _ => n - (intOf i).toNat)
  case atStart =>
    obtain ⟨f, h1, h2⟩ := HF.out
    exact ⟨0, Nat.zero_le _, rfl, ⟨f, h1, h2.more (fun q => rfl) (by omega)⟩, grown_refl _ _⟩
  case round =>
    obtain ⟨k, hk, rfl, hex, hgr⟩ := hrel
    by_cases hlt : k < n
    · obtain ⟨x, hx⟩ : ∃ x, ns[k]? = some x := ⟨ns[k]'(by have := HN.out; omega), List.getElem?_eq_some_iff.2 ⟨_, rfl⟩⟩
      obtain ⟨g1, g2, g3⟩ := (HR.out.grown hgr.out (fun e => by cases e; omega)).2 k x hx
      have hki : (k : Int) < (n : Int) := by omega
      have HX := hide hx
      have hxz := HZ.out x (List.mem_of_getElem? hx)
      have hbw : b < wr.heap.size := by have := hgr.out.size; have := HR.out.1; omega
      have HM : Hid (∃ f, MapF (wr.alloc (.cells #[.string x.1, .int .i64 x.2.1, .string x.2.2] 57)) m f ∧ Tal keys (hitN (ns.take k)) (k * 1000000) f) := by
        obtain ⟨f, h1, h2⟩ := hex.out
        exact ⟨f, h1.below (below_box _ _), h2⟩
      have hm1 : k * 1000000 < 1000000000000 := by omega
      clear hx hex
      go_wp2_with fail
      refine (meet_ok m (k * 1000000) x.2.2 keys (hitN (ns.take k)) _ hxz hm1 HM.out).mono ?_
      rintro e w1 ⟨rfl, hf1, hg1⟩
      have HF1 := hide hf1
      have HG1 := hide (grown_trans hgr.out (grown_trans (grown_box _ _ _) hg1))
      clear hf1 hg1 g1 g2 g3 HM
      go_wp2
      go_roundw
      case rel =>
        obtain ⟨f, h1, h2⟩ := HF1.out
        exact ⟨k + 1, by omega, by go_num, ⟨f, h1, h2.more (fun q => by rw [metB_whole, hitN_step HX.out]) (by omega)⟩, HG1⟩
      case measure => simp [intOf]; omega
    · have hki : (n : Int) ≤ (k : Int) := by omega
      have HK : Hid (k = n) := by show k = n; omega
      go_wp2
      go_end0
      obtain ⟨f, h1, h2⟩ := hex.out
      refine ⟨rfl, ⟨f, h1, k * 1000000, ?_⟩, hgr.out⟩
      have e : ns.take k = ns := by rw [HK.out, ← HN.out, List.take_length]
      rw [e] at h2
      exact h2
theorem tree1_ok (B : Nat) (v : Value) (ns : List Nd) (w0 : World) (hB : B < w0.heap.size) (hl : ns.length < 900000) (hz : ∀ x ∈ ns, x.2.2.size < 1000000) (hc : w0.cell? ⟨B, 0, none⟩ = some v) (hv : Nods w0 v ns) :
    Searches 30 #[.pointer (some ⟨B, 0, none⟩)] (hitN ns) w0 := by
  rcases hv with ⟨rfl, a, c, rfl⟩ | ⟨b, o, c, rfl, _, hr⟩
  · exact tree1_none B a c w0 hB hc
  · exact tree1_some B b o c ns.length ns w0 hB rfl hl hz hc hr
end Go.Proofs.YtinjbijigjfdfaaDoor
