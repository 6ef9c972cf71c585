/- Trees in memory; rooted. -/
import Derived.Test.YteablfekfijnhaaDoorP2
namespace Go.Proofs.YteablfekfijnhaaDoor
open Go.RowKit

/-- The slice v holds slices that hold the nodes of the trees ts. -/
def Trs (w : World) (v : Value) (ts : List (List Nd)) : Prop :=
  (ts = [] ∧ ∃ a c, v = .slice a 0 c) ∨ ∃ b o c, v = .slice (some ⟨b, o, none⟩) ts.length c ∧ ts.length ≤ c ∧ b < w.heap.size ∧ ∀ (j : Nat) t, ts[j]? = some t → ∃ u, w.cell? ⟨b, o + j, none⟩ = some u ∧ Nods w u t
theorem Trs.below {w w' : World} {v : Value} {ts : List (List Nd)} (h : Trs w v ts) (hb : Below w.heap.size w w') : Trs w' v ts := by
  rcases h with h | ⟨b, o, c, e, hc, hl, hr⟩
  · exact .inl h
  · refine .inr ⟨b, o, c, e, hc, Nat.lt_of_lt_of_le hl hb.size, fun j t ht => ?_⟩
    obtain ⟨u, h1, h2⟩ := hr j t ht
    exact ⟨u, (hb.cell (p := ⟨b, o + j, none⟩) hl).trans h1, h2.below hb⟩
theorem Trs.form {w : World} {v : Value} {ts : List (List Nd)} (h : Trs w v ts) : ∃ a c, v = .slice a ts.length c := by
  rcases h with ⟨rfl, a, c, rfl⟩ | ⟨b, o, c, rfl, _⟩
  · exact ⟨a, c, rfl⟩
  · exact ⟨_, c, rfl⟩

/-- A tree that was handed in, somewhere. -/
theorem Nods.at0 {w : World} {v : Value} {n : Nd} {r : List Nd} (h : Nods w v (n :: r)) : ∃ b o c, v = .slice (some ⟨b, o, none⟩) (r.length + 1) c ∧ r.length + 1 ≤ c ∧ At w b o n ∧ b < w.heap.size := by
  rcases h with ⟨e, _⟩ | ⟨b, o, c, rfl, hc, hl, hr⟩
  · cases e
  · exact ⟨b, o, c, rfl, hc, by simpa using hr 0 n rfl, hl⟩

set_option maxRecDepth 100000 in
set_option maxHeartbeats 1000000 in
theorem rooted_ok (v : Value) (t : List Nd) (b : Bool) (w0 w : World) (ok : Ok w0 w) (hp : ∀ n ∈ t, n.1.size < 999999) (hn : Nods w v t) (hm : t.length < 1000000) (hv : rootedB t = b) :
    Calls Tryd.prog 18 #[v] w fun e w' => e = .returned (.bool b) ∧ Ok w0 w' ∧ Below w.heap.size w w' := by
  have HP := hide hp
  have HN := hide hn
  have HV := hide hv
  obtain ⟨y, hy⟩ : ∃ y, mayN t = y := ⟨_, rfl⟩
  have HY := hide hy
  clear hp hn hv hy
  cases t with
  | nil =>
    obtain rfl : y = false := by rw [← HY.out]; decide +kernel
    go_enter Tryd.func18, Tryd.ntmps18
    go_wp2_with fail
    refine (mayT_ok v [] false w0 w ok HP.out HN.out hm HY.out).mono ?_
    rintro e w1 ⟨rfl, ok1, hb1⟩
    go_wp2
    go_ret
    exact ⟨ret_bool (by rw [← HV.out]; unfold rootedB; rw [HY.out]; rfl), ok1, hb1⟩
  | cons n r =>
    obtain ⟨b0, o0, c0, rfl, hc, hat, hl⟩ := HN.out.at0
    have HA := hide hat
    clear hat
    go_enter Tryd.func18, Tryd.ntmps18
    go_wp2_with fail
    refine (mayT_ok _ (n :: r) y w0 w ok HP.out HN.out hm HY.out).mono ?_
    rintro e w1 ⟨rfl, ok1, hb1⟩
    have hk := (HA.out.below hb1 hl).kind
    have HB1 := hide hb1
    have hi : (0 : Int) < ((r.length + 1 : Nat) : Int) := by omega
    clear hb1
    cases y with
    | false =>
      go_wp2
      go_ret
      exact ⟨ret_bool (by rw [← HV.out]; unfold rootedB; rw [HY.out]; rfl), ok1, HB1.out⟩
    | true =>
      go_wp2
      go_ret
      exact ⟨ret_bool (by rw [← HV.out]; unfold rootedB; rw [HY.out, Bool.true_and]; rfl), ok1, HB1.out⟩
end Go.Proofs.YteablfekfijnhaaDoor
