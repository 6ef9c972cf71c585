/- Blocks of a tar, plainly: how many each node asks for. Nothing here names the program. -/
import Derived.Test.YtpdbpeooebbpnaaDoorPlainJ
namespace Go.Proofs.YtpdbpeooebbpnaaDoor.Hog
open Go

/-- How many blocks a node's own bytes ask for. -/
def ownB (x : Nd) : Nat := if x.2.1 = 4 then 0 else (x.2.2.size + 511) / 512
theorem entE_blocks (x : Nd) : ((entE x).data.length + 511) / 512 = ownB x := by
  unfold entE ownB
  simp only
  split
  · rfl
  · rw [Hog.size_len]
theorem entE_long (x : Nd) : (entE x).name.length ≤ 100 ↔ x.1.size ≤ 100 := by
  unfold entE
  simp only
  rw [Hog.size_len]
  split
  · rename_i h; rw [h]; simp
  · exact Iff.rfl
theorem entE_name_long {x : Nd} (h : 100 < x.1.size) : (entE x).name = x.1.data.toList := by
  unfold entE
  simp only
  rw [if_neg]
  intro e
  rw [Hog.size_len, e] at h
  simp at h
theorem entE_goes {x : Nd} (h : x.2.1 = 4) : (entE x).link = x.2.2.data.toList := by unfold entE; simp only [h, if_true]
theorem entE_stays {x : Nd} (h : x.2.1 ≠ 4) : (entE x).link = [] := by unfold entE; simp only [if_neg h]
theorem rec_some {k v : List UInt8} (h : k.length + v.length < 1000000) : 1 ≤ (recL k v).length := by
  have hd := digR_is (r := (restL k v).length) (by rw [restL_len]; omega)
  rw [recL_len h]; unfold recN; have := hd.pos; omega
theorem rec_small {k v : List UInt8} (hk : k.length ≤ 10) (hv : v.length ≤ 400) : (recL k v).length ≤ v.length + 16 := by
  rw [recL_len (by omega)]
  have h3 := digR_small (r := (restL k v).length) (by rw [restL_len]; omega)
  unfold recN
  rw [restL_len] at *; omega
theorem node_short {x : Nd} (h : NodeG x) (hp : x.1.size ≤ 100) (hl : x.2.1 = 4 → x.2.2.size ≤ 100) : (entsN x).length = 1 ∧ (nodeT x).length = 512 * (1 + ownB x) := by
  have e1 : oneR pathK (entE x).name = [] := by unfold oneR; rw [if_pos ((entE_long x).2 hp)]
  have e2 : oneR linkK (entE x).link = [] := by
    unfold oneR
    by_cases k4 : x.2.1 = 4
    · rw [entE_goes k4, if_pos (by rw [← Hog.size_len]; exact hl k4)]
    · rw [entE_stays k4]; rfl
  have e : recsE (entE x) = [] := by unfold recsE; rw [e1, e2]; rfl
  refine ⟨by unfold entsN; rw [if_pos e]; rfl, ?_⟩
  rw [nodeT_one e, entL_len (entE_fits h), entE_blocks]
  omega
theorem node_long {x : Nd} (h : NodeG x) (m : Nat) (hm : (recsE (entE x)).length = m) (h1 : 1 ≤ m) : (entsN x).length = 2 ∧ (nodeT x).length = 512 * (2 + (m + 511) / 512 + ownB x) := by
  have hf := entE_fits h
  have e : recsE (entE x) ≠ [] := fun e => by rw [e] at hm; simp at hm; omega
  refine ⟨by unfold entsN; rw [if_neg e]; rfl, ?_⟩
  rw [nodeT_two e, List.length_append, entL_len hf, entE_blocks, entL_len (paxE_fits (recsE_len hf))]
  show 512 + ((recsE (entE x)).length + 511) / 512 * 512 + _ = _
  rw [hm]
  omega
/-- Only the name is too long. -/
theorem node_name {x : Nd} (h : NodeG x) (hp : 100 < x.1.size) (hl : x.2.1 = 4 → x.2.2.size ≤ 100) : (entsN x).length = 2 ∧ (nodeT x).length = 512 * (3 + ownB x) := by
  have hps : x.1.data.toList.length ≤ 200 := h.path
  have e2 : oneR linkK (entE x).link = [] := by
    unfold oneR
    by_cases k4 : x.2.1 = 4
    · rw [entE_goes k4, if_pos (by rw [← Hog.size_len]; exact hl k4)]
    · rw [entE_stays k4]; rfl
  have e : recsE (entE x) = recL pathK x.1.data.toList := by
    unfold recsE
    rw [e2, List.append_nil, entE_name_long hp]
    unfold oneR
    rw [if_neg (by rw [← Hog.size_len]; omega)]
  have hs := rec_small (k := pathK) (v := x.1.data.toList) (by decide) (by omega)
  have hp1 := rec_some (k := pathK) (v := x.1.data.toList) (by rw [show pathK.length = 4 by rfl]; omega)
  obtain ⟨a, b⟩ := node_long h _ (congrArg List.length e) hp1
  refine ⟨a, ?_⟩
  rw [b]
  omega
/-- Only the link is too long. -/
theorem node_link {x : Nd} (h : NodeG x) (k4 : x.2.1 = 4) (hp : x.1.size ≤ 100) (hl : 100 < x.2.2.size) : (entsN x).length = 2 ∧ (nodeT x).length = 512 * 3 := by
  have hds : x.2.2.data.toList.length ≤ 400 := h.data
  have e1 : oneR pathK (entE x).name = [] := by unfold oneR; rw [if_pos ((entE_long x).2 hp)]
  have e : recsE (entE x) = recL linkK x.2.2.data.toList := by
    unfold recsE
    rw [e1, List.nil_append, entE_goes k4]
    unfold oneR
    rw [if_neg (by rw [← Hog.size_len]; omega)]
  have hs := rec_small (k := linkK) (v := x.2.2.data.toList) (by decide) hds
  have hp1 := rec_some (k := linkK) (v := x.2.2.data.toList) (by rw [show linkK.length = 8 by rfl]; omega)
  obtain ⟨a, b⟩ := node_long h _ (congrArg List.length e) hp1
  refine ⟨a, ?_⟩
  have o : ownB x = 0 := by unfold ownB; rw [if_pos k4]
  rw [b, o]
  omega
/-- Both are too long. -/
theorem node_both {x : Nd} (h : NodeG x) (k4 : x.2.1 = 4) (hp : 100 < x.1.size) (hl : 100 < x.2.2.size) (a b : Nat) (ha : (recL pathK x.1.data.toList).length = a) (hb : (recL linkK x.2.2.data.toList).length = b) :
    (entsN x).length = 2 ∧ (nodeT x).length = 512 * (if 512 < a + b then 4 else 3) := by
  have hps : x.1.data.toList.length ≤ 200 := h.path
  have hds : x.2.2.data.toList.length ≤ 400 := h.data
  have e : recsE (entE x) = recL pathK x.1.data.toList ++ recL linkK x.2.2.data.toList := by
    unfold recsE
    rw [entE_name_long hp, entE_goes k4]
    unfold oneR
    rw [if_neg (by rw [← Hog.size_len]; omega), if_neg (by rw [← Hog.size_len]; omega)]
  have h1 := rec_small (k := pathK) (v := x.1.data.toList) (by decide) (by omega)
  have h2 := rec_small (k := linkK) (v := x.2.2.data.toList) (by decide) hds
  have hp1 := rec_some (k := pathK) (v := x.1.data.toList) (by rw [show pathK.length = 4 by rfl]; omega)
  obtain ⟨c, d⟩ := node_long h (a + b) (by rw [e, List.length_append, ha, hb]) (by omega)
  refine ⟨c, ?_⟩
  have o : ownB x = 0 := by unfold ownB; rw [if_pos k4]
  rw [d, o]
  split <;> omega
end Go.Proofs.YtpdbpeooebbpnaaDoor.Hog
