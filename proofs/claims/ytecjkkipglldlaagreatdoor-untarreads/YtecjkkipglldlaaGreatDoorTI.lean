/- The walk of chapter 13's awake. -/
import Derived.Test.YtecjkkipglldlaaGreatDoorTH
namespace Go.Proofs.YtecjkkipglldlaaGreatDoor
open Go.RowKit

def aw13 : List Nd := [(⟨#[]⟩, 1, ⟨#[]⟩)]
theorem aw13_may : mayN aw13 = true := by decide +kernel
theorem aw13_short : ShortT aw13 := by
  refine ⟨by decide, fun n hn => ?_⟩
  simp [aw13] at hn
  subst hn
  decide
theorem aw13_node : Hog.NodeG ((⟨#[]⟩, 1, ⟨#[]⟩) : Nd) := Hog.tree_node aw13_may _ (by simp [aw13])
theorem aw13_recs : Hog.recsE (Hog.entE (⟨#[]⟩, 1, ⟨#[]⟩)) = [] := rfl
theorem aw13_tar : Hog.tarL aw13 = Hog.entL (Hog.entE (⟨#[]⟩, 1, ⟨#[]⟩)) ++ Hog.zeros 1024 := by
  unfold Hog.tarL Hog.treeT aw13
  rw [List.flatMap_cons, List.flatMap_nil, List.append_nil, Hog.nodeT_one aw13_recs]
theorem aw13_len : (Hog.tarL aw13).length = 1536 := by
  rw [aw13_tar, List.length_append, Hog.zeros_len, Hog.entL_len (Hog.entE_fits aw13_node)]
  rfl
theorem aw13_first : (Hog.tarL aw13)[0]? = some 46 := by
  have h := (Hog.entE_fits aw13_node).may
  rw [aw13_tar]
  unfold Hog.entL Hog.headE
  rw [Hog.head_raw h]
  unfold Hog.rawH
  rfl
theorem aw13_count : Hog.countT aw13 = 1 := by
  unfold Hog.countT aw13 Hog.entsN
  rw [List.map_cons, List.map_nil, if_pos aw13_recs]
  rfl
def rc13 : List UInt8 := [49, 49, 32, 112, 97, 116, 104, 61, 97, 98, 10]
theorem rc13_rec : Hog.recL [112, 97, 116, 104] [97, 98] = rc13 := by
  have h10 : Lib.nDigits 10 = 2 := Lib.nDigits_unique 1 10 (by decide) (by decide)
  have h11 : Lib.nDigits 11 = 2 := Lib.nDigits_unique 1 11 (by decide) (by decide)
  have hl : (Hog.restL [112, 97, 116, 104] [97, 98]).length = 9 := by rw [Hog.restL_len]; rfl
  have h2 : Hog.digR 9 = 2 := Hog.IsDig.one (Hog.digR_is (by omega)) ⟨by omega, by omega, h11, fun j h1 h2 => by
    obtain rfl : j = 1 := by omega
    rw [h10]; omega⟩
  unfold Hog.recL Hog.recN
  rw [hl, h2, show 9 + 2 = 11 by rfl, Hog.decL_more (by omega), Hog.decL_one (by omega)]
  rfl

end Go.Proofs.YtecjkkipglldlaaGreatDoor
