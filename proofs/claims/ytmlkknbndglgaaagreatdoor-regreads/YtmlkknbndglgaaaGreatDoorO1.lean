/- The walk of ItemHashes. -/
import Derived.Test.YtmlkknbndglgaaaGreatDoorJ13
import Derived.Test.YtmlkknbndglgaaaGreatDoorT3
import Derived.BigQuiet
namespace Go.Proofs.YtmlkknbndglgaaaGreatDoor
open Go.RowKit

theorem app_data (x y : ByteArray) : (x ++ y).data.toList = x.data.toList ++ y.data.toList := by simp
theorem name_long {s : ByteArray} (h : 30 < s.size) : Hog.nameL s.data.toList = false := Hog.name_not fun k => by have := k.high; rw [← Hog.size_len] at this; omega
theorem name_size {s : ByteArray} (h : Hog.nameL s.data.toList = true) : 10 ≤ s.size ∧ s.size ≤ 30 := by
  have k := Hog.name_iff.1 h
  have h1 := k.low
  have h2 := k.high
  rw [← Hog.size_len] at h1 h2
  exact ⟨h1, h2⟩
theorem hash_not {s : ByteArray} (h : Hog.nameL s.data.toList = false) : Hog.mk (Hog.hashL s.data.toList) = ⟨#[]⟩ := by rw [Hog.hash_none h]; rfl
theorem hash_is {s : ByteArray} (h : Hog.nameL s.data.toList = true) : Hog.mk (Hog.hashL s.data.toList) = s.extract 0 8 := by rw [Hog.hash_name h, take_mk]
theorem cross_data (a b : ByteArray) : (a.extract 0 8 ++ b.extract 8 b.size).data.toList = a.data.toList.take 8 ++ b.data.toList.drop 8 := by
  rw [app_data, take_mk, drop_mk, Hog.mk_data, Hog.mk_data]
theorem cross_name {a b : ByteArray} (ha : Hog.nameL a.data.toList = true) (hb : Hog.nameL b.data.toList = true) : Hog.nameL (a.extract 0 8 ++ b.extract 8 b.size).data.toList = true := by
  rw [cross_data]
  exact Hog.name_iff.2 (Hog.name_cross (Hog.name_iff.1 ha) (Hog.name_iff.1 hb))
theorem cross_hash {a b : ByteArray} (ha : Hog.nameL a.data.toList = true) (hb : Hog.nameL b.data.toList = true) : Hog.mk (Hog.hashL (a.extract 0 8 ++ b.extract 8 b.size).data.toList) = a.extract 0 8 := by
  rw [Hog.hash_name (cross_name ha hb), cross_data, Hog.cross_take (by have := (name_size ha).1; rw [Hog.size_len] at this; omega), take_mk]

end Go.Proofs.YtmlkknbndglgaaaGreatDoor
