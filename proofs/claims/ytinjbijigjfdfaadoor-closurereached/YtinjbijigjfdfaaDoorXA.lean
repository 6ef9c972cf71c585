/- The walk of the statements' own awake, chapter 7. -/
import Derived.Test.YtinjbijigjfdfaaDoorX9
namespace Go.Proofs.YtinjbijigjfdfaaDoor
open Go.RowKit

def oneName : ByteArray := ⟨#[48, 49, 50, 51, 52, 53, 54, 97, 45, 120]⟩
/-- The statements' own item that may be. -/
def oneI : It := (oneName, [], [(⟨#[]⟩, 2, ⟨#[120]⟩)])
theorem one_may : mayI oneI = true := by decide +kernel
theorem one_fair : Fair oneI := by
  refine ⟨by decide, by decide, fun x hx => by simp [oneI] at hx, by decide, fun n hn => ?_⟩
  simp [oneI] at hn
  subst hn
  decide

theorem aw_name : Hog.nameL oneName.data.toList = true := by decide +kernel
theorem aw_not : Hog.nameL (ByteArray.mk #[48, 49, 50, 51, 52, 53, 54, 101, 45, 120]).data.toList = false := by decide +kernel
theorem aw_hash : Hog.mk (Hog.hashL oneName.data.toList) = ⟨#[48, 49, 50, 51, 52, 53, 54, 97]⟩ := by
  have : Hog.hashL oneName.data.toList = [48, 49, 50, 51, 52, 53, 54, 97] := by decide +kernel
  rw [this]; rfl
theorem Txt.none (w : World) (a : Option Addr) (c : Nat) : Txt w (.slice a 0 c) [] := .inl ⟨rfl, a, c, rfl⟩

end Go.Proofs.YtinjbijigjfdfaaDoor
