/- The walk of the statements' own awake, layer 8. -/
import Derived.Test.YtinjbijigjfdfaaGreatDoorJ10
import Derived.Test.YtinjbijigjfdfaaGreatDoorJ11
import Derived.Test.YtinjbijigjfdfaaGreatDoorJ2
namespace Go.Proofs.YtinjbijigjfdfaaGreatDoor
open Go.RowKit

theorem told_of {act : ByteArray → Bool} {xs R : List ByteArray} (h1 : Hog.rise (plainT R)) (h2 : ∀ x, x ∈ plainT R ↔ x ∈ plainT (seenT act xs)) : toldT act xs = R := by
  unfold toldT
  rw [Hog.pick_one h1 h2, mk_plain]
theorem told_one {act : ByteArray → Bool} {xs : List ByteArray} {x : ByteArray} (h : seenT act xs = [x]) : toldT act xs = [x] :=
  told_of (List.pairwise_singleton _ _) (fun y => by rw [h])
theorem told_two {act : ByteArray → Bool} {xs : List ByteArray} {x : ByteArray} (h : seenT act xs = [x, x]) : toldT act xs = [x] :=
  told_of (List.pairwise_singleton _ _) (fun y => by rw [h]; simp [plainT])
theorem told_none {act : ByteArray → Bool} {xs : List ByteArray} (h : seenT act xs = []) : toldT act xs = [] :=
  told_of List.Pairwise.nil (fun y => by rw [h])

def nA : ByteArray := ⟨#[48, 49, 50, 51, 52, 53, 54, 97, 45, 120]⟩
def nB : ByteArray := ⟨#[49, 49, 50, 51, 52, 53, 54, 97, 45, 120]⟩
def tA : ByteArray := ⟨#[46, 46, 48, 49, 50, 51, 52, 53, 54, 97, 46, 46]⟩
theorem awake_hash : hashT nA = ⟨#[48, 49, 50, 51, 52, 53, 54, 97]⟩ ∧ hashT nB = ⟨#[49, 49, 50, 51, 52, 53, 54, 97]⟩ := by
  have h1 : Hog.hashL nA.data.toList = [48, 49, 50, 51, 52, 53, 54, 97] := by decide
  have h2 : Hog.hashL nB.data.toList = [49, 49, 50, 51, 52, 53, 54, 97] := by decide
  unfold hashT
  rw [h1, h2]
  exact ⟨rfl, rfl⟩
theorem awake_told : toldT (hitB tA) [nA, nB] = [nA] := by
  refine told_one ?_
  obtain ⟨h1, h2⟩ := awake_hash
  unfold seenT
  have e1 : hitB tA (hashT nA) = true := by rw [h1]; decide
  have e2 : hitB tA (hashT nB) = false := by rw [h2]; decide
  rw [List.filter_cons, List.filter_cons, e1, e2]
  rfl

end Go.Proofs.YtinjbijigjfdfaaGreatDoor
