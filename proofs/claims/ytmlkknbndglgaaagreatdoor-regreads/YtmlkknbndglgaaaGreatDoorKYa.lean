/- What is a prefix, plainly. -/
import Derived.Test.YtmlkknbndglgaaaGreatDoorJ1
namespace Go.Proofs.YtmlkknbndglgaaaGreatDoor

/-- May this byte stand behind a prefix's stroke? -/
def signB (b : UInt8) : Bool := (decide (97 ≤ b.toNat) && decide (b.toNat ≤ 122)) || (decide (48 ≤ b.toNat) && decide (b.toNat ≤ 57))
/-- Is this a prefix? -/
def prefB (p : ByteArray) : Bool := decide (4 ≤ p.size) && decide (p.size ≤ 16) && decide (p.data.toList[0]? = some 47) && (p.data.toList.drop 1).all signB
end Go.Proofs.YtmlkknbndglgaaaGreatDoor
