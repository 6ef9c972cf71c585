/-
  DERIVED. GIVEN WITH THE SEED: THE CARDS: each row of YtmlkknbndglgaaaGreatDoorRows.lean that lists a variable, with what it lists TIED to the program's text (the seventh form; the later family's looks); each row that meets fmt, with fmt's text TOLD by the authors' own Lean function (tested against real Go, not proved from fmt's source: count such statements apart). THE CARD IS WHAT COUNTS. Prove the row's statement (the work); the ties are given (YtmlkknbndglgaaaGreatDoorTie.lean); close each card by the builder's one call (the guide's Derived/Test/ToyasCard.lean, 'card_holds'). Laid BY PROGRAM, IN A SANDBOX (cutbox-door.mjs). By AI agents, Wed Nov 11 2026. No macro, syntax, notation, axiom, sorry.
-/
import Derived.Test.YtmlkknbndglgaaaGreatDoorRows
import GoSem.ClaimSeven
namespace Go.Proofs.YtmlkknbndglgaaaGreatDoor
namespace Rows

/-- THE TIED CARD OF 'hogsheadlaw11.RegTells'. -/
def regTellsCard : Claim7 := { stood := { row := regTellsRow, standIns := [], harness := (true, "06da73441a5f6897abb3b30f4ba638f7a68978b0a76b52e16094d5f04f1c1acf"), looks := true }, kinds := [], alts := [], laidByText := true, laidKinds := [.data, .data, .data, .data, .sentinel, .sentinel, .pinned], laidTests := true, laidLooks := .later }
def RegTellsCardSaid : Prop := Claim7.holds Tryz.pinned (.plain (OpenSpec.ofChange regTellsSpec)) regTellsCard

/-- THE TIED CARD OF 'hogsheadlaw11.RegReads'. -/
def regReadsCard : Claim7 := { stood := { row := regReadsRow, standIns := [], harness := (true, "06da73441a5f6897abb3b30f4ba638f7a68978b0a76b52e16094d5f04f1c1acf"), looks := true }, kinds := [], alts := [], laidByText := true, laidKinds := [.data, .data, .data, .data, .sentinel, .sentinel, .pinned], laidTests := true, laidLooks := .later }
def RegReadsCardSaid : Prop := Claim7.holds Tryz.pinned (.plain (OpenSpec.ofChange regReadsSpec)) regReadsCard

/-- THE TIED CARD OF 'hogsheadlaw11.RegBack'. -/
def regBackCard : Claim7 := { stood := { row := regBackRow, standIns := [], harness := (true, "06da73441a5f6897abb3b30f4ba638f7a68978b0a76b52e16094d5f04f1c1acf"), looks := true }, kinds := [], alts := [], laidByText := true, laidKinds := [.data, .data, .data, .data, .sentinel, .sentinel, .pinned], laidTests := true, laidLooks := .later }
def RegBackCardSaid : Prop := Claim7.holds Tryz.pinned (.plain (OpenSpec.ofChange regBackSpec)) regBackCard

/-- THE TIED CARD OF 'hogsheadlaw11.RegLines'. -/
def regLinesCard : Claim7 := { stood := { row := regLinesRow, standIns := [], harness := (true, "06da73441a5f6897abb3b30f4ba638f7a68978b0a76b52e16094d5f04f1c1acf"), looks := true }, kinds := [], alts := [], laidByText := true, laidKinds := [.data, .data, .data, .data, .sentinel, .sentinel, .pinned], laidTests := true, laidLooks := .later }
def RegLinesCardSaid : Prop := Claim7.holds Tryz.pinned (.plain (OpenSpec.ofChange regLinesSpec)) regLinesCard

/-- THE SECOND FORM's CARD OF 'hogsheadlaw11.RegTells'. -/
def regTellsUptoCard : Claim7 := { stood := { row := regTellsUptoRow, standIns := [], harness := (true, "06da73441a5f6897abb3b30f4ba638f7a68978b0a76b52e16094d5f04f1c1acf"), looks := true }, kinds := [], alts := [], laidByText := true, laidKinds := [.data, .data, .data, .data, .sentinel, .sentinel, .pinned], laidTests := true, laidLooks := .later }
def RegTellsUptoCardSaid : Prop := Claim7.holds Tryz.pinned (.plain (OpenSpec.upto regTellsSpec)) regTellsUptoCard

/-- THE SECOND FORM's CARD OF 'hogsheadlaw11.RegReads'. -/
def regReadsUptoCard : Claim7 := { stood := { row := regReadsUptoRow, standIns := [], harness := (true, "06da73441a5f6897abb3b30f4ba638f7a68978b0a76b52e16094d5f04f1c1acf"), looks := true }, kinds := [], alts := [], laidByText := true, laidKinds := [.data, .data, .data, .data, .sentinel, .sentinel, .pinned], laidTests := true, laidLooks := .later }
def RegReadsUptoCardSaid : Prop := Claim7.holds Tryz.pinned (.plain (OpenSpec.upto regReadsSpec)) regReadsUptoCard

/-- THE SECOND FORM's CARD OF 'hogsheadlaw11.RegBack'. -/
def regBackUptoCard : Claim7 := { stood := { row := regBackUptoRow, standIns := [], harness := (true, "06da73441a5f6897abb3b30f4ba638f7a68978b0a76b52e16094d5f04f1c1acf"), looks := true }, kinds := [], alts := [], laidByText := true, laidKinds := [.data, .data, .data, .data, .sentinel, .sentinel, .pinned], laidTests := true, laidLooks := .later }
def RegBackUptoCardSaid : Prop := Claim7.holds Tryz.pinned (.plain (OpenSpec.upto regBackSpec)) regBackUptoCard

/-- THE SECOND FORM's CARD OF 'hogsheadlaw11.RegLines'. -/
def regLinesUptoCard : Claim7 := { stood := { row := regLinesUptoRow, standIns := [], harness := (true, "06da73441a5f6897abb3b30f4ba638f7a68978b0a76b52e16094d5f04f1c1acf"), looks := true }, kinds := [], alts := [], laidByText := true, laidKinds := [.data, .data, .data, .data, .sentinel, .sentinel, .pinned], laidTests := true, laidLooks := .later }
def RegLinesUptoCardSaid : Prop := Claim7.holds Tryz.pinned (.plain (OpenSpec.upto regLinesSpec)) regLinesUptoCard
end Rows
end Go.Proofs.YtmlkknbndglgaaaGreatDoor
