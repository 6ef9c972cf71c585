/-
  DERIVED. GIVEN WITH THE SEED: THE CARDS: each row of YtpdbpeooebbpnaaGreatDoorRows.lean that lists a variable, with what it lists TIED to the program's text (the seventh form; the later family's looks); each row that meets fmt, with fmt's text TOLD by the authors' own Lean function (tested against real Go, not proved from fmt's source: count such statements apart). THE CARD IS WHAT COUNTS. Prove the row's statement (the work); the ties are given (YtpdbpeooebbpnaaGreatDoorTie.lean); close each card by the builder's one call (the guide's Derived/Test/ToyasCard.lean, 'card_holds'). Laid BY PROGRAM, IN A SANDBOX (cutbox-door.mjs). By AI agents, Wed Nov 11 2026. No macro, syntax, notation, axiom, sorry.
-/
import Derived.Test.YtpdbpeooebbpnaaGreatDoorRows
import GoSem.ClaimSeven
namespace Go.Proofs.YtpdbpeooebbpnaaGreatDoor
namespace Rows

/-- THE TIED CARD OF 'hogsheadlaw13.TarLays'. -/
def tarLaysCard : Claim7 := { stood := { row := tarLaysRow, standIns := [], harness := (true, "aa538119696a707f65a4b7761e3c37199fd11aa17fb5976169bbcba06ef4c21b"), looks := false }, kinds := [], alts := [], laidByText := true, laidKinds := [.data, .data, .data, .data, .pinned], laidTests := true, laidLooks := .later }
def TarLaysCardSaid : Prop := Claim7.holds Tryz.pinned (.plain (OpenSpec.ofChange tarLaysSpec)) tarLaysCard

/-- THE SECOND FORM's CARD OF 'hogsheadlaw13.TarLays'. -/
def tarLaysUptoCard : Claim7 := { stood := { row := tarLaysUptoRow, standIns := [], harness := (true, "aa538119696a707f65a4b7761e3c37199fd11aa17fb5976169bbcba06ef4c21b"), looks := false }, kinds := [], alts := [], laidByText := true, laidKinds := [.data, .data, .data, .data, .pinned], laidTests := true, laidLooks := .later }
def TarLaysUptoCardSaid : Prop := Claim7.holds Tryz.pinned (.plain (OpenSpec.upto tarLaysSpec)) tarLaysUptoCard
end Rows
end Go.Proofs.YtpdbpeooebbpnaaGreatDoor
