/-
  DERIVED. GIVEN WITH THE SEED: THE CARDS: each row of YteghoooelgcpkabGreatDoorRows.lean that lists a variable, with what it lists TIED to the program's text (the seventh form; the later family's looks); each row that meets fmt, with fmt's text TOLD by the authors' own Lean function (tested against real Go, not proved from fmt's source: count such statements apart). THE CARD IS WHAT COUNTS. Prove the row's statement (the work); the ties are given (YteghoooelgcpkabGreatDoorTie.lean); close each card by the builder's one call (the guide's Derived/Test/ToyasCard.lean, 'card_holds'). Laid BY PROGRAM, IN A SANDBOX (cutbox-door.mjs). By AI agents, Wed Nov 11 2026. No macro, syntax, notation, axiom, sorry.
-/
import Derived.Test.YteghoooelgcpkabGreatDoorRows
import GoSem.ClaimSeven
namespace Go.Proofs.YteghoooelgcpkabGreatDoor
namespace Rows

/-- THE TIED CARD OF 'messengersays.Woken'. -/
def wokenCard : Claim7 := { stood := { row := wokenRow, standIns := [], harness := (true, "6d34b5b96c0b4a8b393d6d3c51a55598492b49092122fb183d2312e2f57dd5d4"), looks := false }, kinds := [], alts := [], laidByText := true, laidKinds := [.data, .data], laidTests := true, laidLooks := .later }
def WokenCardSaid : Prop := Claim7.holds Tryz.pinned (.plain (OpenSpec.ofChange wokenSpec)) wokenCard

/-- THE TIED CARD OF 'messengersays.Talks'. -/
def talksCard : Claim7 := { stood := { row := talksRow, standIns := [], harness := (true, "6d34b5b96c0b4a8b393d6d3c51a55598492b49092122fb183d2312e2f57dd5d4"), looks := false }, kinds := [], alts := [], laidByText := true, laidKinds := [.data, .data], laidTests := true, laidLooks := .later }
def TalksCardSaid : Prop := Claim7.holds Tryz.pinned (.plain (OpenSpec.ofChange talksSpec)) talksCard

/-- THE TIED CARD OF 'messengerlaw.All'. -/
def allCard : Claim7 := { stood := { row := allRow, standIns := [], harness := (true, "6d34b5b96c0b4a8b393d6d3c51a55598492b49092122fb183d2312e2f57dd5d4"), looks := false }, kinds := [], alts := [], laidByText := true, laidKinds := [.data, .data], laidTests := true, laidLooks := .later }
def AllCardSaid : Prop := Claim7.holds Tryz.pinned (.plain (OpenSpec.ofChange allSpec)) allCard

/-- THE SECOND FORM's CARD OF 'messengersays.Woken'. -/
def wokenUptoCard : Claim7 := { stood := { row := wokenUptoRow, standIns := [], harness := (true, "6d34b5b96c0b4a8b393d6d3c51a55598492b49092122fb183d2312e2f57dd5d4"), looks := false }, kinds := [], alts := [], laidByText := true, laidKinds := [.data, .data], laidTests := true, laidLooks := .later }
def WokenUptoCardSaid : Prop := Claim7.holds Tryz.pinned (.plain (OpenSpec.upto wokenSpec)) wokenUptoCard

/-- THE SECOND FORM's CARD OF 'messengersays.Talks'. -/
def talksUptoCard : Claim7 := { stood := { row := talksUptoRow, standIns := [], harness := (true, "6d34b5b96c0b4a8b393d6d3c51a55598492b49092122fb183d2312e2f57dd5d4"), looks := false }, kinds := [], alts := [], laidByText := true, laidKinds := [.data, .data], laidTests := true, laidLooks := .later }
def TalksUptoCardSaid : Prop := Claim7.holds Tryz.pinned (.plain (OpenSpec.upto talksSpec)) talksUptoCard

/-- THE SECOND FORM's CARD OF 'messengerlaw.All'. -/
def allUptoCard : Claim7 := { stood := { row := allUptoRow, standIns := [], harness := (true, "6d34b5b96c0b4a8b393d6d3c51a55598492b49092122fb183d2312e2f57dd5d4"), looks := false }, kinds := [], alts := [], laidByText := true, laidKinds := [.data, .data], laidTests := true, laidLooks := .later }
def AllUptoCardSaid : Prop := Claim7.holds Tryz.pinned (.plain (OpenSpec.upto allSpec)) allUptoCard
end Rows
end Go.Proofs.YteghoooelgcpkabGreatDoor
