/-
  DERIVED. GIVEN WITH THE SEED: THE CARDS: each row of YteghoooelgcpkaaGreatDoorRows.lean that lists a variable, with what it lists TIED to the program's text (the seventh form; the later family's looks); each row that meets fmt, with fmt's text TOLD by the authors' own Lean function (tested against real Go, not proved from fmt's source: count such statements apart). THE CARD IS WHAT COUNTS. Prove the row's statement (the work); the ties are given (YteghoooelgcpkaaGreatDoorTie.lean); close each card by the builder's one call (the guide's Derived/Test/ToyasCard.lean, 'card_holds'). Laid BY PROGRAM, IN A SANDBOX (cutbox-door.mjs). By AI agents, Wed Nov 11 2026. No macro, syntax, notation, axiom, sorry.
-/
import Derived.Test.YteghoooelgcpkaaGreatDoorRows
import GoSem.ClaimSeven
namespace Go.Proofs.YteghoooelgcpkaaGreatDoor
namespace Rows

/-- THE TIED CARD OF 'messengerlaw.Publics'. -/
def publicsCard : Claim7 := { stood := { row := publicsRow, standIns := [], harness := (true, "3f0549dac65ff85d88c64794a818bae070f6654f30126a0df290d4fdb44b3d03"), looks := false }, kinds := [], alts := [], laidByText := true, laidKinds := [.data, .data], laidTests := true, laidLooks := .later }
def PublicsCardSaid : Prop := Claim7.holds Tryz.pinned (.plain (OpenSpec.ofChange publicsSpec)) publicsCard

/-- THE TIED CARD OF 'messengerlaw.Starts'. -/
def startsCard : Claim7 := { stood := { row := startsRow, standIns := [], harness := (true, "3f0549dac65ff85d88c64794a818bae070f6654f30126a0df290d4fdb44b3d03"), looks := false }, kinds := [], alts := [], laidByText := true, laidKinds := [.data, .data], laidTests := true, laidLooks := .later }
def StartsCardSaid : Prop := Claim7.holds Tryz.pinned (.plain (OpenSpec.ofChange startsSpec)) startsCard

/-- THE TIED CARD OF 'messengerlaw.Lays'. -/
def laysCard : Claim7 := { stood := { row := laysRow, standIns := [], harness := (true, "3f0549dac65ff85d88c64794a818bae070f6654f30126a0df290d4fdb44b3d03"), looks := false }, kinds := [], alts := [], laidByText := true, laidKinds := [.data, .data], laidTests := true, laidLooks := .later }
def LaysCardSaid : Prop := Claim7.holds Tryz.pinned (.plain (OpenSpec.ofChange laysSpec)) laysCard

/-- THE TIED CARD OF 'messengerlaw.Sends'. -/
def sendsCard : Claim7 := { stood := { row := sendsRow, standIns := [], harness := (true, "3f0549dac65ff85d88c64794a818bae070f6654f30126a0df290d4fdb44b3d03"), looks := false }, kinds := [], alts := [], laidByText := true, laidKinds := [.data, .data], laidTests := true, laidLooks := .later }
def SendsCardSaid : Prop := Claim7.holds Tryz.pinned (.plain (OpenSpec.ofChange sendsSpec)) sendsCard

/-- THE TIED CARD OF 'messengerlaw.Reads'. -/
def readsCard : Claim7 := { stood := { row := readsRow, standIns := [], harness := (true, "3f0549dac65ff85d88c64794a818bae070f6654f30126a0df290d4fdb44b3d03"), looks := false }, kinds := [], alts := [], laidByText := true, laidKinds := [.data, .data], laidTests := true, laidLooks := .later }
def ReadsCardSaid : Prop := Claim7.holds Tryz.pinned (.plain (OpenSpec.ofChange readsSpec)) readsCard

/-- THE TIED CARD OF 'messengerlaw.States'. -/
def statesCard : Claim7 := { stood := { row := statesRow, standIns := [], harness := (true, "3f0549dac65ff85d88c64794a818bae070f6654f30126a0df290d4fdb44b3d03"), looks := false }, kinds := [], alts := [], laidByText := true, laidKinds := [.data, .data], laidTests := true, laidLooks := .later }
def StatesCardSaid : Prop := Claim7.holds Tryz.pinned (.plain (OpenSpec.ofChange statesSpec)) statesCard

/-- THE TIED CARD OF 'messengerlaw.Raw'. -/
def rawCard : Claim7 := { stood := { row := rawRow, standIns := [], harness := (true, "3f0549dac65ff85d88c64794a818bae070f6654f30126a0df290d4fdb44b3d03"), looks := false }, kinds := [], alts := [], laidByText := true, laidKinds := [.data, .data], laidTests := true, laidLooks := .later }
def RawCardSaid : Prop := Claim7.holds Tryz.pinned (.plain (OpenSpec.ofChange rawSpec)) rawCard

/-- THE TIED CARD OF 'messengersays.Said'. -/
def saidCard : Claim7 := { stood := { row := saidRow, standIns := [], harness := (true, "3f0549dac65ff85d88c64794a818bae070f6654f30126a0df290d4fdb44b3d03"), looks := false }, kinds := [], alts := [], laidByText := true, laidKinds := [.data, .data], laidTests := true, laidLooks := .later }
def SaidCardSaid : Prop := Claim7.holds Tryz.pinned (.plain (OpenSpec.ofChange saidSpec)) saidCard

/-- THE TIED CARD OF 'messengersays.Delivered'. -/
def deliveredCard : Claim7 := { stood := { row := deliveredRow, standIns := [], harness := (true, "3f0549dac65ff85d88c64794a818bae070f6654f30126a0df290d4fdb44b3d03"), looks := false }, kinds := [], alts := [], laidByText := true, laidKinds := [.data, .data], laidTests := true, laidLooks := .later }
def DeliveredCardSaid : Prop := Claim7.holds Tryz.pinned (.plain (OpenSpec.ofChange deliveredSpec)) deliveredCard

/-- THE TIED CARD OF 'messengersays.Bent'. -/
def bentCard : Claim7 := { stood := { row := bentRow, standIns := [], harness := (true, "3f0549dac65ff85d88c64794a818bae070f6654f30126a0df290d4fdb44b3d03"), looks := false }, kinds := [], alts := [], laidByText := true, laidKinds := [.data, .data], laidTests := true, laidLooks := .later }
def BentCardSaid : Prop := Claim7.holds Tryz.pinned (.plain (OpenSpec.ofChange bentSpec)) bentCard

/-- THE TIED CARD OF 'messengersays.Junk'. -/
def junkCard : Claim7 := { stood := { row := junkRow, standIns := [], harness := (true, "3f0549dac65ff85d88c64794a818bae070f6654f30126a0df290d4fdb44b3d03"), looks := false }, kinds := [], alts := [], laidByText := true, laidKinds := [.data, .data], laidTests := true, laidLooks := .later }
def JunkCardSaid : Prop := Claim7.holds Tryz.pinned (.plain (OpenSpec.ofChange junkSpec)) junkCard

/-- THE TIED CARD OF 'messengersays.Other'. -/
def otherCard : Claim7 := { stood := { row := otherRow, standIns := [], harness := (true, "3f0549dac65ff85d88c64794a818bae070f6654f30126a0df290d4fdb44b3d03"), looks := false }, kinds := [], alts := [], laidByText := true, laidKinds := [.data, .data], laidTests := true, laidLooks := .later }
def OtherCardSaid : Prop := Claim7.holds Tryz.pinned (.plain (OpenSpec.ofChange otherSpec)) otherCard

/-- THE SECOND FORM's CARD OF 'messengerlaw.Publics'. -/
def publicsUptoCard : Claim7 := { stood := { row := publicsUptoRow, standIns := [], harness := (true, "3f0549dac65ff85d88c64794a818bae070f6654f30126a0df290d4fdb44b3d03"), looks := false }, kinds := [], alts := [], laidByText := true, laidKinds := [.data, .data], laidTests := true, laidLooks := .later }
def PublicsUptoCardSaid : Prop := Claim7.holds Tryz.pinned (.plain (OpenSpec.upto publicsSpec)) publicsUptoCard

/-- THE SECOND FORM's CARD OF 'messengerlaw.Starts'. -/
def startsUptoCard : Claim7 := { stood := { row := startsUptoRow, standIns := [], harness := (true, "3f0549dac65ff85d88c64794a818bae070f6654f30126a0df290d4fdb44b3d03"), looks := false }, kinds := [], alts := [], laidByText := true, laidKinds := [.data, .data], laidTests := true, laidLooks := .later }
def StartsUptoCardSaid : Prop := Claim7.holds Tryz.pinned (.plain (OpenSpec.upto startsSpec)) startsUptoCard

/-- THE SECOND FORM's CARD OF 'messengerlaw.Lays'. -/
def laysUptoCard : Claim7 := { stood := { row := laysUptoRow, standIns := [], harness := (true, "3f0549dac65ff85d88c64794a818bae070f6654f30126a0df290d4fdb44b3d03"), looks := false }, kinds := [], alts := [], laidByText := true, laidKinds := [.data, .data], laidTests := true, laidLooks := .later }
def LaysUptoCardSaid : Prop := Claim7.holds Tryz.pinned (.plain (OpenSpec.upto laysSpec)) laysUptoCard

/-- THE SECOND FORM's CARD OF 'messengerlaw.Sends'. -/
def sendsUptoCard : Claim7 := { stood := { row := sendsUptoRow, standIns := [], harness := (true, "3f0549dac65ff85d88c64794a818bae070f6654f30126a0df290d4fdb44b3d03"), looks := false }, kinds := [], alts := [], laidByText := true, laidKinds := [.data, .data], laidTests := true, laidLooks := .later }
def SendsUptoCardSaid : Prop := Claim7.holds Tryz.pinned (.plain (OpenSpec.upto sendsSpec)) sendsUptoCard

/-- THE SECOND FORM's CARD OF 'messengerlaw.Reads'. -/
def readsUptoCard : Claim7 := { stood := { row := readsUptoRow, standIns := [], harness := (true, "3f0549dac65ff85d88c64794a818bae070f6654f30126a0df290d4fdb44b3d03"), looks := false }, kinds := [], alts := [], laidByText := true, laidKinds := [.data, .data], laidTests := true, laidLooks := .later }
def ReadsUptoCardSaid : Prop := Claim7.holds Tryz.pinned (.plain (OpenSpec.upto readsSpec)) readsUptoCard

/-- THE SECOND FORM's CARD OF 'messengerlaw.States'. -/
def statesUptoCard : Claim7 := { stood := { row := statesUptoRow, standIns := [], harness := (true, "3f0549dac65ff85d88c64794a818bae070f6654f30126a0df290d4fdb44b3d03"), looks := false }, kinds := [], alts := [], laidByText := true, laidKinds := [.data, .data], laidTests := true, laidLooks := .later }
def StatesUptoCardSaid : Prop := Claim7.holds Tryz.pinned (.plain (OpenSpec.upto statesSpec)) statesUptoCard

/-- THE SECOND FORM's CARD OF 'messengerlaw.Raw'. -/
def rawUptoCard : Claim7 := { stood := { row := rawUptoRow, standIns := [], harness := (true, "3f0549dac65ff85d88c64794a818bae070f6654f30126a0df290d4fdb44b3d03"), looks := false }, kinds := [], alts := [], laidByText := true, laidKinds := [.data, .data], laidTests := true, laidLooks := .later }
def RawUptoCardSaid : Prop := Claim7.holds Tryz.pinned (.plain (OpenSpec.upto rawSpec)) rawUptoCard

/-- THE SECOND FORM's CARD OF 'messengersays.Said'. -/
def saidUptoCard : Claim7 := { stood := { row := saidUptoRow, standIns := [], harness := (true, "3f0549dac65ff85d88c64794a818bae070f6654f30126a0df290d4fdb44b3d03"), looks := false }, kinds := [], alts := [], laidByText := true, laidKinds := [.data, .data], laidTests := true, laidLooks := .later }
def SaidUptoCardSaid : Prop := Claim7.holds Tryz.pinned (.plain (OpenSpec.upto saidSpec)) saidUptoCard

/-- THE SECOND FORM's CARD OF 'messengersays.Delivered'. -/
def deliveredUptoCard : Claim7 := { stood := { row := deliveredUptoRow, standIns := [], harness := (true, "3f0549dac65ff85d88c64794a818bae070f6654f30126a0df290d4fdb44b3d03"), looks := false }, kinds := [], alts := [], laidByText := true, laidKinds := [.data, .data], laidTests := true, laidLooks := .later }
def DeliveredUptoCardSaid : Prop := Claim7.holds Tryz.pinned (.plain (OpenSpec.upto deliveredSpec)) deliveredUptoCard

/-- THE SECOND FORM's CARD OF 'messengersays.Bent'. -/
def bentUptoCard : Claim7 := { stood := { row := bentUptoRow, standIns := [], harness := (true, "3f0549dac65ff85d88c64794a818bae070f6654f30126a0df290d4fdb44b3d03"), looks := false }, kinds := [], alts := [], laidByText := true, laidKinds := [.data, .data], laidTests := true, laidLooks := .later }
def BentUptoCardSaid : Prop := Claim7.holds Tryz.pinned (.plain (OpenSpec.upto bentSpec)) bentUptoCard

/-- THE SECOND FORM's CARD OF 'messengersays.Junk'. -/
def junkUptoCard : Claim7 := { stood := { row := junkUptoRow, standIns := [], harness := (true, "3f0549dac65ff85d88c64794a818bae070f6654f30126a0df290d4fdb44b3d03"), looks := false }, kinds := [], alts := [], laidByText := true, laidKinds := [.data, .data], laidTests := true, laidLooks := .later }
def JunkUptoCardSaid : Prop := Claim7.holds Tryz.pinned (.plain (OpenSpec.upto junkSpec)) junkUptoCard

/-- THE SECOND FORM's CARD OF 'messengersays.Other'. -/
def otherUptoCard : Claim7 := { stood := { row := otherUptoRow, standIns := [], harness := (true, "3f0549dac65ff85d88c64794a818bae070f6654f30126a0df290d4fdb44b3d03"), looks := false }, kinds := [], alts := [], laidByText := true, laidKinds := [.data, .data], laidTests := true, laidLooks := .later }
def OtherUptoCardSaid : Prop := Claim7.holds Tryz.pinned (.plain (OpenSpec.upto otherSpec)) otherUptoCard
end Rows
end Go.Proofs.YteghoooelgcpkaaGreatDoor
