/-
  DERIVED. GIVEN WITH THE SEED: THE CARDS: each row of YtcjdacdggklifaaGreatDoorRows.lean that lists a variable, with what it lists TIED to the program's text (the seventh form; the later family's looks); each row that meets fmt, with fmt's text TOLD by the authors' own Lean function (tested against real Go, not proved from fmt's source: count such statements apart). THE CARD IS WHAT COUNTS. Prove the row's statement (the work); the ties are given (YtcjdacdggklifaaGreatDoorTie.lean); close each card by the builder's one call (the guide's Derived/Test/ToyasCard.lean, 'card_holds'). Laid BY PROGRAM, IN A SANDBOX (cutbox-door.mjs). By AI agents, Wed Nov 11 2026. No macro, syntax, notation, axiom, sorry.
-/
import Derived.Test.YtcjdacdggklifaaGreatDoorRows
import GoSem.ClaimSeven
namespace Go.Proofs.YtcjdacdggklifaaGreatDoor
namespace Rows

/-- THE TIED CARD OF 'madrigallaw01.LexJoins'. -/
def lexJoinsCard : Claim7 := { stood := { row := lexJoinsRow, standIns := [], harness := (true, "c4b2c7ce48737ea746c5f8c718cc7ac2b6bd9c0bf22ca24e5fa7f36e21ca48a9"), looks := true }, kinds := [], alts := [], laidByText := true, laidKinds := [.data, .data, .data], laidTests := true, laidLooks := .later }
def LexJoinsCardSaid : Prop := Claim7.holds Tryz.pinned (.plain (OpenSpec.ofChange lexJoinsSpec)) lexJoinsCard

/-- THE TIED CARD OF 'madrigallaw01.LexChanges'. -/
def lexChangesCard : Claim7 := { stood := { row := lexChangesRow, standIns := [], harness := (true, "c4b2c7ce48737ea746c5f8c718cc7ac2b6bd9c0bf22ca24e5fa7f36e21ca48a9"), looks := true }, kinds := [], alts := [], laidByText := true, laidKinds := [.data, .data, .data], laidTests := true, laidLooks := .later }
def LexChangesCardSaid : Prop := Claim7.holds Tryz.pinned (.plain (OpenSpec.ofChange lexChangesSpec)) lexChangesCard

/-- THE TIED CARD OF 'madrigallaw01.LexBack'. -/
def lexBackCard : Claim7 := { stood := { row := lexBackRow, standIns := [], harness := (true, "c4b2c7ce48737ea746c5f8c718cc7ac2b6bd9c0bf22ca24e5fa7f36e21ca48a9"), looks := true }, kinds := [], alts := [], laidByText := true, laidKinds := [.data, .data, .data], laidTests := true, laidLooks := .later }
def LexBackCardSaid : Prop := Claim7.holds Tryz.pinned (.plain (OpenSpec.ofChange lexBackSpec)) lexBackCard

/-- THE SECOND FORM's CARD OF 'madrigallaw01.LexJoins'. -/
def lexJoinsUptoCard : Claim7 := { stood := { row := lexJoinsUptoRow, standIns := [], harness := (true, "c4b2c7ce48737ea746c5f8c718cc7ac2b6bd9c0bf22ca24e5fa7f36e21ca48a9"), looks := true }, kinds := [], alts := [], laidByText := true, laidKinds := [.data, .data, .data], laidTests := true, laidLooks := .later }
def LexJoinsUptoCardSaid : Prop := Claim7.holds Tryz.pinned (.plain (OpenSpec.upto lexJoinsSpec)) lexJoinsUptoCard

/-- THE SECOND FORM's CARD OF 'madrigallaw01.LexChanges'. -/
def lexChangesUptoCard : Claim7 := { stood := { row := lexChangesUptoRow, standIns := [], harness := (true, "c4b2c7ce48737ea746c5f8c718cc7ac2b6bd9c0bf22ca24e5fa7f36e21ca48a9"), looks := true }, kinds := [], alts := [], laidByText := true, laidKinds := [.data, .data, .data], laidTests := true, laidLooks := .later }
def LexChangesUptoCardSaid : Prop := Claim7.holds Tryz.pinned (.plain (OpenSpec.upto lexChangesSpec)) lexChangesUptoCard

/-- THE SECOND FORM's CARD OF 'madrigallaw01.LexBack'. -/
def lexBackUptoCard : Claim7 := { stood := { row := lexBackUptoRow, standIns := [], harness := (true, "c4b2c7ce48737ea746c5f8c718cc7ac2b6bd9c0bf22ca24e5fa7f36e21ca48a9"), looks := true }, kinds := [], alts := [], laidByText := true, laidKinds := [.data, .data, .data], laidTests := true, laidLooks := .later }
def LexBackUptoCardSaid : Prop := Claim7.holds Tryz.pinned (.plain (OpenSpec.upto lexBackSpec)) lexBackUptoCard
end Rows
end Go.Proofs.YtcjdacdggklifaaGreatDoor
