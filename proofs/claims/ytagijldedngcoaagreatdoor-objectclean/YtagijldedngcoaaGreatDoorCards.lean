/-
  DERIVED. GIVEN WITH THE SEED: THE CARDS: each row of YtagijldedngcoaaGreatDoorRows.lean that lists a variable, with what it lists TIED to the program's text (the seventh form; the later family's looks); each row that meets fmt, with fmt's text TOLD by the authors' own Lean function (tested against real Go, not proved from fmt's source: count such statements apart). THE CARD IS WHAT COUNTS. Prove the row's statement (the work); the ties are given (YtagijldedngcoaaGreatDoorTie.lean); close each card by the builder's one call (the guide's Derived/Test/ToyasCard.lean, 'card_holds'). Laid BY PROGRAM, IN A SANDBOX (cutbox-door.mjs). By AI agents, Wed Nov 11 2026. No macro, syntax, notation, axiom, sorry.
-/
import Derived.Test.YtagijldedngcoaaGreatDoorRows
import GoSem.ClaimSeven
namespace Go.Proofs.YtagijldedngcoaaGreatDoor
namespace Rows

/-- THE TIED CARD OF 'garretlaw10.ObjectPlays'. -/
def objectPlaysCard : Claim7 := { stood := { row := objectPlaysRow, standIns := [], harness := (true, "34db38640c902f8a5810563299a37e777d442d4fcf9cd2a1c2f6fe14a74c7756"), looks := false }, kinds := [], alts := [], laidByText := true, laidKinds := [.data, .data], laidTests := true, laidLooks := .later }
def ObjectPlaysCardSaid : Prop := Claim7.holds Tryz.pinned (.plain (OpenSpec.ofChange objectPlaysSpec)) objectPlaysCard

/-- THE TIED CARD OF 'garretlaw10.ObjectKits'. -/
def objectKitsCard : Claim7 := { stood := { row := objectKitsRow, standIns := [], harness := (true, "34db38640c902f8a5810563299a37e777d442d4fcf9cd2a1c2f6fe14a74c7756"), looks := false }, kinds := [], alts := [], laidByText := true, laidKinds := [.data, .data], laidTests := true, laidLooks := .later }
def ObjectKitsCardSaid : Prop := Claim7.holds Tryz.pinned (.plain (OpenSpec.ofChange objectKitsSpec)) objectKitsCard

/-- THE TIED CARD OF 'garretlaw10.ObjectLasts'. -/
def objectLastsCard : Claim7 := { stood := { row := objectLastsRow, standIns := [], harness := (true, "34db38640c902f8a5810563299a37e777d442d4fcf9cd2a1c2f6fe14a74c7756"), looks := false }, kinds := [], alts := [], laidByText := true, laidKinds := [.data, .data], laidTests := true, laidLooks := .later }
def ObjectLastsCardSaid : Prop := Claim7.holds Tryz.pinned (.plain (OpenSpec.ofChange objectLastsSpec)) objectLastsCard

/-- THE TIED CARD OF 'garretlaw10.ObjectGone'. -/
def objectGoneCard : Claim7 := { stood := { row := objectGoneRow, standIns := [], harness := (true, "34db38640c902f8a5810563299a37e777d442d4fcf9cd2a1c2f6fe14a74c7756"), looks := false }, kinds := [], alts := [], laidByText := true, laidKinds := [.data, .data], laidTests := true, laidLooks := .later }
def ObjectGoneCardSaid : Prop := Claim7.holds Tryz.pinned (.plain (OpenSpec.ofChange objectGoneSpec)) objectGoneCard

/-- THE TIED CARD OF 'garretlaw10.ObjectClean'. -/
def objectCleanCard : Claim7 := { stood := { row := objectCleanRow, standIns := [], harness := (true, "34db38640c902f8a5810563299a37e777d442d4fcf9cd2a1c2f6fe14a74c7756"), looks := false }, kinds := [], alts := [], laidByText := true, laidKinds := [.data, .data], laidTests := true, laidLooks := .later }
def ObjectCleanCardSaid : Prop := Claim7.holds Tryz.pinned (.plain (OpenSpec.ofChange objectCleanSpec)) objectCleanCard

/-- THE TIED CARD OF 'garretlaw10.ObjectCalls'. -/
def objectCallsCard : Claim7 := { stood := { row := objectCallsRow, standIns := [], harness := (true, "34db38640c902f8a5810563299a37e777d442d4fcf9cd2a1c2f6fe14a74c7756"), looks := false }, kinds := [], alts := [], laidByText := true, laidKinds := [.data, .data], laidTests := true, laidLooks := .later }
def ObjectCallsCardSaid : Prop := Claim7.holds Tryz.pinned (.plain (OpenSpec.ofChange objectCallsSpec)) objectCallsCard

/-- THE SECOND FORM's CARD OF 'garretlaw10.ObjectPlays'. -/
def objectPlaysUptoCard : Claim7 := { stood := { row := objectPlaysUptoRow, standIns := [], harness := (true, "34db38640c902f8a5810563299a37e777d442d4fcf9cd2a1c2f6fe14a74c7756"), looks := false }, kinds := [], alts := [], laidByText := true, laidKinds := [.data, .data], laidTests := true, laidLooks := .later }
def ObjectPlaysUptoCardSaid : Prop := Claim7.holds Tryz.pinned (.plain (OpenSpec.upto objectPlaysSpec)) objectPlaysUptoCard

/-- THE SECOND FORM's CARD OF 'garretlaw10.ObjectKits'. -/
def objectKitsUptoCard : Claim7 := { stood := { row := objectKitsUptoRow, standIns := [], harness := (true, "34db38640c902f8a5810563299a37e777d442d4fcf9cd2a1c2f6fe14a74c7756"), looks := false }, kinds := [], alts := [], laidByText := true, laidKinds := [.data, .data], laidTests := true, laidLooks := .later }
def ObjectKitsUptoCardSaid : Prop := Claim7.holds Tryz.pinned (.plain (OpenSpec.upto objectKitsSpec)) objectKitsUptoCard

/-- THE SECOND FORM's CARD OF 'garretlaw10.ObjectLasts'. -/
def objectLastsUptoCard : Claim7 := { stood := { row := objectLastsUptoRow, standIns := [], harness := (true, "34db38640c902f8a5810563299a37e777d442d4fcf9cd2a1c2f6fe14a74c7756"), looks := false }, kinds := [], alts := [], laidByText := true, laidKinds := [.data, .data], laidTests := true, laidLooks := .later }
def ObjectLastsUptoCardSaid : Prop := Claim7.holds Tryz.pinned (.plain (OpenSpec.upto objectLastsSpec)) objectLastsUptoCard

/-- THE SECOND FORM's CARD OF 'garretlaw10.ObjectGone'. -/
def objectGoneUptoCard : Claim7 := { stood := { row := objectGoneUptoRow, standIns := [], harness := (true, "34db38640c902f8a5810563299a37e777d442d4fcf9cd2a1c2f6fe14a74c7756"), looks := false }, kinds := [], alts := [], laidByText := true, laidKinds := [.data, .data], laidTests := true, laidLooks := .later }
def ObjectGoneUptoCardSaid : Prop := Claim7.holds Tryz.pinned (.plain (OpenSpec.upto objectGoneSpec)) objectGoneUptoCard

/-- THE SECOND FORM's CARD OF 'garretlaw10.ObjectClean'. -/
def objectCleanUptoCard : Claim7 := { stood := { row := objectCleanUptoRow, standIns := [], harness := (true, "34db38640c902f8a5810563299a37e777d442d4fcf9cd2a1c2f6fe14a74c7756"), looks := false }, kinds := [], alts := [], laidByText := true, laidKinds := [.data, .data], laidTests := true, laidLooks := .later }
def ObjectCleanUptoCardSaid : Prop := Claim7.holds Tryz.pinned (.plain (OpenSpec.upto objectCleanSpec)) objectCleanUptoCard

/-- THE SECOND FORM's CARD OF 'garretlaw10.ObjectCalls'. -/
def objectCallsUptoCard : Claim7 := { stood := { row := objectCallsUptoRow, standIns := [], harness := (true, "34db38640c902f8a5810563299a37e777d442d4fcf9cd2a1c2f6fe14a74c7756"), looks := false }, kinds := [], alts := [], laidByText := true, laidKinds := [.data, .data], laidTests := true, laidLooks := .later }
def ObjectCallsUptoCardSaid : Prop := Claim7.holds Tryz.pinned (.plain (OpenSpec.upto objectCallsSpec)) objectCallsUptoCard
end Rows
end Go.Proofs.YtagijldedngcoaaGreatDoor
