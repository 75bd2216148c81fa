/-
  DERIVED. GIVEN WITH THE SEED: THE CARDS: each row of YtgigiamnhjelmaaDoorRows.lean that lists a variable, with what it lists TIED to the program's text (the seventh form; the later family's looks); each row that meets fmt, with fmt's text TOLD by the authors' own Lean function (tested against real Go, not proved from fmt's source: count such statements apart). THE CARD IS WHAT COUNTS. Prove the row's statement (the work); the ties are given (YtgigiamnhjelmaaDoorTie.lean); close each card by the builder's one call (the guide's Derived/Test/ToyasCard.lean, 'card_holds'). Laid BY PROGRAM, IN A SANDBOX (cutbox-door.mjs). By AI agents, Wed Nov 11 2026. No macro, syntax, notation, axiom, sorry.
-/
import Derived.Test.YtgigiamnhjelmaaDoorRows
import GoSem.ClaimSeven
namespace Go.Proofs.YtgigiamnhjelmaaDoor
namespace Rows

/-- THE TIED CARD OF 'garretlaw13.BlobReads'. -/
def blobReadsCard : Claim7 := { stood := { row := blobReadsRow, standIns := [], harness := (true, "96e76eaf34fc81549f37d8b63a4812c56b29506a21bd20fd5bcf05706da08718"), looks := false }, kinds := [], alts := [], laidByText := true, laidKinds := [.data, .data], laidTests := true, laidLooks := .later }
def BlobReadsCardSaid : Prop := Claim7.holds Tryd.pinned (.plain (OpenSpec.ofChange blobReadsSpec)) blobReadsCard

/-- THE TIED CARD OF 'garretlaw13.BlobWrites'. -/
def blobWritesCard : Claim7 := { stood := { row := blobWritesRow, standIns := [], harness := (true, "96e76eaf34fc81549f37d8b63a4812c56b29506a21bd20fd5bcf05706da08718"), looks := false }, kinds := [], alts := [], laidByText := true, laidKinds := [.data, .data], laidTests := true, laidLooks := .later }
def BlobWritesCardSaid : Prop := Claim7.holds Tryd.pinned (.plain (OpenSpec.ofChange blobWritesSpec)) blobWritesCard

/-- THE TIED CARD OF 'garretlaw13.BlobBack'. -/
def blobBackCard : Claim7 := { stood := { row := blobBackRow, standIns := [], harness := (true, "96e76eaf34fc81549f37d8b63a4812c56b29506a21bd20fd5bcf05706da08718"), looks := false }, kinds := [], alts := [], laidByText := true, laidKinds := [.data, .data], laidTests := true, laidLooks := .later }
def BlobBackCardSaid : Prop := Claim7.holds Tryd.pinned (.plain (OpenSpec.ofChange blobBackSpec)) blobBackCard

/-- THE SECOND FORM's CARD OF 'garretlaw13.BlobReads'. -/
def blobReadsUptoCard : Claim7 := { stood := { row := blobReadsUptoRow, standIns := [], harness := (true, "96e76eaf34fc81549f37d8b63a4812c56b29506a21bd20fd5bcf05706da08718"), looks := false }, kinds := [], alts := [], laidByText := true, laidKinds := [.data, .data], laidTests := true, laidLooks := .later }
def BlobReadsUptoCardSaid : Prop := Claim7.holds Tryd.pinned (.plain (OpenSpec.upto blobReadsSpec)) blobReadsUptoCard

/-- THE SECOND FORM's CARD OF 'garretlaw13.BlobWrites'. -/
def blobWritesUptoCard : Claim7 := { stood := { row := blobWritesUptoRow, standIns := [], harness := (true, "96e76eaf34fc81549f37d8b63a4812c56b29506a21bd20fd5bcf05706da08718"), looks := false }, kinds := [], alts := [], laidByText := true, laidKinds := [.data, .data], laidTests := true, laidLooks := .later }
def BlobWritesUptoCardSaid : Prop := Claim7.holds Tryd.pinned (.plain (OpenSpec.upto blobWritesSpec)) blobWritesUptoCard

/-- THE SECOND FORM's CARD OF 'garretlaw13.BlobBack'. -/
def blobBackUptoCard : Claim7 := { stood := { row := blobBackUptoRow, standIns := [], harness := (true, "96e76eaf34fc81549f37d8b63a4812c56b29506a21bd20fd5bcf05706da08718"), looks := false }, kinds := [], alts := [], laidByText := true, laidKinds := [.data, .data], laidTests := true, laidLooks := .later }
def BlobBackUptoCardSaid : Prop := Claim7.holds Tryd.pinned (.plain (OpenSpec.upto blobBackSpec)) blobBackUptoCard
end Rows
end Go.Proofs.YtgigiamnhjelmaaDoor
