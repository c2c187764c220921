/-
  DERIVED. GIVEN WITH THE SEED: THE CARDS: each row of YtkpkekmofidajaaGreatDoorRows.lean that lists a variable, with what it lists TIED to the program's text (the seventh form; the later family's looks); each row that meets fmt, with fmt's text TOLD by the authors' own Lean function (tested against real Go, not proved from fmt's source: count such statements apart). THE CARD IS WHAT COUNTS. Prove the row's statement (the work); the ties are given (YtkpkekmofidajaaGreatDoorTie.lean); close each card by the builder's one call (the guide's Derived/Test/ToyasCard.lean, 'card_holds'). Laid BY PROGRAM, IN A SANDBOX (cutbox-door.mjs). By AI agents, Wed Nov 11 2026. No macro, syntax, notation, axiom, sorry.
-/
import Derived.Test.YtkpkekmofidajaaGreatDoorRows
import GoSem.ClaimSeven
namespace Go.Proofs.YtkpkekmofidajaaGreatDoor
namespace Rows

/-- THE TIED CARD OF 'galliardlaw04.ScanPieces'. -/
def scanPiecesCard : Claim7 := { stood := { row := scanPiecesRow, standIns := [], harness := (true, "78af2f5a8dff26fa3608e40d52548c12f3af44905d53b09d224228a9de88773b"), looks := true }, kinds := [], alts := [], laidByText := true, laidKinds := [.data, .data, .data, .data, .sentinel, .sentinel, .data, .data, .pinned], laidTests := true, laidLooks := .later }
def ScanPiecesCardSaid : Prop := Claim7.holds Tryz.pinned (.plain (OpenSpec.ofChange scanPiecesSpec)) scanPiecesCard

/-- THE TIED CARD OF 'galliardlaw04.ScanBad'. -/
def scanBadCard : Claim7 := { stood := { row := scanBadRow, standIns := [], harness := (true, "78af2f5a8dff26fa3608e40d52548c12f3af44905d53b09d224228a9de88773b"), looks := true }, kinds := [], alts := [], laidByText := true, laidKinds := [.data, .data, .data, .data, .sentinel, .sentinel, .data, .data, .pinned], laidTests := true, laidLooks := .later }
def ScanBadCardSaid : Prop := Claim7.holds Tryz.pinned (.plain (OpenSpec.ofChange scanBadSpec)) scanBadCard

/-- THE TIED CARD OF 'galliardlaw04.ScanAny'. -/
def scanAnyCard : Claim7 := { stood := { row := scanAnyRow, standIns := [], harness := (true, "78af2f5a8dff26fa3608e40d52548c12f3af44905d53b09d224228a9de88773b"), looks := true }, kinds := [], alts := [], laidByText := true, laidKinds := [.data, .data, .data, .data, .sentinel, .sentinel, .data, .data, .pinned], laidTests := true, laidLooks := .later }
def ScanAnyCardSaid : Prop := Claim7.holds Tryz.pinned (.plain (OpenSpec.ofChange scanAnySpec)) scanAnyCard

/-- THE SECOND FORM's CARD OF 'galliardlaw04.ScanPieces'. -/
def scanPiecesUptoCard : Claim7 := { stood := { row := scanPiecesUptoRow, standIns := [], harness := (true, "78af2f5a8dff26fa3608e40d52548c12f3af44905d53b09d224228a9de88773b"), looks := true }, kinds := [], alts := [], laidByText := true, laidKinds := [.data, .data, .data, .data, .sentinel, .sentinel, .data, .data, .pinned], laidTests := true, laidLooks := .later }
def ScanPiecesUptoCardSaid : Prop := Claim7.holds Tryz.pinned (.plain (OpenSpec.upto scanPiecesSpec)) scanPiecesUptoCard

/-- THE SECOND FORM's CARD OF 'galliardlaw04.ScanBad'. -/
def scanBadUptoCard : Claim7 := { stood := { row := scanBadUptoRow, standIns := [], harness := (true, "78af2f5a8dff26fa3608e40d52548c12f3af44905d53b09d224228a9de88773b"), looks := true }, kinds := [], alts := [], laidByText := true, laidKinds := [.data, .data, .data, .data, .sentinel, .sentinel, .data, .data, .pinned], laidTests := true, laidLooks := .later }
def ScanBadUptoCardSaid : Prop := Claim7.holds Tryz.pinned (.plain (OpenSpec.upto scanBadSpec)) scanBadUptoCard

/-- THE SECOND FORM's CARD OF 'galliardlaw04.ScanAny'. -/
def scanAnyUptoCard : Claim7 := { stood := { row := scanAnyUptoRow, standIns := [], harness := (true, "78af2f5a8dff26fa3608e40d52548c12f3af44905d53b09d224228a9de88773b"), looks := true }, kinds := [], alts := [], laidByText := true, laidKinds := [.data, .data, .data, .data, .sentinel, .sentinel, .data, .data, .pinned], laidTests := true, laidLooks := .later }
def ScanAnyUptoCardSaid : Prop := Claim7.holds Tryz.pinned (.plain (OpenSpec.upto scanAnySpec)) scanAnyUptoCard
end Rows
end Go.Proofs.YtkpkekmofidajaaGreatDoor
