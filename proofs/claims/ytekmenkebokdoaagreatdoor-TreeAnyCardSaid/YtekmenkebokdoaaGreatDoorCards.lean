/-
  DERIVED. GIVEN WITH THE SEED: THE CARDS: each row of YtekmenkebokdoaaGreatDoorRows.lean that lists a variable, with what it lists TIED to the program's text (the seventh form; the later family's looks); each row that meets fmt, with fmt's text TOLD by the authors' own Lean function (tested against real Go, not proved from fmt's source: count such statements apart). THE CARD IS WHAT COUNTS. Prove the row's statement (the work); the ties are given (YtekmenkebokdoaaGreatDoorTie.lean); close each card by the builder's one call (the guide's Derived/Test/ToyasCard.lean, 'card_holds'). Laid BY PROGRAM, IN A SANDBOX (cutbox-door.mjs). By AI agents, Wed Nov 11 2026. No macro, syntax, notation, axiom, sorry.
-/
import Derived.Test.YtekmenkebokdoaaGreatDoorRows
import GoSem.ClaimSeven
namespace Go.Proofs.YtekmenkebokdoaaGreatDoor
namespace Rows

/-- THE TIED CARD OF 'galliardlaw06.TreeBack'. -/
def treeBackCard : Claim7 := { stood := { row := treeBackRow, standIns := [], harness := (true, "904a9246549197d2af834347606f8b1e618913fe5dc5bb5dd9b1246806727a5d"), looks := true }, kinds := [], alts := [], laidByText := true, laidKinds := [.data, .data, .data, .data, .sentinel, .sentinel, .data, .data, .pinned], laidTests := true, laidLooks := .later }
def TreeBackCardSaid : Prop := Claim7.holds Tryz.pinned (.plain (OpenSpec.ofChange treeBackSpec)) treeBackCard

/-- THE TIED CARD OF 'galliardlaw06.TreeBad'. -/
def treeBadCard : Claim7 := { stood := { row := treeBadRow, standIns := [], harness := (true, "904a9246549197d2af834347606f8b1e618913fe5dc5bb5dd9b1246806727a5d"), looks := true }, kinds := [], alts := [], laidByText := true, laidKinds := [.data, .data, .data, .data, .sentinel, .sentinel, .data, .data, .pinned], laidTests := true, laidLooks := .later }
def TreeBadCardSaid : Prop := Claim7.holds Tryz.pinned (.plain (OpenSpec.ofChange treeBadSpec)) treeBadCard

/-- THE TIED CARD OF 'galliardlaw06.TreeMost'. -/
def treeMostCard : Claim7 := { stood := { row := treeMostRow, standIns := [], harness := (true, "904a9246549197d2af834347606f8b1e618913fe5dc5bb5dd9b1246806727a5d"), looks := true }, kinds := [], alts := [], laidByText := true, laidKinds := [.data, .data, .data, .data, .sentinel, .sentinel, .data, .data, .pinned], laidTests := true, laidLooks := .later }
def TreeMostCardSaid : Prop := Claim7.holds Tryz.pinned (.plain (OpenSpec.ofChange treeMostSpec)) treeMostCard

/-- THE TIED CARD OF 'galliardlaw06.TreeAny'. -/
def treeAnyCard : Claim7 := { stood := { row := treeAnyRow, standIns := [], harness := (true, "904a9246549197d2af834347606f8b1e618913fe5dc5bb5dd9b1246806727a5d"), looks := true }, kinds := [], alts := [], laidByText := true, laidKinds := [.data, .data, .data, .data, .sentinel, .sentinel, .data, .data, .pinned], laidTests := true, laidLooks := .later }
def TreeAnyCardSaid : Prop := Claim7.holds Tryz.pinned (.plain (OpenSpec.ofChange treeAnySpec)) treeAnyCard

/-- THE SECOND FORM's CARD OF 'galliardlaw06.TreeBack'. -/
def treeBackUptoCard : Claim7 := { stood := { row := treeBackUptoRow, standIns := [], harness := (true, "904a9246549197d2af834347606f8b1e618913fe5dc5bb5dd9b1246806727a5d"), looks := true }, kinds := [], alts := [], laidByText := true, laidKinds := [.data, .data, .data, .data, .sentinel, .sentinel, .data, .data, .pinned], laidTests := true, laidLooks := .later }
def TreeBackUptoCardSaid : Prop := Claim7.holds Tryz.pinned (.plain (OpenSpec.upto treeBackSpec)) treeBackUptoCard

/-- THE SECOND FORM's CARD OF 'galliardlaw06.TreeBad'. -/
def treeBadUptoCard : Claim7 := { stood := { row := treeBadUptoRow, standIns := [], harness := (true, "904a9246549197d2af834347606f8b1e618913fe5dc5bb5dd9b1246806727a5d"), looks := true }, kinds := [], alts := [], laidByText := true, laidKinds := [.data, .data, .data, .data, .sentinel, .sentinel, .data, .data, .pinned], laidTests := true, laidLooks := .later }
def TreeBadUptoCardSaid : Prop := Claim7.holds Tryz.pinned (.plain (OpenSpec.upto treeBadSpec)) treeBadUptoCard

/-- THE SECOND FORM's CARD OF 'galliardlaw06.TreeMost'. -/
def treeMostUptoCard : Claim7 := { stood := { row := treeMostUptoRow, standIns := [], harness := (true, "904a9246549197d2af834347606f8b1e618913fe5dc5bb5dd9b1246806727a5d"), looks := true }, kinds := [], alts := [], laidByText := true, laidKinds := [.data, .data, .data, .data, .sentinel, .sentinel, .data, .data, .pinned], laidTests := true, laidLooks := .later }
def TreeMostUptoCardSaid : Prop := Claim7.holds Tryz.pinned (.plain (OpenSpec.upto treeMostSpec)) treeMostUptoCard

/-- THE SECOND FORM's CARD OF 'galliardlaw06.TreeAny'. -/
def treeAnyUptoCard : Claim7 := { stood := { row := treeAnyUptoRow, standIns := [], harness := (true, "904a9246549197d2af834347606f8b1e618913fe5dc5bb5dd9b1246806727a5d"), looks := true }, kinds := [], alts := [], laidByText := true, laidKinds := [.data, .data, .data, .data, .sentinel, .sentinel, .data, .data, .pinned], laidTests := true, laidLooks := .later }
def TreeAnyUptoCardSaid : Prop := Claim7.holds Tryz.pinned (.plain (OpenSpec.upto treeAnySpec)) treeAnyUptoCard
end Rows
end Go.Proofs.YtekmenkebokdoaaGreatDoor
