/-
  DERIVED. GIVEN WITH THE SEED: THE CARDS: each row of YtincdacickhdkaaGreatDoorRows.lean that lists a variable, with what it lists TIED to the program's text (the seventh form; the later family's looks); each row that meets fmt, with fmt's text TOLD by the authors' own Lean function (tested against real Go, not proved from fmt's source: count such statements apart). THE CARD IS WHAT COUNTS. Prove the row's statement (the work); the ties are given (YtincdacickhdkaaGreatDoorTie.lean); close each card by the builder's one call (the guide's Derived/Test/ToyasCard.lean, 'card_holds'). Laid BY PROGRAM, IN A SANDBOX (cutbox-door.mjs). By AI agents, Wed Nov 11 2026. No macro, syntax, notation, axiom, sorry.
-/
import Derived.Test.YtincdacickhdkaaGreatDoorRows
import GoSem.ClaimSeven
namespace Go.Proofs.YtincdacickhdkaaGreatDoor
namespace Rows

/-- THE TIED CARD OF 'galliardlaw06.TreeBack'. -/
def treeBackCard : Claim7 := { stood := { row := treeBackRow, standIns := [], harness := (true, "b852d5e750bf037b547239a691b0acc4d5b43bfa0d9bef7bf3df7a839c4a2366"), looks := true }, kinds := [], alts := [], laidByText := true, laidKinds := [.data, .data, .data, .data, .sentinel, .sentinel, .data, .data, .pinned], laidTests := true, laidLooks := .later }
def TreeBackCardSaid : Prop := Claim7.holds Tryz.pinned (.plain (OpenSpec.ofChange treeBackSpec)) treeBackCard

/-- THE TIED CARD OF 'galliardlaw07.WriteBack'. -/
def writeBackCard : Claim7 := { stood := { row := writeBackRow, standIns := [], harness := (true, "b852d5e750bf037b547239a691b0acc4d5b43bfa0d9bef7bf3df7a839c4a2366"), looks := true }, kinds := [], alts := [], laidByText := true, laidKinds := [.data, .data, .data, .data, .sentinel, .sentinel, .data, .data, .pinned], laidTests := true, laidLooks := .later }
def WriteBackCardSaid : Prop := Claim7.holds Tryz.pinned (.plain (OpenSpec.ofChange writeBackSpec)) writeBackCard

/-- THE TIED CARD OF 'galliardlaw07.WriteAny'. -/
def writeAnyCard : Claim7 := { stood := { row := writeAnyRow, standIns := [], harness := (true, "b852d5e750bf037b547239a691b0acc4d5b43bfa0d9bef7bf3df7a839c4a2366"), looks := true }, kinds := [], alts := [], laidByText := true, laidKinds := [.data, .data, .data, .data, .sentinel, .sentinel, .data, .data, .pinned], laidTests := true, laidLooks := .later }
def WriteAnyCardSaid : Prop := Claim7.holds Tryz.pinned (.plain (OpenSpec.ofChange writeAnySpec)) writeAnyCard

/-- THE SECOND FORM's CARD OF 'galliardlaw06.TreeBack'. -/
def treeBackUptoCard : Claim7 := { stood := { row := treeBackUptoRow, standIns := [], harness := (true, "b852d5e750bf037b547239a691b0acc4d5b43bfa0d9bef7bf3df7a839c4a2366"), looks := true }, kinds := [], alts := [], laidByText := true, laidKinds := [.data, .data, .data, .data, .sentinel, .sentinel, .data, .data, .pinned], laidTests := true, laidLooks := .later }
def TreeBackUptoCardSaid : Prop := Claim7.holds Tryz.pinned (.plain (OpenSpec.upto treeBackSpec)) treeBackUptoCard

/-- THE SECOND FORM's CARD OF 'galliardlaw07.WriteBack'. -/
def writeBackUptoCard : Claim7 := { stood := { row := writeBackUptoRow, standIns := [], harness := (true, "b852d5e750bf037b547239a691b0acc4d5b43bfa0d9bef7bf3df7a839c4a2366"), looks := true }, kinds := [], alts := [], laidByText := true, laidKinds := [.data, .data, .data, .data, .sentinel, .sentinel, .data, .data, .pinned], laidTests := true, laidLooks := .later }
def WriteBackUptoCardSaid : Prop := Claim7.holds Tryz.pinned (.plain (OpenSpec.upto writeBackSpec)) writeBackUptoCard

/-- THE SECOND FORM's CARD OF 'galliardlaw07.WriteAny'. -/
def writeAnyUptoCard : Claim7 := { stood := { row := writeAnyUptoRow, standIns := [], harness := (true, "b852d5e750bf037b547239a691b0acc4d5b43bfa0d9bef7bf3df7a839c4a2366"), looks := true }, kinds := [], alts := [], laidByText := true, laidKinds := [.data, .data, .data, .data, .sentinel, .sentinel, .data, .data, .pinned], laidTests := true, laidLooks := .later }
def WriteAnyUptoCardSaid : Prop := Claim7.holds Tryz.pinned (.plain (OpenSpec.upto writeAnySpec)) writeAnyUptoCard
end Rows
end Go.Proofs.YtincdacickhdkaaGreatDoor
