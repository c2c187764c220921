/-
  DERIVED. GIVEN WITH THE SEED: THE CARDS: each row of YtnlkpdodacphkaaGreatDoorRows.lean that lists a variable, with what it lists TIED to the program's text (the seventh form; the later family's looks); each row that meets fmt, with fmt's text TOLD by the authors' own Lean function (tested against real Go, not proved from fmt's source: count such statements apart). THE CARD IS WHAT COUNTS. Prove the row's statement (the work); the ties are given (YtnlkpdodacphkaaGreatDoorTie.lean); close each card by the builder's one call (the guide's Derived/Test/ToyasCard.lean, 'card_holds'). Laid BY PROGRAM, IN A SANDBOX (cutbox-door.mjs). By AI agents, Wed Nov 11 2026. No macro, syntax, notation, axiom, sorry.
-/
import Derived.Test.YtnlkpdodacphkaaGreatDoorRows
import GoSem.ClaimSeven
namespace Go.Proofs.YtnlkpdodacphkaaGreatDoor
namespace Rows

/-- THE TIED CARD OF 'galliardlaw07.WriteAny'. -/
def writeAnyCard : Claim7 := { stood := { row := writeAnyRow, standIns := [], harness := (true, "c79c4fae9d935a4f28e7aa0f0af0a030d58d1dfaa94c478d8eaa3cc5f8f66eaf"), looks := true }, kinds := [], alts := [], laidByText := true, laidKinds := [.data, .data, .data, .data, .sentinel, .sentinel, .data, .data, .pinned], laidTests := true, laidLooks := .later }
def WriteAnyCardSaid : Prop := Claim7.holds Tryz.pinned (.plain (OpenSpec.ofChange writeAnySpec)) writeAnyCard

/-- THE TIED CARD OF 'galliardlaw08.ReadBack'. -/
def readBackCard : Claim7 := { stood := { row := readBackRow, standIns := [], harness := (true, "c79c4fae9d935a4f28e7aa0f0af0a030d58d1dfaa94c478d8eaa3cc5f8f66eaf"), looks := true }, kinds := [], alts := [], laidByText := true, laidKinds := [.data, .data, .data, .data, .sentinel, .sentinel, .data, .data, .data, .pinned], laidTests := true, laidLooks := .later }
def ReadBackCardSaid : Prop := Claim7.holds Tryz.pinned (.plain (OpenSpec.ofChange readBackSpec)) readBackCard

/-- THE TIED CARD OF 'galliardlaw08.ReadOrder'. -/
def readOrderCard : Claim7 := { stood := { row := readOrderRow, standIns := [], harness := (true, "c79c4fae9d935a4f28e7aa0f0af0a030d58d1dfaa94c478d8eaa3cc5f8f66eaf"), looks := true }, kinds := [], alts := [], laidByText := true, laidKinds := [.data, .data, .data, .data, .sentinel, .sentinel, .data, .data, .data, .pinned], laidTests := true, laidLooks := .later }
def ReadOrderCardSaid : Prop := Claim7.holds Tryz.pinned (.plain (OpenSpec.ofChange readOrderSpec)) readOrderCard

/-- THE TIED CARD OF 'galliardlaw08.ReadAny'. -/
def readAnyCard : Claim7 := { stood := { row := readAnyRow, standIns := [], harness := (true, "c79c4fae9d935a4f28e7aa0f0af0a030d58d1dfaa94c478d8eaa3cc5f8f66eaf"), looks := true }, kinds := [], alts := [], laidByText := true, laidKinds := [.data, .data, .data, .data, .sentinel, .sentinel, .data, .data, .data, .pinned], laidTests := true, laidLooks := .later }
def ReadAnyCardSaid : Prop := Claim7.holds Tryz.pinned (.plain (OpenSpec.ofChange readAnySpec)) readAnyCard

/-- THE SECOND FORM's CARD OF 'galliardlaw07.WriteAny'. -/
def writeAnyUptoCard : Claim7 := { stood := { row := writeAnyUptoRow, standIns := [], harness := (true, "c79c4fae9d935a4f28e7aa0f0af0a030d58d1dfaa94c478d8eaa3cc5f8f66eaf"), looks := true }, kinds := [], alts := [], laidByText := true, laidKinds := [.data, .data, .data, .data, .sentinel, .sentinel, .data, .data, .pinned], laidTests := true, laidLooks := .later }
def WriteAnyUptoCardSaid : Prop := Claim7.holds Tryz.pinned (.plain (OpenSpec.upto writeAnySpec)) writeAnyUptoCard

/-- THE SECOND FORM's CARD OF 'galliardlaw08.ReadBack'. -/
def readBackUptoCard : Claim7 := { stood := { row := readBackUptoRow, standIns := [], harness := (true, "c79c4fae9d935a4f28e7aa0f0af0a030d58d1dfaa94c478d8eaa3cc5f8f66eaf"), looks := true }, kinds := [], alts := [], laidByText := true, laidKinds := [.data, .data, .data, .data, .sentinel, .sentinel, .data, .data, .data, .pinned], laidTests := true, laidLooks := .later }
def ReadBackUptoCardSaid : Prop := Claim7.holds Tryz.pinned (.plain (OpenSpec.upto readBackSpec)) readBackUptoCard

/-- THE SECOND FORM's CARD OF 'galliardlaw08.ReadOrder'. -/
def readOrderUptoCard : Claim7 := { stood := { row := readOrderUptoRow, standIns := [], harness := (true, "c79c4fae9d935a4f28e7aa0f0af0a030d58d1dfaa94c478d8eaa3cc5f8f66eaf"), looks := true }, kinds := [], alts := [], laidByText := true, laidKinds := [.data, .data, .data, .data, .sentinel, .sentinel, .data, .data, .data, .pinned], laidTests := true, laidLooks := .later }
def ReadOrderUptoCardSaid : Prop := Claim7.holds Tryz.pinned (.plain (OpenSpec.upto readOrderSpec)) readOrderUptoCard

/-- THE SECOND FORM's CARD OF 'galliardlaw08.ReadAny'. -/
def readAnyUptoCard : Claim7 := { stood := { row := readAnyUptoRow, standIns := [], harness := (true, "c79c4fae9d935a4f28e7aa0f0af0a030d58d1dfaa94c478d8eaa3cc5f8f66eaf"), looks := true }, kinds := [], alts := [], laidByText := true, laidKinds := [.data, .data, .data, .data, .sentinel, .sentinel, .data, .data, .data, .pinned], laidTests := true, laidLooks := .later }
def ReadAnyUptoCardSaid : Prop := Claim7.holds Tryz.pinned (.plain (OpenSpec.upto readAnySpec)) readAnyUptoCard
end Rows
end Go.Proofs.YtnlkpdodacphkaaGreatDoor
