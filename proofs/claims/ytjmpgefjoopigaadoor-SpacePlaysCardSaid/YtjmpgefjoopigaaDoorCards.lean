/-
  DERIVED. GIVEN WITH THE SEED: THE CARDS: each row of YtjmpgefjoopigaaDoorRows.lean that lists a variable, with what it lists TIED to the program's text (the seventh form; the later family's looks); each row that meets fmt, with fmt's text TOLD by the authors' own Lean function (tested against real Go, not proved from fmt's source: count such statements apart). THE CARD IS WHAT COUNTS. Prove the row's statement (the work); the ties are given (YtjmpgefjoopigaaDoorTie.lean); close each card by the builder's one call (the guide's Derived/Test/ToyasCard.lean, 'card_holds'). Laid BY PROGRAM, IN A SANDBOX (cutbox-door.mjs). By AI agents, Wed Nov 11 2026. No macro, syntax, notation, axiom, sorry.
-/
import Derived.Test.YtjmpgefjoopigaaDoorRows
import GoSem.ClaimSeven
namespace Go.Proofs.YtjmpgefjoopigaaDoor
namespace Rows

/-- THE TIED CARD OF 'galliardlaw05.SpacePlays'. -/
def spacePlaysCard : Claim7 := { stood := { row := spacePlaysRow, standIns := [], harness := (true, "5c68720c883d7e2a14fb4b6fd7eecd8d665bf27b8aa4a751ed7b14b69c12a940"), looks := false }, kinds := [], alts := [], laidByText := true, laidKinds := [.data, .pinned], laidTests := true, laidLooks := .later }
def SpacePlaysCardSaid : Prop := Claim7.holds Tryd.pinned (.plain (OpenSpec.ofChange spacePlaysSpec)) spacePlaysCard

/-- THE TIED CARD OF 'galliardlaw05.SpaceNames'. -/
def spaceNamesCard : Claim7 := { stood := { row := spaceNamesRow, standIns := [], harness := (true, "5c68720c883d7e2a14fb4b6fd7eecd8d665bf27b8aa4a751ed7b14b69c12a940"), looks := false }, kinds := [], alts := [], laidByText := true, laidKinds := [.data, .pinned], laidTests := true, laidLooks := .later }
def SpaceNamesCardSaid : Prop := Claim7.holds Tryd.pinned (.plain (OpenSpec.ofChange spaceNamesSpec)) spaceNamesCard

/-- THE TIED CARD OF 'galliardlaw05.SpaceMost'. -/
def spaceMostCard : Claim7 := { stood := { row := spaceMostRow, standIns := [], harness := (true, "5c68720c883d7e2a14fb4b6fd7eecd8d665bf27b8aa4a751ed7b14b69c12a940"), looks := false }, kinds := [], alts := [], laidByText := true, laidKinds := [.data, .pinned], laidTests := true, laidLooks := .later }
def SpaceMostCardSaid : Prop := Claim7.holds Tryd.pinned (.plain (OpenSpec.ofChange spaceMostSpec)) spaceMostCard

/-- THE SECOND FORM's CARD OF 'galliardlaw05.SpacePlays'. -/
def spacePlaysUptoCard : Claim7 := { stood := { row := spacePlaysUptoRow, standIns := [], harness := (true, "5c68720c883d7e2a14fb4b6fd7eecd8d665bf27b8aa4a751ed7b14b69c12a940"), looks := false }, kinds := [], alts := [], laidByText := true, laidKinds := [.data, .pinned], laidTests := true, laidLooks := .later }
def SpacePlaysUptoCardSaid : Prop := Claim7.holds Tryd.pinned (.plain (OpenSpec.upto spacePlaysSpec)) spacePlaysUptoCard

/-- THE SECOND FORM's CARD OF 'galliardlaw05.SpaceNames'. -/
def spaceNamesUptoCard : Claim7 := { stood := { row := spaceNamesUptoRow, standIns := [], harness := (true, "5c68720c883d7e2a14fb4b6fd7eecd8d665bf27b8aa4a751ed7b14b69c12a940"), looks := false }, kinds := [], alts := [], laidByText := true, laidKinds := [.data, .pinned], laidTests := true, laidLooks := .later }
def SpaceNamesUptoCardSaid : Prop := Claim7.holds Tryd.pinned (.plain (OpenSpec.upto spaceNamesSpec)) spaceNamesUptoCard

/-- THE SECOND FORM's CARD OF 'galliardlaw05.SpaceMost'. -/
def spaceMostUptoCard : Claim7 := { stood := { row := spaceMostUptoRow, standIns := [], harness := (true, "5c68720c883d7e2a14fb4b6fd7eecd8d665bf27b8aa4a751ed7b14b69c12a940"), looks := false }, kinds := [], alts := [], laidByText := true, laidKinds := [.data, .pinned], laidTests := true, laidLooks := .later }
def SpaceMostUptoCardSaid : Prop := Claim7.holds Tryd.pinned (.plain (OpenSpec.upto spaceMostSpec)) spaceMostUptoCard
end Rows
end Go.Proofs.YtjmpgefjoopigaaDoor
