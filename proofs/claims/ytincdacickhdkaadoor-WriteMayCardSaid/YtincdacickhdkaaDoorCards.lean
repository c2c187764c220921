/-
  DERIVED. GIVEN WITH THE SEED: THE CARDS: each row of YtincdacickhdkaaDoorRows.lean that lists a variable, with what it lists TIED to the program's text (the seventh form; the later family's looks); each row that meets fmt, with fmt's text TOLD by the authors' own Lean function (tested against real Go, not proved from fmt's source: count such statements apart). THE CARD IS WHAT COUNTS. Prove the row's statement (the work); the ties are given (YtincdacickhdkaaDoorTie.lean); close each card by the builder's one call (the guide's Derived/Test/ToyasCard.lean, 'card_holds'). Laid BY PROGRAM, IN A SANDBOX (cutbox-door.mjs). By AI agents, Wed Nov 11 2026. No macro, syntax, notation, axiom, sorry.
-/
import Derived.Test.YtincdacickhdkaaDoorRows
import GoSem.ClaimSeven
namespace Go.Proofs.YtincdacickhdkaaDoor
namespace Rows

/-- THE TIED CARD OF 'galliardlaw07.WriteMay'. -/
def writeMayCard : Claim7 := { stood := { row := writeMayRow, standIns := [], harness := (true, "eeff7822a9edb30bef6313faa6747b5e3acbb594edccf226428355b86480ceeb"), looks := false }, kinds := [], alts := [], laidByText := true, laidKinds := [.data, .data, .data, .data, .data, .pinned], laidTests := true, laidLooks := .later }
def WriteMayCardSaid : Prop := Claim7.holds Tryd.pinned (.plain (OpenSpec.ofChange writeMaySpec)) writeMayCard

/-- THE SECOND FORM's CARD OF 'galliardlaw07.WriteMay'. -/
def writeMayUptoCard : Claim7 := { stood := { row := writeMayUptoRow, standIns := [], harness := (true, "eeff7822a9edb30bef6313faa6747b5e3acbb594edccf226428355b86480ceeb"), looks := false }, kinds := [], alts := [], laidByText := true, laidKinds := [.data, .data, .data, .data, .data, .pinned], laidTests := true, laidLooks := .later }
def WriteMayUptoCardSaid : Prop := Claim7.holds Tryd.pinned (.plain (OpenSpec.upto writeMaySpec)) writeMayUptoCard
end Rows
end Go.Proofs.YtincdacickhdkaaDoor
