/-
  DERIVED. GIVEN WITH THE SEED: THE CARDS: each row of YtnljbbfeodkjbaaDoorRows.lean that lists a variable, with what it lists TIED to the program's text (the seventh form; the later family's looks); each row that meets fmt, with fmt's text TOLD by the authors' own Lean function (tested against real Go, not proved from fmt's source: count such statements apart). THE CARD IS WHAT COUNTS. Prove the row's statement (the work); the ties are given (YtnljbbfeodkjbaaDoorTie.lean); close each card by the builder's one call (the guide's Derived/Test/ToyasCard.lean, 'card_holds'). Laid BY PROGRAM, IN A SANDBOX (cutbox-door.mjs). By AI agents, Wed Nov 11 2026. No macro, syntax, notation, axiom, sorry.
-/
import Derived.Test.YtnljbbfeodkjbaaDoorRows
import GoSem.ClaimSeven
namespace Go.Proofs.YtnljbbfeodkjbaaDoor
namespace Rows

/-- THE TIED CARD OF 'galliardlaw01.UtfBack'. -/
def utfBackCard : Claim7 := { stood := { row := utfBackRow, standIns := [], harness := (true, "7fb9f2149114241bbb4b71a241dfdf9004da523586cee49ef84e21b6048be8bd"), looks := false }, kinds := [], alts := [], laidByText := true, laidKinds := [.data, .pinned], laidTests := true, laidLooks := .later }
def UtfBackCardSaid : Prop := Claim7.holds Tryd.pinned (.plain (OpenSpec.ofChange utfBackSpec)) utfBackCard

/-- THE TIED CARD OF 'galliardlaw01.UtfGet'. -/
def utfGetCard : Claim7 := { stood := { row := utfGetRow, standIns := [], harness := (true, "7fb9f2149114241bbb4b71a241dfdf9004da523586cee49ef84e21b6048be8bd"), looks := false }, kinds := [], alts := [], laidByText := true, laidKinds := [.data, .pinned], laidTests := true, laidLooks := .later }
def UtfGetCardSaid : Prop := Claim7.holds Tryd.pinned (.plain (OpenSpec.ofChange utfGetSpec)) utfGetCard

/-- THE TIED CARD OF 'galliardlaw01.UtfBad'. -/
def utfBadCard : Claim7 := { stood := { row := utfBadRow, standIns := [], harness := (true, "7fb9f2149114241bbb4b71a241dfdf9004da523586cee49ef84e21b6048be8bd"), looks := false }, kinds := [], alts := [], laidByText := true, laidKinds := [.data, .pinned], laidTests := true, laidLooks := .later }
def UtfBadCardSaid : Prop := Claim7.holds Tryd.pinned (.plain (OpenSpec.ofChange utfBadSpec)) utfBadCard

/-- THE SECOND FORM's CARD OF 'galliardlaw01.UtfBack'. -/
def utfBackUptoCard : Claim7 := { stood := { row := utfBackUptoRow, standIns := [], harness := (true, "7fb9f2149114241bbb4b71a241dfdf9004da523586cee49ef84e21b6048be8bd"), looks := false }, kinds := [], alts := [], laidByText := true, laidKinds := [.data, .pinned], laidTests := true, laidLooks := .later }
def UtfBackUptoCardSaid : Prop := Claim7.holds Tryd.pinned (.plain (OpenSpec.upto utfBackSpec)) utfBackUptoCard

/-- THE SECOND FORM's CARD OF 'galliardlaw01.UtfGet'. -/
def utfGetUptoCard : Claim7 := { stood := { row := utfGetUptoRow, standIns := [], harness := (true, "7fb9f2149114241bbb4b71a241dfdf9004da523586cee49ef84e21b6048be8bd"), looks := false }, kinds := [], alts := [], laidByText := true, laidKinds := [.data, .pinned], laidTests := true, laidLooks := .later }
def UtfGetUptoCardSaid : Prop := Claim7.holds Tryd.pinned (.plain (OpenSpec.upto utfGetSpec)) utfGetUptoCard

/-- THE SECOND FORM's CARD OF 'galliardlaw01.UtfBad'. -/
def utfBadUptoCard : Claim7 := { stood := { row := utfBadUptoRow, standIns := [], harness := (true, "7fb9f2149114241bbb4b71a241dfdf9004da523586cee49ef84e21b6048be8bd"), looks := false }, kinds := [], alts := [], laidByText := true, laidKinds := [.data, .pinned], laidTests := true, laidLooks := .later }
def UtfBadUptoCardSaid : Prop := Claim7.holds Tryd.pinned (.plain (OpenSpec.upto utfBadSpec)) utfBadUptoCard
end Rows
end Go.Proofs.YtnljbbfeodkjbaaDoor
