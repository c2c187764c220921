/-
  DERIVED. GIVEN WITH THE SEED: THE CARDS: each row of YtokkdmaeodpbkaaDoorRows.lean that lists a variable, with what it lists TIED to the program's text (the seventh form; the later family's looks); each row that meets fmt, with fmt's text TOLD by the authors' own Lean function (tested against real Go, not proved from fmt's source: count such statements apart). THE CARD IS WHAT COUNTS. Prove the row's statement (the work); the ties are given (YtokkdmaeodpbkaaDoorTie.lean); close each card by the builder's one call (the guide's Derived/Test/ToyasCard.lean, 'card_holds'). Laid BY PROGRAM, IN A SANDBOX (cutbox-door.mjs). By AI agents, Wed Nov 11 2026. No macro, syntax, notation, axiom, sorry.
-/
import Derived.Test.YtokkdmaeodpbkaaDoorRows
import GoSem.ClaimSeven
namespace Go.Proofs.YtokkdmaeodpbkaaDoor
namespace Rows

/-- THE TIED CARD OF 'galliardlaw02.CharsLetters'. -/
def charsLettersCard : Claim7 := { stood := { row := charsLettersRow, standIns := [], harness := (true, "4ade716324f83e7950b38187a282158f376a54fa41ffdaad36b810144f44d7df"), looks := false }, kinds := [], alts := [], laidByText := true, laidKinds := [.data, .pinned], laidTests := true, laidLooks := .later }
def CharsLettersCardSaid : Prop := Claim7.holds Tryd.pinned (.plain (OpenSpec.ofChange charsLettersSpec)) charsLettersCard

/-- THE TIED CARD OF 'galliardlaw02.CharsNames'. -/
def charsNamesCard : Claim7 := { stood := { row := charsNamesRow, standIns := [], harness := (true, "4ade716324f83e7950b38187a282158f376a54fa41ffdaad36b810144f44d7df"), looks := false }, kinds := [], alts := [], laidByText := true, laidKinds := [.data, .pinned], laidTests := true, laidLooks := .later }
def CharsNamesCardSaid : Prop := Claim7.holds Tryd.pinned (.plain (OpenSpec.ofChange charsNamesSpec)) charsNamesCard

/-- THE TIED CARD OF 'galliardlaw02.CharsBlanks'. -/
def charsBlanksCard : Claim7 := { stood := { row := charsBlanksRow, standIns := [], harness := (true, "4ade716324f83e7950b38187a282158f376a54fa41ffdaad36b810144f44d7df"), looks := false }, kinds := [], alts := [], laidByText := true, laidKinds := [.data, .pinned], laidTests := true, laidLooks := .later }
def CharsBlanksCardSaid : Prop := Claim7.holds Tryd.pinned (.plain (OpenSpec.ofChange charsBlanksSpec)) charsBlanksCard

/-- THE SECOND FORM's CARD OF 'galliardlaw02.CharsLetters'. -/
def charsLettersUptoCard : Claim7 := { stood := { row := charsLettersUptoRow, standIns := [], harness := (true, "4ade716324f83e7950b38187a282158f376a54fa41ffdaad36b810144f44d7df"), looks := false }, kinds := [], alts := [], laidByText := true, laidKinds := [.data, .pinned], laidTests := true, laidLooks := .later }
def CharsLettersUptoCardSaid : Prop := Claim7.holds Tryd.pinned (.plain (OpenSpec.upto charsLettersSpec)) charsLettersUptoCard

/-- THE SECOND FORM's CARD OF 'galliardlaw02.CharsNames'. -/
def charsNamesUptoCard : Claim7 := { stood := { row := charsNamesUptoRow, standIns := [], harness := (true, "4ade716324f83e7950b38187a282158f376a54fa41ffdaad36b810144f44d7df"), looks := false }, kinds := [], alts := [], laidByText := true, laidKinds := [.data, .pinned], laidTests := true, laidLooks := .later }
def CharsNamesUptoCardSaid : Prop := Claim7.holds Tryd.pinned (.plain (OpenSpec.upto charsNamesSpec)) charsNamesUptoCard

/-- THE SECOND FORM's CARD OF 'galliardlaw02.CharsBlanks'. -/
def charsBlanksUptoCard : Claim7 := { stood := { row := charsBlanksUptoRow, standIns := [], harness := (true, "4ade716324f83e7950b38187a282158f376a54fa41ffdaad36b810144f44d7df"), looks := false }, kinds := [], alts := [], laidByText := true, laidKinds := [.data, .pinned], laidTests := true, laidLooks := .later }
def CharsBlanksUptoCardSaid : Prop := Claim7.holds Tryd.pinned (.plain (OpenSpec.upto charsBlanksSpec)) charsBlanksUptoCard
end Rows
end Go.Proofs.YtokkdmaeodpbkaaDoor
