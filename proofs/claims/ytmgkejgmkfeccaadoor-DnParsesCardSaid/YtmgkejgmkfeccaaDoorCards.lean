/-
  DERIVED. GIVEN WITH THE SEED: THE CARDS: each row of YtmgkejgmkfeccaaDoorRows.lean that lists a variable, with what it lists TIED to the program's text (the seventh form; the later family's looks); each row that meets fmt, with fmt's text TOLD by the authors' own Lean function (tested against real Go, not proved from fmt's source: count such statements apart). THE CARD IS WHAT COUNTS. Prove the row's statement (the work); the ties are given (YtmgkejgmkfeccaaDoorTie.lean); close each card by the builder's one call (the guide's Derived/Test/ToyasCard.lean, 'card_holds'). Laid BY PROGRAM, IN A SANDBOX (cutbox-door.mjs). By AI agents, Wed Nov 11 2026. No macro, syntax, notation, axiom, sorry.
-/
import Derived.Test.YtmgkejgmkfeccaaDoorRows
import GoSem.ClaimSeven
namespace Go.Proofs.YtmgkejgmkfeccaaDoor
namespace Rows

/-- THE TIED CARD OF 'cardcaselaw06.DnParses'. -/
def dnParsesCard : Claim7 := { stood := { row := dnParsesRow, standIns := [], harness := (true, "e3ee086b2203cbdef418cc41c31917c772fbac72a0bbf7aee9619786bb258a97"), looks := true }, kinds := [], alts := [], laidByText := true, laidKinds := [.data, .data, .data, .sentinel, .sentinel], laidTests := true, laidLooks := .later }
def DnParsesCardSaid : Prop := Claim7.holds Tryd.pinned (.plain (OpenSpec.ofChange dnParsesSpec)) dnParsesCard

/-- THE TIED CARD OF 'cardcaselaw07.EntryBackAgain'. -/
def entryBackAgainCard : Claim7 := { stood := { row := entryBackAgainRow, standIns := [], harness := (true, "e3ee086b2203cbdef418cc41c31917c772fbac72a0bbf7aee9619786bb258a97"), looks := true }, kinds := [], alts := [], laidByText := true, laidKinds := [.data, .data, .data], laidTests := true, laidLooks := .later }
def EntryBackAgainCardSaid : Prop := Claim7.holds Tryd.pinned (.plain (OpenSpec.ofChange entryBackAgainSpec)) entryBackAgainCard

/-- THE TIED CARD OF 'cardcaselaw07.EntryOne'. -/
def entryOneCard : Claim7 := { stood := { row := entryOneRow, standIns := [], harness := (true, "e3ee086b2203cbdef418cc41c31917c772fbac72a0bbf7aee9619786bb258a97"), looks := true }, kinds := [], alts := [], laidByText := true, laidKinds := [.data, .data, .data], laidTests := true, laidLooks := .later }
def EntryOneCardSaid : Prop := Claim7.holds Tryd.pinned (.plain (OpenSpec.ofChange entryOneSpec)) entryOneCard

/-- THE SECOND FORM's CARD OF 'cardcaselaw06.DnParses'. -/
def dnParsesUptoCard : Claim7 := { stood := { row := dnParsesUptoRow, standIns := [], harness := (true, "e3ee086b2203cbdef418cc41c31917c772fbac72a0bbf7aee9619786bb258a97"), looks := true }, kinds := [], alts := [], laidByText := true, laidKinds := [.data, .data, .data, .sentinel, .sentinel], laidTests := true, laidLooks := .later }
def DnParsesUptoCardSaid : Prop := Claim7.holds Tryd.pinned (.plain (OpenSpec.upto dnParsesSpec)) dnParsesUptoCard

/-- THE SECOND FORM's CARD OF 'cardcaselaw07.EntryBackAgain'. -/
def entryBackAgainUptoCard : Claim7 := { stood := { row := entryBackAgainUptoRow, standIns := [], harness := (true, "e3ee086b2203cbdef418cc41c31917c772fbac72a0bbf7aee9619786bb258a97"), looks := true }, kinds := [], alts := [], laidByText := true, laidKinds := [.data, .data, .data], laidTests := true, laidLooks := .later }
def EntryBackAgainUptoCardSaid : Prop := Claim7.holds Tryd.pinned (.plain (OpenSpec.upto entryBackAgainSpec)) entryBackAgainUptoCard

/-- THE SECOND FORM's CARD OF 'cardcaselaw07.EntryOne'. -/
def entryOneUptoCard : Claim7 := { stood := { row := entryOneUptoRow, standIns := [], harness := (true, "e3ee086b2203cbdef418cc41c31917c772fbac72a0bbf7aee9619786bb258a97"), looks := true }, kinds := [], alts := [], laidByText := true, laidKinds := [.data, .data, .data], laidTests := true, laidLooks := .later }
def EntryOneUptoCardSaid : Prop := Claim7.holds Tryd.pinned (.plain (OpenSpec.upto entryOneSpec)) entryOneUptoCard
end Rows
end Go.Proofs.YtmgkejgmkfeccaaDoor
