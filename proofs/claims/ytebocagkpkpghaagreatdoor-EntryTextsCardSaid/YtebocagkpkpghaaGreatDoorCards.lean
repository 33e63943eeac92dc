/-
  DERIVED. GIVEN WITH THE SEED: THE CARDS: each row of YtebocagkpkpghaaGreatDoorRows.lean that lists a variable, with what it lists TIED to the program's text (the seventh form; the later family's looks); each row that meets fmt, with fmt's text TOLD by the authors' own Lean function (tested against real Go, not proved from fmt's source: count such statements apart). THE CARD IS WHAT COUNTS. Prove the row's statement (the work); the ties are given (YtebocagkpkpghaaGreatDoorTie.lean); close each card by the builder's one call (the guide's Derived/Test/ToyasCard.lean, 'card_holds'). Laid BY PROGRAM, IN A SANDBOX (cutbox-door.mjs). By AI agents, Wed Nov 11 2026. No macro, syntax, notation, axiom, sorry.
-/
import Derived.Test.YtebocagkpkpghaaGreatDoorRows
import GoSem.ClaimSeven
namespace Go.Proofs.YtebocagkpkpghaaGreatDoor
namespace Rows

/-- THE TIED CARD OF 'cardcaselaw07.EntryDoes'. -/
def entryDoesCard : Claim7 := { stood := { row := entryDoesRow, standIns := [], harness := (true, "0d523f86cce84e9ec64d4a0b091cd01d6ef294824bbe21548cf013dc5be33f7f"), looks := true }, kinds := [], alts := [], laidByText := true, laidKinds := [.data, .data, .data], laidTests := true, laidLooks := .later }
def EntryDoesCardSaid : Prop := Claim7.holds Tryz.pinned (.plain (OpenSpec.ofChange entryDoesSpec)) entryDoesCard

/-- THE TIED CARD OF 'cardcaselaw07.EntryOrder'. -/
def entryOrderCard : Claim7 := { stood := { row := entryOrderRow, standIns := [], harness := (true, "0d523f86cce84e9ec64d4a0b091cd01d6ef294824bbe21548cf013dc5be33f7f"), looks := true }, kinds := [], alts := [], laidByText := true, laidKinds := [.data, .data, .data], laidTests := true, laidLooks := .later }
def EntryOrderCardSaid : Prop := Claim7.holds Tryz.pinned (.plain (OpenSpec.ofChange entryOrderSpec)) entryOrderCard

/-- THE TIED CARD OF 'cardcaselaw07.EntryDiffs'. -/
def entryDiffsCard : Claim7 := { stood := { row := entryDiffsRow, standIns := [], harness := (true, "0d523f86cce84e9ec64d4a0b091cd01d6ef294824bbe21548cf013dc5be33f7f"), looks := true }, kinds := [], alts := [], laidByText := true, laidKinds := [.data, .data, .data], laidTests := true, laidLooks := .later }
def EntryDiffsCardSaid : Prop := Claim7.holds Tryz.pinned (.plain (OpenSpec.ofChange entryDiffsSpec)) entryDiffsCard

/-- THE TIED CARD OF 'cardcaselaw07.EntryTexts'. -/
def entryTextsCard : Claim7 := { stood := { row := entryTextsRow, standIns := [], harness := (true, "0d523f86cce84e9ec64d4a0b091cd01d6ef294824bbe21548cf013dc5be33f7f"), looks := true }, kinds := [], alts := [], laidByText := true, laidKinds := [.data, .data, .data, .sentinel, .sentinel], laidTests := true, laidLooks := .later }
def EntryTextsCardSaid : Prop := Claim7.holds Tryz.pinned (.plain (OpenSpec.ofChange entryTextsSpec)) entryTextsCard

/-- THE TIED CARD OF 'cardcaselaw07.EntryReads'. -/
def entryReadsCard : Claim7 := { stood := { row := entryReadsRow, standIns := [], harness := (true, "0d523f86cce84e9ec64d4a0b091cd01d6ef294824bbe21548cf013dc5be33f7f"), looks := true }, kinds := [], alts := [], laidByText := true, laidKinds := [.data, .data, .data, .sentinel, .sentinel], laidTests := true, laidLooks := .later }
def EntryReadsCardSaid : Prop := Claim7.holds Tryz.pinned (.plain (OpenSpec.ofChange entryReadsSpec)) entryReadsCard

/-- THE TIED CARD OF 'cardcaselaw07.EntrySame'. -/
def entrySameCard : Claim7 := { stood := { row := entrySameRow, standIns := [], harness := (true, "0d523f86cce84e9ec64d4a0b091cd01d6ef294824bbe21548cf013dc5be33f7f"), looks := true }, kinds := [], alts := [], laidByText := true, laidKinds := [.data, .data, .data], laidTests := true, laidLooks := .later }
def EntrySameCardSaid : Prop := Claim7.holds Tryz.pinned (.plain (OpenSpec.ofChange entrySameSpec)) entrySameCard

/-- THE SECOND FORM's CARD OF 'cardcaselaw07.EntryDoes'. -/
def entryDoesUptoCard : Claim7 := { stood := { row := entryDoesUptoRow, standIns := [], harness := (true, "0d523f86cce84e9ec64d4a0b091cd01d6ef294824bbe21548cf013dc5be33f7f"), looks := true }, kinds := [], alts := [], laidByText := true, laidKinds := [.data, .data, .data], laidTests := true, laidLooks := .later }
def EntryDoesUptoCardSaid : Prop := Claim7.holds Tryz.pinned (.plain (OpenSpec.upto entryDoesSpec)) entryDoesUptoCard

/-- THE SECOND FORM's CARD OF 'cardcaselaw07.EntryOrder'. -/
def entryOrderUptoCard : Claim7 := { stood := { row := entryOrderUptoRow, standIns := [], harness := (true, "0d523f86cce84e9ec64d4a0b091cd01d6ef294824bbe21548cf013dc5be33f7f"), looks := true }, kinds := [], alts := [], laidByText := true, laidKinds := [.data, .data, .data], laidTests := true, laidLooks := .later }
def EntryOrderUptoCardSaid : Prop := Claim7.holds Tryz.pinned (.plain (OpenSpec.upto entryOrderSpec)) entryOrderUptoCard

/-- THE SECOND FORM's CARD OF 'cardcaselaw07.EntryDiffs'. -/
def entryDiffsUptoCard : Claim7 := { stood := { row := entryDiffsUptoRow, standIns := [], harness := (true, "0d523f86cce84e9ec64d4a0b091cd01d6ef294824bbe21548cf013dc5be33f7f"), looks := true }, kinds := [], alts := [], laidByText := true, laidKinds := [.data, .data, .data], laidTests := true, laidLooks := .later }
def EntryDiffsUptoCardSaid : Prop := Claim7.holds Tryz.pinned (.plain (OpenSpec.upto entryDiffsSpec)) entryDiffsUptoCard

/-- THE SECOND FORM's CARD OF 'cardcaselaw07.EntryTexts'. -/
def entryTextsUptoCard : Claim7 := { stood := { row := entryTextsUptoRow, standIns := [], harness := (true, "0d523f86cce84e9ec64d4a0b091cd01d6ef294824bbe21548cf013dc5be33f7f"), looks := true }, kinds := [], alts := [], laidByText := true, laidKinds := [.data, .data, .data, .sentinel, .sentinel], laidTests := true, laidLooks := .later }
def EntryTextsUptoCardSaid : Prop := Claim7.holds Tryz.pinned (.plain (OpenSpec.upto entryTextsSpec)) entryTextsUptoCard

/-- THE SECOND FORM's CARD OF 'cardcaselaw07.EntryReads'. -/
def entryReadsUptoCard : Claim7 := { stood := { row := entryReadsUptoRow, standIns := [], harness := (true, "0d523f86cce84e9ec64d4a0b091cd01d6ef294824bbe21548cf013dc5be33f7f"), looks := true }, kinds := [], alts := [], laidByText := true, laidKinds := [.data, .data, .data, .sentinel, .sentinel], laidTests := true, laidLooks := .later }
def EntryReadsUptoCardSaid : Prop := Claim7.holds Tryz.pinned (.plain (OpenSpec.upto entryReadsSpec)) entryReadsUptoCard

/-- THE SECOND FORM's CARD OF 'cardcaselaw07.EntrySame'. -/
def entrySameUptoCard : Claim7 := { stood := { row := entrySameUptoRow, standIns := [], harness := (true, "0d523f86cce84e9ec64d4a0b091cd01d6ef294824bbe21548cf013dc5be33f7f"), looks := true }, kinds := [], alts := [], laidByText := true, laidKinds := [.data, .data, .data], laidTests := true, laidLooks := .later }
def EntrySameUptoCardSaid : Prop := Claim7.holds Tryz.pinned (.plain (OpenSpec.upto entrySameSpec)) entrySameUptoCard
end Rows
end Go.Proofs.YtebocagkpkpghaaGreatDoor
