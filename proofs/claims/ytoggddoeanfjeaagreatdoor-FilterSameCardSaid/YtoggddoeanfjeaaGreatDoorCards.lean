/-
  DERIVED. GIVEN WITH THE SEED: THE CARDS: each row of YtoggddoeanfjeaaGreatDoorRows.lean that lists a variable, with what it lists TIED to the program's text (the seventh form; the later family's looks); each row that meets fmt, with fmt's text TOLD by the authors' own Lean function (tested against real Go, not proved from fmt's source: count such statements apart). THE CARD IS WHAT COUNTS. Prove the row's statement (the work); the ties are given (YtoggddoeanfjeaaGreatDoorTie.lean); close each card by the builder's one call (the guide's Derived/Test/ToyasCard.lean, 'card_holds'). Laid BY PROGRAM, IN A SANDBOX (cutbox-door.mjs). By AI agents, Wed Nov 11 2026. No macro, syntax, notation, axiom, sorry.
-/
import Derived.Test.YtoggddoeanfjeaaGreatDoorRows
import GoSem.ClaimSeven
namespace Go.Proofs.YtoggddoeanfjeaaGreatDoor
namespace Rows

/-- THE TIED CARD OF 'cardcaselaw08.FilterMeans'. -/
def filterMeansCard : Claim7 := { stood := { row := filterMeansRow, standIns := [], harness := (true, "9ec613f19aecd1a0b57175c5a4a8aada407292076fd7c35a4049db33c3d611a0"), looks := true }, kinds := [], alts := [], laidByText := true, laidKinds := [.data, .data, .data, .sentinel, .sentinel, .data], laidTests := true, laidLooks := .later }
def FilterMeansCardSaid : Prop := Claim7.holds Tryz.pinned (.plain (OpenSpec.ofChange filterMeansSpec)) filterMeansCard

/-- THE TIED CARD OF 'cardcaselaw08.FilterParses'. -/
def filterParsesCard : Claim7 := { stood := { row := filterParsesRow, standIns := [], harness := (true, "9ec613f19aecd1a0b57175c5a4a8aada407292076fd7c35a4049db33c3d611a0"), looks := true }, kinds := [], alts := [], laidByText := true, laidKinds := [.data, .data, .data, .sentinel, .sentinel, .data], laidTests := true, laidLooks := .later }
def FilterParsesCardSaid : Prop := Claim7.holds Tryz.pinned (.plain (OpenSpec.ofChange filterParsesSpec)) filterParsesCard

/-- THE TIED CARD OF 'cardcaselaw08.FilterBounds'. -/
def filterBoundsCard : Claim7 := { stood := { row := filterBoundsRow, standIns := [], harness := (true, "9ec613f19aecd1a0b57175c5a4a8aada407292076fd7c35a4049db33c3d611a0"), looks := true }, kinds := [], alts := [], laidByText := true, laidKinds := [.data, .data, .data, .sentinel, .sentinel, .data, .data], laidTests := true, laidLooks := .later }
def FilterBoundsCardSaid : Prop := Claim7.holds Tryz.pinned (.plain (OpenSpec.ofChange filterBoundsSpec)) filterBoundsCard

/-- THE TIED CARD OF 'cardcaselaw08.FilterSame'. -/
def filterSameCard : Claim7 := { stood := { row := filterSameRow, standIns := [], harness := (true, "9ec613f19aecd1a0b57175c5a4a8aada407292076fd7c35a4049db33c3d611a0"), looks := true }, kinds := [], alts := [], laidByText := true, laidKinds := [.data, .data, .data, .sentinel, .sentinel, .data], laidTests := true, laidLooks := .later }
def FilterSameCardSaid : Prop := Claim7.holds Tryz.pinned (.plain (OpenSpec.ofChange filterSameSpec)) filterSameCard

/-- THE TIED CARD OF 'cardcaselaw08.FilterTurns'. -/
def filterTurnsCard : Claim7 := { stood := { row := filterTurnsRow, standIns := [], harness := (true, "9ec613f19aecd1a0b57175c5a4a8aada407292076fd7c35a4049db33c3d611a0"), looks := true }, kinds := [], alts := [], laidByText := true, laidKinds := [.data, .data, .data, .sentinel, .sentinel, .data], laidTests := true, laidLooks := .later }
def FilterTurnsCardSaid : Prop := Claim7.holds Tryz.pinned (.plain (OpenSpec.ofChange filterTurnsSpec)) filterTurnsCard

/-- THE TIED CARD OF 'cardcaselaw08.FilterLetters'. -/
def filterLettersCard : Claim7 := { stood := { row := filterLettersRow, standIns := [], harness := (true, "9ec613f19aecd1a0b57175c5a4a8aada407292076fd7c35a4049db33c3d611a0"), looks := true }, kinds := [], alts := [], laidByText := true, laidKinds := [.data, .data, .data, .sentinel, .sentinel, .data], laidTests := true, laidLooks := .later }
def FilterLettersCardSaid : Prop := Claim7.holds Tryz.pinned (.plain (OpenSpec.ofChange filterLettersSpec)) filterLettersCard

/-- THE TIED CARD OF 'cardcaselaw08.FilterMore'. -/
def filterMoreCard : Claim7 := { stood := { row := filterMoreRow, standIns := [], harness := (true, "9ec613f19aecd1a0b57175c5a4a8aada407292076fd7c35a4049db33c3d611a0"), looks := true }, kinds := [], alts := [], laidByText := true, laidKinds := [.data, .data, .data, .sentinel, .sentinel, .data], laidTests := true, laidLooks := .later }
def FilterMoreCardSaid : Prop := Claim7.holds Tryz.pinned (.plain (OpenSpec.ofChange filterMoreSpec)) filterMoreCard

/-- THE SECOND FORM's CARD OF 'cardcaselaw08.FilterMeans'. -/
def filterMeansUptoCard : Claim7 := { stood := { row := filterMeansUptoRow, standIns := [], harness := (true, "9ec613f19aecd1a0b57175c5a4a8aada407292076fd7c35a4049db33c3d611a0"), looks := true }, kinds := [], alts := [], laidByText := true, laidKinds := [.data, .data, .data, .sentinel, .sentinel, .data], laidTests := true, laidLooks := .later }
def FilterMeansUptoCardSaid : Prop := Claim7.holds Tryz.pinned (.plain (OpenSpec.upto filterMeansSpec)) filterMeansUptoCard

/-- THE SECOND FORM's CARD OF 'cardcaselaw08.FilterParses'. -/
def filterParsesUptoCard : Claim7 := { stood := { row := filterParsesUptoRow, standIns := [], harness := (true, "9ec613f19aecd1a0b57175c5a4a8aada407292076fd7c35a4049db33c3d611a0"), looks := true }, kinds := [], alts := [], laidByText := true, laidKinds := [.data, .data, .data, .sentinel, .sentinel, .data], laidTests := true, laidLooks := .later }
def FilterParsesUptoCardSaid : Prop := Claim7.holds Tryz.pinned (.plain (OpenSpec.upto filterParsesSpec)) filterParsesUptoCard

/-- THE SECOND FORM's CARD OF 'cardcaselaw08.FilterBounds'. -/
def filterBoundsUptoCard : Claim7 := { stood := { row := filterBoundsUptoRow, standIns := [], harness := (true, "9ec613f19aecd1a0b57175c5a4a8aada407292076fd7c35a4049db33c3d611a0"), looks := true }, kinds := [], alts := [], laidByText := true, laidKinds := [.data, .data, .data, .sentinel, .sentinel, .data, .data], laidTests := true, laidLooks := .later }
def FilterBoundsUptoCardSaid : Prop := Claim7.holds Tryz.pinned (.plain (OpenSpec.upto filterBoundsSpec)) filterBoundsUptoCard

/-- THE SECOND FORM's CARD OF 'cardcaselaw08.FilterSame'. -/
def filterSameUptoCard : Claim7 := { stood := { row := filterSameUptoRow, standIns := [], harness := (true, "9ec613f19aecd1a0b57175c5a4a8aada407292076fd7c35a4049db33c3d611a0"), looks := true }, kinds := [], alts := [], laidByText := true, laidKinds := [.data, .data, .data, .sentinel, .sentinel, .data], laidTests := true, laidLooks := .later }
def FilterSameUptoCardSaid : Prop := Claim7.holds Tryz.pinned (.plain (OpenSpec.upto filterSameSpec)) filterSameUptoCard

/-- THE SECOND FORM's CARD OF 'cardcaselaw08.FilterTurns'. -/
def filterTurnsUptoCard : Claim7 := { stood := { row := filterTurnsUptoRow, standIns := [], harness := (true, "9ec613f19aecd1a0b57175c5a4a8aada407292076fd7c35a4049db33c3d611a0"), looks := true }, kinds := [], alts := [], laidByText := true, laidKinds := [.data, .data, .data, .sentinel, .sentinel, .data], laidTests := true, laidLooks := .later }
def FilterTurnsUptoCardSaid : Prop := Claim7.holds Tryz.pinned (.plain (OpenSpec.upto filterTurnsSpec)) filterTurnsUptoCard

/-- THE SECOND FORM's CARD OF 'cardcaselaw08.FilterLetters'. -/
def filterLettersUptoCard : Claim7 := { stood := { row := filterLettersUptoRow, standIns := [], harness := (true, "9ec613f19aecd1a0b57175c5a4a8aada407292076fd7c35a4049db33c3d611a0"), looks := true }, kinds := [], alts := [], laidByText := true, laidKinds := [.data, .data, .data, .sentinel, .sentinel, .data], laidTests := true, laidLooks := .later }
def FilterLettersUptoCardSaid : Prop := Claim7.holds Tryz.pinned (.plain (OpenSpec.upto filterLettersSpec)) filterLettersUptoCard

/-- THE SECOND FORM's CARD OF 'cardcaselaw08.FilterMore'. -/
def filterMoreUptoCard : Claim7 := { stood := { row := filterMoreUptoRow, standIns := [], harness := (true, "9ec613f19aecd1a0b57175c5a4a8aada407292076fd7c35a4049db33c3d611a0"), looks := true }, kinds := [], alts := [], laidByText := true, laidKinds := [.data, .data, .data, .sentinel, .sentinel, .data], laidTests := true, laidLooks := .later }
def FilterMoreUptoCardSaid : Prop := Claim7.holds Tryz.pinned (.plain (OpenSpec.upto filterMoreSpec)) filterMoreUptoCard
end Rows
end Go.Proofs.YtoggddoeanfjeaaGreatDoor
