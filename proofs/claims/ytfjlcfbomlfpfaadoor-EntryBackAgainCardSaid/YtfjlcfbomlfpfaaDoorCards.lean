/-
  DERIVED. GIVEN WITH THE SEED: THE CARDS: each row of YtfjlcfbomlfpfaaDoorRows.lean that lists a variable, with what it lists TIED to the program's text (the seventh form; the later family's looks); each row that meets fmt, with fmt's text TOLD by the authors' own Lean function (tested against real Go, not proved from fmt's source: count such statements apart). THE CARD IS WHAT COUNTS. Prove the row's statement (the work); the ties are given (YtfjlcfbomlfpfaaDoorTie.lean); close each card by the builder's one call (the guide's Derived/Test/ToyasCard.lean, 'card_holds'). Laid BY PROGRAM, IN A SANDBOX (cutbox-door.mjs). By AI agents, Wed Nov 11 2026. No macro, syntax, notation, axiom, sorry.
-/
import Derived.Test.YtfjlcfbomlfpfaaDoorRows
import GoSem.ClaimSeven
namespace Go.Proofs.YtfjlcfbomlfpfaaDoor
namespace Rows

/-- THE TIED CARD OF 'cardcaselaw07.EntryBackAgain'. -/
def entryBackAgainCard : Claim7 := { stood := { row := entryBackAgainRow, standIns := [], harness := (true, "f19974753094f361518ce3fa6e3f73233a0a4ec19daaaf12c27b75a23c35fce4"), looks := false }, kinds := [], alts := [], laidByText := true, laidKinds := [.data, .data, .data], laidTests := true, laidLooks := .later }
def EntryBackAgainCardSaid : Prop := Claim7.holds Tryd.pinned (.plain (OpenSpec.ofChange entryBackAgainSpec)) entryBackAgainCard

/-- THE TIED CARD OF 'cardcaselaw07.EntryOne'. -/
def entryOneCard : Claim7 := { stood := { row := entryOneRow, standIns := [], harness := (true, "f19974753094f361518ce3fa6e3f73233a0a4ec19daaaf12c27b75a23c35fce4"), looks := false }, kinds := [], alts := [], laidByText := true, laidKinds := [.data, .data, .data], laidTests := true, laidLooks := .later }
def EntryOneCardSaid : Prop := Claim7.holds Tryd.pinned (.plain (OpenSpec.ofChange entryOneSpec)) entryOneCard

/-- THE SECOND FORM's CARD OF 'cardcaselaw07.EntryBackAgain'. -/
def entryBackAgainUptoCard : Claim7 := { stood := { row := entryBackAgainUptoRow, standIns := [], harness := (true, "f19974753094f361518ce3fa6e3f73233a0a4ec19daaaf12c27b75a23c35fce4"), looks := false }, kinds := [], alts := [], laidByText := true, laidKinds := [.data, .data, .data], laidTests := true, laidLooks := .later }
def EntryBackAgainUptoCardSaid : Prop := Claim7.holds Tryd.pinned (.plain (OpenSpec.upto entryBackAgainSpec)) entryBackAgainUptoCard

/-- THE SECOND FORM's CARD OF 'cardcaselaw07.EntryOne'. -/
def entryOneUptoCard : Claim7 := { stood := { row := entryOneUptoRow, standIns := [], harness := (true, "f19974753094f361518ce3fa6e3f73233a0a4ec19daaaf12c27b75a23c35fce4"), looks := false }, kinds := [], alts := [], laidByText := true, laidKinds := [.data, .data, .data], laidTests := true, laidLooks := .later }
def EntryOneUptoCardSaid : Prop := Claim7.holds Tryd.pinned (.plain (OpenSpec.upto entryOneSpec)) entryOneUptoCard
end Rows
end Go.Proofs.YtfjlcfbomlfpfaaDoor
