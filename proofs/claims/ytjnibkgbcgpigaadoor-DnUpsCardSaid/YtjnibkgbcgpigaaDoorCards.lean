/-
  DERIVED. GIVEN WITH THE SEED: THE CARDS: each row of YtjnibkgbcgpigaaDoorRows.lean that lists a variable, with what it lists TIED to the program's text (the seventh form; the later family's looks); each row that meets fmt, with fmt's text TOLD by the authors' own Lean function (tested against real Go, not proved from fmt's source: count such statements apart). THE CARD IS WHAT COUNTS. Prove the row's statement (the work); the ties are given (YtjnibkgbcgpigaaDoorTie.lean); close each card by the builder's one call (the guide's Derived/Test/ToyasCard.lean, 'card_holds'). Laid BY PROGRAM, IN A SANDBOX (cutbox-door.mjs). By AI agents, Wed Nov 11 2026. No macro, syntax, notation, axiom, sorry.
-/
import Derived.Test.YtjnibkgbcgpigaaDoorRows
import GoSem.ClaimSeven
namespace Go.Proofs.YtjnibkgbcgpigaaDoor
namespace Rows

/-- THE TIED CARD OF 'cardcaselaw06.DnTexts'. -/
def dnTextsCard : Claim7 := { stood := { row := dnTextsRow, standIns := [], harness := (true, "9cb91537846c8e8b14494eb307e3a141a590a8a52c356a7a2698a321bd6987a7"), looks := true }, kinds := [], alts := [], laidByText := true, laidKinds := [.data, .data, .data, .sentinel, .sentinel], laidTests := true, laidLooks := .later }
def DnTextsCardSaid : Prop := Claim7.holds Tryd.pinned (.plain (OpenSpec.ofChange dnTextsSpec)) dnTextsCard

/-- THE TIED CARD OF 'cardcaselaw06.DnParses'. -/
def dnParsesCard : Claim7 := { stood := { row := dnParsesRow, standIns := [], harness := (true, "9cb91537846c8e8b14494eb307e3a141a590a8a52c356a7a2698a321bd6987a7"), looks := true }, kinds := [], alts := [], laidByText := true, laidKinds := [.data, .data, .data, .sentinel, .sentinel], laidTests := true, laidLooks := .later }
def DnParsesCardSaid : Prop := Claim7.holds Tryd.pinned (.plain (OpenSpec.ofChange dnParsesSpec)) dnParsesCard

/-- THE TIED CARD OF 'cardcaselaw06.DnAlike'. -/
def dnAlikeCard : Claim7 := { stood := { row := dnAlikeRow, standIns := [], harness := (true, "9cb91537846c8e8b14494eb307e3a141a590a8a52c356a7a2698a321bd6987a7"), looks := true }, kinds := [], alts := [], laidByText := true, laidKinds := [.data, .data, .data, .sentinel, .sentinel], laidTests := true, laidLooks := .later }
def DnAlikeCardSaid : Prop := Claim7.holds Tryd.pinned (.plain (OpenSpec.ofChange dnAlikeSpec)) dnAlikeCard

/-- THE TIED CARD OF 'cardcaselaw06.DnUps'. -/
def dnUpsCard : Claim7 := { stood := { row := dnUpsRow, standIns := [], harness := (true, "9cb91537846c8e8b14494eb307e3a141a590a8a52c356a7a2698a321bd6987a7"), looks := true }, kinds := [], alts := [], laidByText := true, laidKinds := [.data, .data, .data, .sentinel, .sentinel], laidTests := true, laidLooks := .later }
def DnUpsCardSaid : Prop := Claim7.holds Tryd.pinned (.plain (OpenSpec.ofChange dnUpsSpec)) dnUpsCard

/-- THE TIED CARD OF 'cardcaselaw06.DnSmall'. -/
def dnSmallCard : Claim7 := { stood := { row := dnSmallRow, standIns := [], harness := (true, "9cb91537846c8e8b14494eb307e3a141a590a8a52c356a7a2698a321bd6987a7"), looks := true }, kinds := [], alts := [], laidByText := true, laidKinds := [.data, .data, .data, .sentinel, .sentinel], laidTests := true, laidLooks := .later }
def DnSmallCardSaid : Prop := Claim7.holds Tryd.pinned (.plain (OpenSpec.ofChange dnSmallSpec)) dnSmallCard

/-- THE TIED CARD OF 'cardcaselaw06.DnBytes'. -/
def dnBytesCard : Claim7 := { stood := { row := dnBytesRow, standIns := [], harness := (true, "9cb91537846c8e8b14494eb307e3a141a590a8a52c356a7a2698a321bd6987a7"), looks := true }, kinds := [], alts := [], laidByText := true, laidKinds := [.data, .data, .data, .sentinel, .sentinel], laidTests := true, laidLooks := .later }
def DnBytesCardSaid : Prop := Claim7.holds Tryd.pinned (.plain (OpenSpec.ofChange dnBytesSpec)) dnBytesCard

/-- THE TIED CARD OF 'cardcaselaw06.DnChain'. -/
def dnChainCard : Claim7 := { stood := { row := dnChainRow, standIns := [], harness := (true, "9cb91537846c8e8b14494eb307e3a141a590a8a52c356a7a2698a321bd6987a7"), looks := true }, kinds := [], alts := [], laidByText := true, laidKinds := [.data, .data, .data, .sentinel, .sentinel], laidTests := true, laidLooks := .later }
def DnChainCardSaid : Prop := Claim7.holds Tryd.pinned (.plain (OpenSpec.ofChange dnChainSpec)) dnChainCard

/-- THE SECOND FORM's CARD OF 'cardcaselaw06.DnTexts'. -/
def dnTextsUptoCard : Claim7 := { stood := { row := dnTextsUptoRow, standIns := [], harness := (true, "9cb91537846c8e8b14494eb307e3a141a590a8a52c356a7a2698a321bd6987a7"), looks := true }, kinds := [], alts := [], laidByText := true, laidKinds := [.data, .data, .data, .sentinel, .sentinel], laidTests := true, laidLooks := .later }
def DnTextsUptoCardSaid : Prop := Claim7.holds Tryd.pinned (.plain (OpenSpec.upto dnTextsSpec)) dnTextsUptoCard

/-- THE SECOND FORM's CARD OF 'cardcaselaw06.DnParses'. -/
def dnParsesUptoCard : Claim7 := { stood := { row := dnParsesUptoRow, standIns := [], harness := (true, "9cb91537846c8e8b14494eb307e3a141a590a8a52c356a7a2698a321bd6987a7"), looks := true }, kinds := [], alts := [], laidByText := true, laidKinds := [.data, .data, .data, .sentinel, .sentinel], laidTests := true, laidLooks := .later }
def DnParsesUptoCardSaid : Prop := Claim7.holds Tryd.pinned (.plain (OpenSpec.upto dnParsesSpec)) dnParsesUptoCard

/-- THE SECOND FORM's CARD OF 'cardcaselaw06.DnAlike'. -/
def dnAlikeUptoCard : Claim7 := { stood := { row := dnAlikeUptoRow, standIns := [], harness := (true, "9cb91537846c8e8b14494eb307e3a141a590a8a52c356a7a2698a321bd6987a7"), looks := true }, kinds := [], alts := [], laidByText := true, laidKinds := [.data, .data, .data, .sentinel, .sentinel], laidTests := true, laidLooks := .later }
def DnAlikeUptoCardSaid : Prop := Claim7.holds Tryd.pinned (.plain (OpenSpec.upto dnAlikeSpec)) dnAlikeUptoCard

/-- THE SECOND FORM's CARD OF 'cardcaselaw06.DnUps'. -/
def dnUpsUptoCard : Claim7 := { stood := { row := dnUpsUptoRow, standIns := [], harness := (true, "9cb91537846c8e8b14494eb307e3a141a590a8a52c356a7a2698a321bd6987a7"), looks := true }, kinds := [], alts := [], laidByText := true, laidKinds := [.data, .data, .data, .sentinel, .sentinel], laidTests := true, laidLooks := .later }
def DnUpsUptoCardSaid : Prop := Claim7.holds Tryd.pinned (.plain (OpenSpec.upto dnUpsSpec)) dnUpsUptoCard

/-- THE SECOND FORM's CARD OF 'cardcaselaw06.DnSmall'. -/
def dnSmallUptoCard : Claim7 := { stood := { row := dnSmallUptoRow, standIns := [], harness := (true, "9cb91537846c8e8b14494eb307e3a141a590a8a52c356a7a2698a321bd6987a7"), looks := true }, kinds := [], alts := [], laidByText := true, laidKinds := [.data, .data, .data, .sentinel, .sentinel], laidTests := true, laidLooks := .later }
def DnSmallUptoCardSaid : Prop := Claim7.holds Tryd.pinned (.plain (OpenSpec.upto dnSmallSpec)) dnSmallUptoCard

/-- THE SECOND FORM's CARD OF 'cardcaselaw06.DnBytes'. -/
def dnBytesUptoCard : Claim7 := { stood := { row := dnBytesUptoRow, standIns := [], harness := (true, "9cb91537846c8e8b14494eb307e3a141a590a8a52c356a7a2698a321bd6987a7"), looks := true }, kinds := [], alts := [], laidByText := true, laidKinds := [.data, .data, .data, .sentinel, .sentinel], laidTests := true, laidLooks := .later }
def DnBytesUptoCardSaid : Prop := Claim7.holds Tryd.pinned (.plain (OpenSpec.upto dnBytesSpec)) dnBytesUptoCard

/-- THE SECOND FORM's CARD OF 'cardcaselaw06.DnChain'. -/
def dnChainUptoCard : Claim7 := { stood := { row := dnChainUptoRow, standIns := [], harness := (true, "9cb91537846c8e8b14494eb307e3a141a590a8a52c356a7a2698a321bd6987a7"), looks := true }, kinds := [], alts := [], laidByText := true, laidKinds := [.data, .data, .data, .sentinel, .sentinel], laidTests := true, laidLooks := .later }
def DnChainUptoCardSaid : Prop := Claim7.holds Tryd.pinned (.plain (OpenSpec.upto dnChainSpec)) dnChainUptoCard
end Rows
end Go.Proofs.YtjnibkgbcgpigaaDoor
