/-
  DERIVED. GIVEN WITH THE SEED: THE CARDS: each row of YtbfebljahjmjfaaGreatDoorRows.lean that lists a variable, with what it lists TIED to the program's text (the seventh form; the later family's looks); each row that meets fmt, with fmt's text TOLD by the authors' own Lean function (tested against real Go, not proved from fmt's source: count such statements apart). THE CARD IS WHAT COUNTS. Prove the row's statement (the work); the ties are given (YtbfebljahjmjfaaGreatDoorTie.lean); close each card by the builder's one call (the guide's Derived/Test/ToyasCard.lean, 'card_holds'). Laid BY PROGRAM, IN A SANDBOX (cutbox-door.mjs). By AI agents, Wed Nov 11 2026. No macro, syntax, notation, axiom, sorry.
-/
import Derived.Test.YtbfebljahjmjfaaGreatDoorRows
import GoSem.ClaimSeven
namespace Go.Proofs.YtbfebljahjmjfaaGreatDoor
namespace Rows

/-- THE TIED CARD OF 'cardcaselaw08.FilterParses'. -/
def filterParsesCard : Claim7 := { stood := { row := filterParsesRow, standIns := [], harness := (true, "a8fc57cd5744f00b8c84811414ea750d9f49abbd01a3af20c6f94c0cdb6c6247"), looks := true }, kinds := [], alts := [], laidByText := true, laidKinds := [.data, .data, .data, .sentinel, .sentinel, .data], laidTests := true, laidLooks := .later }
def FilterParsesCardSaid : Prop := Claim7.holds Tryz.pinned (.plain (OpenSpec.ofChange filterParsesSpec)) filterParsesCard

/-- THE TIED CARD OF 'cardcaselaw08.FilterBounds'. -/
def filterBoundsCard : Claim7 := { stood := { row := filterBoundsRow, standIns := [], harness := (true, "a8fc57cd5744f00b8c84811414ea750d9f49abbd01a3af20c6f94c0cdb6c6247"), looks := true }, kinds := [], alts := [], laidByText := true, laidKinds := [.data, .data, .data, .sentinel, .sentinel, .data, .data], laidTests := true, laidLooks := .later }
def FilterBoundsCardSaid : Prop := Claim7.holds Tryz.pinned (.plain (OpenSpec.ofChange filterBoundsSpec)) filterBoundsCard

/-- THE TIED CARD OF 'cardcaselaw09.LdapEncodes'. -/
def ldapEncodesCard : Claim7 := { stood := { row := ldapEncodesRow, standIns := [], harness := (true, "a8fc57cd5744f00b8c84811414ea750d9f49abbd01a3af20c6f94c0cdb6c6247"), looks := true }, kinds := [], alts := [], laidByText := true, laidKinds := [.data, .data, .data, .sentinel, .sentinel, .data], laidTests := true, laidLooks := .later }
def LdapEncodesCardSaid : Prop := Claim7.holds Tryz.pinned (.plain (OpenSpec.ofChange ldapEncodesSpec)) ldapEncodesCard

/-- THE TIED CARD OF 'cardcaselaw09.LdapSame'. -/
def ldapSameCard : Claim7 := { stood := { row := ldapSameRow, standIns := [], harness := (true, "a8fc57cd5744f00b8c84811414ea750d9f49abbd01a3af20c6f94c0cdb6c6247"), looks := true }, kinds := [], alts := [], laidByText := true, laidKinds := [.data, .data, .data, .sentinel, .sentinel, .data], laidTests := true, laidLooks := .later }
def LdapSameCardSaid : Prop := Claim7.holds Tryz.pinned (.plain (OpenSpec.ofChange ldapSameSpec)) ldapSameCard

/-- THE TIED CARD OF 'cardcaselaw09.LdapBounds'. -/
def ldapBoundsCard : Claim7 := { stood := { row := ldapBoundsRow, standIns := [], harness := (true, "a8fc57cd5744f00b8c84811414ea750d9f49abbd01a3af20c6f94c0cdb6c6247"), looks := true }, kinds := [], alts := [], laidByText := true, laidKinds := [.data, .data, .data, .sentinel, .sentinel, .data], laidTests := true, laidLooks := .later }
def LdapBoundsCardSaid : Prop := Claim7.holds Tryz.pinned (.plain (OpenSpec.ofChange ldapBoundsSpec)) ldapBoundsCard

/-- THE SECOND FORM's CARD OF 'cardcaselaw08.FilterParses'. -/
def filterParsesUptoCard : Claim7 := { stood := { row := filterParsesUptoRow, standIns := [], harness := (true, "a8fc57cd5744f00b8c84811414ea750d9f49abbd01a3af20c6f94c0cdb6c6247"), looks := true }, kinds := [], alts := [], laidByText := true, laidKinds := [.data, .data, .data, .sentinel, .sentinel, .data], laidTests := true, laidLooks := .later }
def FilterParsesUptoCardSaid : Prop := Claim7.holds Tryz.pinned (.plain (OpenSpec.upto filterParsesSpec)) filterParsesUptoCard

/-- THE SECOND FORM's CARD OF 'cardcaselaw08.FilterBounds'. -/
def filterBoundsUptoCard : Claim7 := { stood := { row := filterBoundsUptoRow, standIns := [], harness := (true, "a8fc57cd5744f00b8c84811414ea750d9f49abbd01a3af20c6f94c0cdb6c6247"), looks := true }, kinds := [], alts := [], laidByText := true, laidKinds := [.data, .data, .data, .sentinel, .sentinel, .data, .data], laidTests := true, laidLooks := .later }
def FilterBoundsUptoCardSaid : Prop := Claim7.holds Tryz.pinned (.plain (OpenSpec.upto filterBoundsSpec)) filterBoundsUptoCard

/-- THE SECOND FORM's CARD OF 'cardcaselaw09.LdapEncodes'. -/
def ldapEncodesUptoCard : Claim7 := { stood := { row := ldapEncodesUptoRow, standIns := [], harness := (true, "a8fc57cd5744f00b8c84811414ea750d9f49abbd01a3af20c6f94c0cdb6c6247"), looks := true }, kinds := [], alts := [], laidByText := true, laidKinds := [.data, .data, .data, .sentinel, .sentinel, .data], laidTests := true, laidLooks := .later }
def LdapEncodesUptoCardSaid : Prop := Claim7.holds Tryz.pinned (.plain (OpenSpec.upto ldapEncodesSpec)) ldapEncodesUptoCard

/-- THE SECOND FORM's CARD OF 'cardcaselaw09.LdapSame'. -/
def ldapSameUptoCard : Claim7 := { stood := { row := ldapSameUptoRow, standIns := [], harness := (true, "a8fc57cd5744f00b8c84811414ea750d9f49abbd01a3af20c6f94c0cdb6c6247"), looks := true }, kinds := [], alts := [], laidByText := true, laidKinds := [.data, .data, .data, .sentinel, .sentinel, .data], laidTests := true, laidLooks := .later }
def LdapSameUptoCardSaid : Prop := Claim7.holds Tryz.pinned (.plain (OpenSpec.upto ldapSameSpec)) ldapSameUptoCard

/-- THE SECOND FORM's CARD OF 'cardcaselaw09.LdapBounds'. -/
def ldapBoundsUptoCard : Claim7 := { stood := { row := ldapBoundsUptoRow, standIns := [], harness := (true, "a8fc57cd5744f00b8c84811414ea750d9f49abbd01a3af20c6f94c0cdb6c6247"), looks := true }, kinds := [], alts := [], laidByText := true, laidKinds := [.data, .data, .data, .sentinel, .sentinel, .data], laidTests := true, laidLooks := .later }
def LdapBoundsUptoCardSaid : Prop := Claim7.holds Tryz.pinned (.plain (OpenSpec.upto ldapBoundsSpec)) ldapBoundsUptoCard
end Rows
end Go.Proofs.YtbfebljahjmjfaaGreatDoor
