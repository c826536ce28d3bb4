/-
  DERIVED. GIVEN WITH THE SEED: THE CARDS: each row of YtbojnblececnhaaGreatDoorRows.lean that lists a variable, with what it lists TIED to the program's text (the seventh form; the later family's looks); each row that meets fmt, with fmt's text TOLD by the authors' own Lean function (tested against real Go, not proved from fmt's source: count such statements apart). THE CARD IS WHAT COUNTS. Prove the row's statement (the work); the ties are given (YtbojnblececnhaaGreatDoorTie.lean); close each card by the builder's one call (the guide's Derived/Test/ToyasCard.lean, 'card_holds'). Laid BY PROGRAM, IN A SANDBOX (cutbox-door.mjs). By AI agents, Wed Nov 11 2026. No macro, syntax, notation, axiom, sorry.
-/
import Derived.Test.YtbojnblececnhaaGreatDoorRows
import GoSem.ClaimSeven
namespace Go.Proofs.YtbojnblececnhaaGreatDoor
namespace Rows

/-- THE TIED CARD OF 'antiphonlaw06.TokenMakes'. -/
def tokenMakesCard : Claim7 := { stood := { row := tokenMakesRow, standIns := [], harness := (true, "9f48427f0cb02a118afbbed5da19c454d64c28dd3b7edd718c6337f340a00f01"), looks := true }, kinds := [], alts := [], laidByText := true, laidKinds := [.data, .data, .data], laidTests := true, laidLooks := .later }
def TokenMakesCardSaid : Prop := Claim7.holds Tryz.pinned (.plain (OpenSpec.ofChange tokenMakesSpec)) tokenMakesCard

/-- THE TIED CARD OF 'antiphonlaw06.TokenOpens'. -/
def tokenOpensCard : Claim7 := { stood := { row := tokenOpensRow, standIns := [], harness := (true, "9f48427f0cb02a118afbbed5da19c454d64c28dd3b7edd718c6337f340a00f01"), looks := true }, kinds := [], alts := [], laidByText := true, laidKinds := [.data, .data, .data], laidTests := true, laidLooks := .later }
def TokenOpensCardSaid : Prop := Claim7.holds Tryz.pinned (.plain (OpenSpec.ofChange tokenOpensSpec)) tokenOpensCard

/-- THE TIED CARD OF 'antiphonlaw06.TokenForged'. -/
def tokenForgedCard : Claim7 := { stood := { row := tokenForgedRow, standIns := [], harness := (true, "9f48427f0cb02a118afbbed5da19c454d64c28dd3b7edd718c6337f340a00f01"), looks := true }, kinds := [], alts := [], laidByText := true, laidKinds := [.data, .data, .data], laidTests := true, laidLooks := .later }
def TokenForgedCardSaid : Prop := Claim7.holds Tryz.pinned (.plain (OpenSpec.ofChange tokenForgedSpec)) tokenForgedCard

/-- THE TIED CARD OF 'antiphonlaw06.TokenKeys'. -/
def tokenKeysCard : Claim7 := { stood := { row := tokenKeysRow, standIns := [], harness := (true, "9f48427f0cb02a118afbbed5da19c454d64c28dd3b7edd718c6337f340a00f01"), looks := true }, kinds := [], alts := [], laidByText := true, laidKinds := [.data, .data, .data], laidTests := true, laidLooks := .later }
def TokenKeysCardSaid : Prop := Claim7.holds Tryz.pinned (.plain (OpenSpec.ofChange tokenKeysSpec)) tokenKeysCard

/-- THE SECOND FORM's CARD OF 'antiphonlaw06.TokenMakes'. -/
def tokenMakesUptoCard : Claim7 := { stood := { row := tokenMakesUptoRow, standIns := [], harness := (true, "9f48427f0cb02a118afbbed5da19c454d64c28dd3b7edd718c6337f340a00f01"), looks := true }, kinds := [], alts := [], laidByText := true, laidKinds := [.data, .data, .data], laidTests := true, laidLooks := .later }
def TokenMakesUptoCardSaid : Prop := Claim7.holds Tryz.pinned (.plain (OpenSpec.upto tokenMakesSpec)) tokenMakesUptoCard

/-- THE SECOND FORM's CARD OF 'antiphonlaw06.TokenOpens'. -/
def tokenOpensUptoCard : Claim7 := { stood := { row := tokenOpensUptoRow, standIns := [], harness := (true, "9f48427f0cb02a118afbbed5da19c454d64c28dd3b7edd718c6337f340a00f01"), looks := true }, kinds := [], alts := [], laidByText := true, laidKinds := [.data, .data, .data], laidTests := true, laidLooks := .later }
def TokenOpensUptoCardSaid : Prop := Claim7.holds Tryz.pinned (.plain (OpenSpec.upto tokenOpensSpec)) tokenOpensUptoCard

/-- THE SECOND FORM's CARD OF 'antiphonlaw06.TokenForged'. -/
def tokenForgedUptoCard : Claim7 := { stood := { row := tokenForgedUptoRow, standIns := [], harness := (true, "9f48427f0cb02a118afbbed5da19c454d64c28dd3b7edd718c6337f340a00f01"), looks := true }, kinds := [], alts := [], laidByText := true, laidKinds := [.data, .data, .data], laidTests := true, laidLooks := .later }
def TokenForgedUptoCardSaid : Prop := Claim7.holds Tryz.pinned (.plain (OpenSpec.upto tokenForgedSpec)) tokenForgedUptoCard

/-- THE SECOND FORM's CARD OF 'antiphonlaw06.TokenKeys'. -/
def tokenKeysUptoCard : Claim7 := { stood := { row := tokenKeysUptoRow, standIns := [], harness := (true, "9f48427f0cb02a118afbbed5da19c454d64c28dd3b7edd718c6337f340a00f01"), looks := true }, kinds := [], alts := [], laidByText := true, laidKinds := [.data, .data, .data], laidTests := true, laidLooks := .later }
def TokenKeysUptoCardSaid : Prop := Claim7.holds Tryz.pinned (.plain (OpenSpec.upto tokenKeysSpec)) tokenKeysUptoCard
end Rows
end Go.Proofs.YtbojnblececnhaaGreatDoor
