/-
  DERIVED. GIVEN WITH THE SEED: THE CARDS: each row of YtamlacofmihldaaDoorRows.lean that lists a variable, with what it lists TIED to the program's text (the seventh form; the later family's looks); each row that meets fmt, with fmt's text TOLD by the authors' own Lean function (tested against real Go, not proved from fmt's source: count such statements apart). THE CARD IS WHAT COUNTS. Prove the row's statement (the work); the ties are given (YtamlacofmihldaaDoorTie.lean); close each card by the builder's one call (the guide's Derived/Test/ToyasCard.lean, 'card_holds'). Laid BY PROGRAM, IN A SANDBOX (cutbox-door.mjs). By AI agents, Wed Nov 11 2026. No macro, syntax, notation, axiom, sorry.
-/
import Derived.Test.YtamlacofmihldaaDoorRows
import GoSem.ClaimSeven
namespace Go.Proofs.YtamlacofmihldaaDoor
namespace Rows

/-- THE TIED CARD OF 'antiphonlaw14.AcceptorEntries'. -/
def acceptorEntriesCard : Claim7 := { stood := { row := acceptorEntriesRow, standIns := [], harness := (true, "def63b82e7f2e030c61bea39dadf16fae0dfae4c6f30d402776b298a32f2e2ed"), looks := false }, kinds := [], alts := [], laidByText := true, laidKinds := [.data, .pinned], laidTests := true, laidLooks := .later }
def AcceptorEntriesCardSaid : Prop := Claim7.holds Tryd.pinned (.plain (OpenSpec.ofChange acceptorEntriesSpec)) acceptorEntriesCard

/-- THE TIED CARD OF 'antiphonlaw14.AcceptorRises'. -/
def acceptorRisesCard : Claim7 := { stood := { row := acceptorRisesRow, standIns := [], harness := (true, "def63b82e7f2e030c61bea39dadf16fae0dfae4c6f30d402776b298a32f2e2ed"), looks := false }, kinds := [], alts := [], laidByText := true, laidKinds := [.data, .pinned], laidTests := true, laidLooks := .later }
def AcceptorRisesCardSaid : Prop := Claim7.holds Tryd.pinned (.plain (OpenSpec.ofChange acceptorRisesSpec)) acceptorRisesCard

/-- THE SECOND FORM's CARD OF 'antiphonlaw14.AcceptorEntries'. -/
def acceptorEntriesUptoCard : Claim7 := { stood := { row := acceptorEntriesUptoRow, standIns := [], harness := (true, "def63b82e7f2e030c61bea39dadf16fae0dfae4c6f30d402776b298a32f2e2ed"), looks := false }, kinds := [], alts := [], laidByText := true, laidKinds := [.data, .pinned], laidTests := true, laidLooks := .later }
def AcceptorEntriesUptoCardSaid : Prop := Claim7.holds Tryd.pinned (.plain (OpenSpec.upto acceptorEntriesSpec)) acceptorEntriesUptoCard

/-- THE SECOND FORM's CARD OF 'antiphonlaw14.AcceptorRises'. -/
def acceptorRisesUptoCard : Claim7 := { stood := { row := acceptorRisesUptoRow, standIns := [], harness := (true, "def63b82e7f2e030c61bea39dadf16fae0dfae4c6f30d402776b298a32f2e2ed"), looks := false }, kinds := [], alts := [], laidByText := true, laidKinds := [.data, .pinned], laidTests := true, laidLooks := .later }
def AcceptorRisesUptoCardSaid : Prop := Claim7.holds Tryd.pinned (.plain (OpenSpec.upto acceptorRisesSpec)) acceptorRisesUptoCard
end Rows
end Go.Proofs.YtamlacofmihldaaDoor
