/-
  DERIVED. GIVEN WITH THE SEED: THE CARDS: each row of YtamlacofmihldaaGreatDoorRows.lean that lists a variable, with what it lists TIED to the program's text (the seventh form; the later family's looks); each row that meets fmt, with fmt's text TOLD by the authors' own Lean function (tested against real Go, not proved from fmt's source: count such statements apart). THE CARD IS WHAT COUNTS. Prove the row's statement (the work); the ties are given (YtamlacofmihldaaGreatDoorTie.lean); close each card by the builder's one call (the guide's Derived/Test/ToyasCard.lean, 'card_holds'). Laid BY PROGRAM, IN A SANDBOX (cutbox-door.mjs). By AI agents, Wed Nov 11 2026. No macro, syntax, notation, axiom, sorry.
-/
import Derived.Test.YtamlacofmihldaaGreatDoorRows
import GoSem.ClaimSeven
namespace Go.Proofs.YtamlacofmihldaaGreatDoor
namespace Rows

/-- THE TIED CARD OF 'antiphonlaw14.AcceptorPlays'. -/
def acceptorPlaysCard : Claim7 := { stood := { row := acceptorPlaysRow, standIns := [], harness := (true, "d26649446161f9650c4455337e6275cd60b95980a97d8a51a14ad847629fc71f"), looks := false }, kinds := [], alts := [], laidByText := true, laidKinds := [.data, .pinned], laidTests := true, laidLooks := .later }
def AcceptorPlaysCardSaid : Prop := Claim7.holds Tryz.pinned (.plain (OpenSpec.ofChange acceptorPlaysSpec)) acceptorPlaysCard

/-- THE TIED CARD OF 'antiphonlaw14.AcceptorOf'. -/
def acceptorOfCard : Claim7 := { stood := { row := acceptorOfRow, standIns := [], harness := (true, "d26649446161f9650c4455337e6275cd60b95980a97d8a51a14ad847629fc71f"), looks := false }, kinds := [], alts := [], laidByText := true, laidKinds := [.data, .pinned], laidTests := true, laidLooks := .later }
def AcceptorOfCardSaid : Prop := Claim7.holds Tryz.pinned (.plain (OpenSpec.ofChange acceptorOfSpec)) acceptorOfCard

/-- THE TIED CARD OF 'antiphonlaw14.AcceptorCopies'. -/
def acceptorCopiesCard : Claim7 := { stood := { row := acceptorCopiesRow, standIns := [], harness := (true, "d26649446161f9650c4455337e6275cd60b95980a97d8a51a14ad847629fc71f"), looks := false }, kinds := [], alts := [], laidByText := true, laidKinds := [.data, .pinned], laidTests := true, laidLooks := .later }
def AcceptorCopiesCardSaid : Prop := Claim7.holds Tryz.pinned (.plain (OpenSpec.ofChange acceptorCopiesSpec)) acceptorCopiesCard

/-- THE SECOND FORM's CARD OF 'antiphonlaw14.AcceptorPlays'. -/
def acceptorPlaysUptoCard : Claim7 := { stood := { row := acceptorPlaysUptoRow, standIns := [], harness := (true, "d26649446161f9650c4455337e6275cd60b95980a97d8a51a14ad847629fc71f"), looks := false }, kinds := [], alts := [], laidByText := true, laidKinds := [.data, .pinned], laidTests := true, laidLooks := .later }
def AcceptorPlaysUptoCardSaid : Prop := Claim7.holds Tryz.pinned (.plain (OpenSpec.upto acceptorPlaysSpec)) acceptorPlaysUptoCard

/-- THE SECOND FORM's CARD OF 'antiphonlaw14.AcceptorOf'. -/
def acceptorOfUptoCard : Claim7 := { stood := { row := acceptorOfUptoRow, standIns := [], harness := (true, "d26649446161f9650c4455337e6275cd60b95980a97d8a51a14ad847629fc71f"), looks := false }, kinds := [], alts := [], laidByText := true, laidKinds := [.data, .pinned], laidTests := true, laidLooks := .later }
def AcceptorOfUptoCardSaid : Prop := Claim7.holds Tryz.pinned (.plain (OpenSpec.upto acceptorOfSpec)) acceptorOfUptoCard

/-- THE SECOND FORM's CARD OF 'antiphonlaw14.AcceptorCopies'. -/
def acceptorCopiesUptoCard : Claim7 := { stood := { row := acceptorCopiesUptoRow, standIns := [], harness := (true, "d26649446161f9650c4455337e6275cd60b95980a97d8a51a14ad847629fc71f"), looks := false }, kinds := [], alts := [], laidByText := true, laidKinds := [.data, .pinned], laidTests := true, laidLooks := .later }
def AcceptorCopiesUptoCardSaid : Prop := Claim7.holds Tryz.pinned (.plain (OpenSpec.upto acceptorCopiesSpec)) acceptorCopiesUptoCard
end Rows
end Go.Proofs.YtamlacofmihldaaGreatDoor
