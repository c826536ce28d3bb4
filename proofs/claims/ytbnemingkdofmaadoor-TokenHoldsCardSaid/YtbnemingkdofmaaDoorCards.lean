/-
  DERIVED. GIVEN WITH THE SEED: THE CARDS: each row of YtbnemingkdofmaaDoorRows.lean that lists a variable, with what it lists TIED to the program's text (the seventh form; the later family's looks); each row that meets fmt, with fmt's text TOLD by the authors' own Lean function (tested against real Go, not proved from fmt's source: count such statements apart). THE CARD IS WHAT COUNTS. Prove the row's statement (the work); the ties are given (YtbnemingkdofmaaDoorTie.lean); close each card by the builder's one call (the guide's Derived/Test/ToyasCard.lean, 'card_holds'). Laid BY PROGRAM, IN A SANDBOX (cutbox-door.mjs). By AI agents, Wed Nov 11 2026. No macro, syntax, notation, axiom, sorry.
-/
import Derived.Test.YtbnemingkdofmaaDoorRows
import GoSem.ClaimSeven
namespace Go.Proofs.YtbnemingkdofmaaDoor
namespace Rows

/-- THE TIED CARD OF 'antiphonlaw06.TokenSpells'. -/
def tokenSpellsCard : Claim7 := { stood := { row := tokenSpellsRow, standIns := [], harness := (true, "0c4827e8f0fec6300385f5ff2fb8dc553f8f07ca6bc25db38fcc17baf37d5cec"), looks := true }, kinds := [], alts := [], laidByText := true, laidKinds := [.data, .data, .data], laidTests := true, laidLooks := .later }
def TokenSpellsCardSaid : Prop := Claim7.holds Tryd.pinned (.plain (OpenSpec.ofChange tokenSpellsSpec)) tokenSpellsCard

/-- THE TIED CARD OF 'antiphonlaw06.TokenBounds'. -/
def tokenBoundsCard : Claim7 := { stood := { row := tokenBoundsRow, standIns := [], harness := (true, "0c4827e8f0fec6300385f5ff2fb8dc553f8f07ca6bc25db38fcc17baf37d5cec"), looks := true }, kinds := [], alts := [], laidByText := true, laidKinds := [.data, .data, .data], laidTests := true, laidLooks := .later }
def TokenBoundsCardSaid : Prop := Claim7.holds Tryd.pinned (.plain (OpenSpec.ofChange tokenBoundsSpec)) tokenBoundsCard

/-- THE TIED CARD OF 'antiphonlaw06.TokenHolds'. -/
def tokenHoldsCard : Claim7 := { stood := { row := tokenHoldsRow, standIns := [], harness := (true, "0c4827e8f0fec6300385f5ff2fb8dc553f8f07ca6bc25db38fcc17baf37d5cec"), looks := true }, kinds := [], alts := [], laidByText := true, laidKinds := [.data, .data, .data], laidTests := true, laidLooks := .later }
def TokenHoldsCardSaid : Prop := Claim7.holds Tryd.pinned (.plain (OpenSpec.ofChange tokenHoldsSpec)) tokenHoldsCard

/-- THE SECOND FORM's CARD OF 'antiphonlaw06.TokenSpells'. -/
def tokenSpellsUptoCard : Claim7 := { stood := { row := tokenSpellsUptoRow, standIns := [], harness := (true, "0c4827e8f0fec6300385f5ff2fb8dc553f8f07ca6bc25db38fcc17baf37d5cec"), looks := true }, kinds := [], alts := [], laidByText := true, laidKinds := [.data, .data, .data], laidTests := true, laidLooks := .later }
def TokenSpellsUptoCardSaid : Prop := Claim7.holds Tryd.pinned (.plain (OpenSpec.upto tokenSpellsSpec)) tokenSpellsUptoCard

/-- THE SECOND FORM's CARD OF 'antiphonlaw06.TokenBounds'. -/
def tokenBoundsUptoCard : Claim7 := { stood := { row := tokenBoundsUptoRow, standIns := [], harness := (true, "0c4827e8f0fec6300385f5ff2fb8dc553f8f07ca6bc25db38fcc17baf37d5cec"), looks := true }, kinds := [], alts := [], laidByText := true, laidKinds := [.data, .data, .data], laidTests := true, laidLooks := .later }
def TokenBoundsUptoCardSaid : Prop := Claim7.holds Tryd.pinned (.plain (OpenSpec.upto tokenBoundsSpec)) tokenBoundsUptoCard

/-- THE SECOND FORM's CARD OF 'antiphonlaw06.TokenHolds'. -/
def tokenHoldsUptoCard : Claim7 := { stood := { row := tokenHoldsUptoRow, standIns := [], harness := (true, "0c4827e8f0fec6300385f5ff2fb8dc553f8f07ca6bc25db38fcc17baf37d5cec"), looks := true }, kinds := [], alts := [], laidByText := true, laidKinds := [.data, .data, .data], laidTests := true, laidLooks := .later }
def TokenHoldsUptoCardSaid : Prop := Claim7.holds Tryd.pinned (.plain (OpenSpec.upto tokenHoldsSpec)) tokenHoldsUptoCard
end Rows
end Go.Proofs.YtbnemingkdofmaaDoor
