/-
  DERIVED. GIVEN WITH THE SEED: THE CARDS: each row of YtmhmnmdobnkbgaaDoorRows.lean that lists a variable, with what it lists TIED to the program's text (the seventh form; the later family's looks); each row that meets fmt, with fmt's text TOLD by the authors' own Lean function (tested against real Go, not proved from fmt's source: count such statements apart). THE CARD IS WHAT COUNTS. Prove the row's statement (the work); the ties are given (YtmhmnmdobnkbgaaDoorTie.lean); close each card by the builder's one call (the guide's Derived/Test/ToyasCard.lean, 'card_holds'). Laid BY PROGRAM, IN A SANDBOX (cutbox-door.mjs). By AI agents, Wed Nov 11 2026. No macro, syntax, notation, axiom, sorry.
-/
import Derived.Test.YtmhmnmdobnkbgaaDoorRows
import GoSem.ClaimSeven
namespace Go.Proofs.YtmhmnmdobnkbgaaDoor
namespace Rows

/-- THE TIED CARD OF 'antiphonlaw05.HmacTags'. -/
def hmacTagsCard : Claim7 := { stood := { row := hmacTagsRow, standIns := [], harness := (true, "5aee030af91d7c82e443e28d338e8cc456f7852e392b77ff3e49fbf151a47e19"), looks := true }, kinds := [], alts := [], laidByText := true, laidKinds := [.data, .data, .data], laidTests := true, laidLooks := .later }
def HmacTagsCardSaid : Prop := Claim7.holds Tryd.pinned (.plain (OpenSpec.ofChange hmacTagsSpec)) hmacTagsCard

/-- THE TIED CARD OF 'antiphonlaw05.HmacShorts'. -/
def hmacShortsCard : Claim7 := { stood := { row := hmacShortsRow, standIns := [], harness := (true, "5aee030af91d7c82e443e28d338e8cc456f7852e392b77ff3e49fbf151a47e19"), looks := true }, kinds := [], alts := [], laidByText := true, laidKinds := [.data, .data, .data], laidTests := true, laidLooks := .later }
def HmacShortsCardSaid : Prop := Claim7.holds Tryd.pinned (.plain (OpenSpec.ofChange hmacShortsSpec)) hmacShortsCard

/-- THE TIED CARD OF 'antiphonlaw05.HmacChecks'. -/
def hmacChecksCard : Claim7 := { stood := { row := hmacChecksRow, standIns := [], harness := (true, "5aee030af91d7c82e443e28d338e8cc456f7852e392b77ff3e49fbf151a47e19"), looks := true }, kinds := [], alts := [], laidByText := true, laidKinds := [.data, .data, .data], laidTests := true, laidLooks := .later }
def HmacChecksCardSaid : Prop := Claim7.holds Tryd.pinned (.plain (OpenSpec.ofChange hmacChecksSpec)) hmacChecksCard

/-- THE TIED CARD OF 'antiphonlaw05.HmacDerives'. -/
def hmacDerivesCard : Claim7 := { stood := { row := hmacDerivesRow, standIns := [], harness := (true, "5aee030af91d7c82e443e28d338e8cc456f7852e392b77ff3e49fbf151a47e19"), looks := true }, kinds := [], alts := [], laidByText := true, laidKinds := [.data, .data, .data], laidTests := true, laidLooks := .later }
def HmacDerivesCardSaid : Prop := Claim7.holds Tryd.pinned (.plain (OpenSpec.ofChange hmacDerivesSpec)) hmacDerivesCard

/-- THE TIED CARD OF 'antiphonlaw05.HmacWrites'. -/
def hmacWritesCard : Claim7 := { stood := { row := hmacWritesRow, standIns := [], harness := (true, "5aee030af91d7c82e443e28d338e8cc456f7852e392b77ff3e49fbf151a47e19"), looks := true }, kinds := [], alts := [], laidByText := true, laidKinds := [.data, .data, .data], laidTests := true, laidLooks := .later }
def HmacWritesCardSaid : Prop := Claim7.holds Tryd.pinned (.plain (OpenSpec.ofChange hmacWritesSpec)) hmacWritesCard

/-- THE TIED CARD OF 'antiphonlaw05.HmacCopies'. -/
def hmacCopiesCard : Claim7 := { stood := { row := hmacCopiesRow, standIns := [], harness := (true, "5aee030af91d7c82e443e28d338e8cc456f7852e392b77ff3e49fbf151a47e19"), looks := true }, kinds := [], alts := [], laidByText := true, laidKinds := [.data, .data, .data], laidTests := true, laidLooks := .later }
def HmacCopiesCardSaid : Prop := Claim7.holds Tryd.pinned (.plain (OpenSpec.ofChange hmacCopiesSpec)) hmacCopiesCard

/-- THE TIED CARD OF 'antiphonlaw05.HmacHolds'. -/
def hmacHoldsCard : Claim7 := { stood := { row := hmacHoldsRow, standIns := [], harness := (true, "5aee030af91d7c82e443e28d338e8cc456f7852e392b77ff3e49fbf151a47e19"), looks := true }, kinds := [], alts := [], laidByText := true, laidKinds := [.data, .data, .data], laidTests := true, laidLooks := .later }
def HmacHoldsCardSaid : Prop := Claim7.holds Tryd.pinned (.plain (OpenSpec.ofChange hmacHoldsSpec)) hmacHoldsCard

/-- THE TIED CARD OF 'antiphonlaw06.TokenSpells'. -/
def tokenSpellsCard : Claim7 := { stood := { row := tokenSpellsRow, standIns := [], harness := (true, "5aee030af91d7c82e443e28d338e8cc456f7852e392b77ff3e49fbf151a47e19"), looks := true }, kinds := [], alts := [], laidByText := true, laidKinds := [.data, .data, .data], laidTests := true, laidLooks := .later }
def TokenSpellsCardSaid : Prop := Claim7.holds Tryd.pinned (.plain (OpenSpec.ofChange tokenSpellsSpec)) tokenSpellsCard

/-- THE TIED CARD OF 'antiphonlaw06.TokenBounds'. -/
def tokenBoundsCard : Claim7 := { stood := { row := tokenBoundsRow, standIns := [], harness := (true, "5aee030af91d7c82e443e28d338e8cc456f7852e392b77ff3e49fbf151a47e19"), looks := true }, kinds := [], alts := [], laidByText := true, laidKinds := [.data, .data, .data], laidTests := true, laidLooks := .later }
def TokenBoundsCardSaid : Prop := Claim7.holds Tryd.pinned (.plain (OpenSpec.ofChange tokenBoundsSpec)) tokenBoundsCard

/-- THE TIED CARD OF 'antiphonlaw06.TokenHolds'. -/
def tokenHoldsCard : Claim7 := { stood := { row := tokenHoldsRow, standIns := [], harness := (true, "5aee030af91d7c82e443e28d338e8cc456f7852e392b77ff3e49fbf151a47e19"), looks := true }, kinds := [], alts := [], laidByText := true, laidKinds := [.data, .data, .data], laidTests := true, laidLooks := .later }
def TokenHoldsCardSaid : Prop := Claim7.holds Tryd.pinned (.plain (OpenSpec.ofChange tokenHoldsSpec)) tokenHoldsCard

/-- THE SECOND FORM's CARD OF 'antiphonlaw05.HmacTags'. -/
def hmacTagsUptoCard : Claim7 := { stood := { row := hmacTagsUptoRow, standIns := [], harness := (true, "5aee030af91d7c82e443e28d338e8cc456f7852e392b77ff3e49fbf151a47e19"), looks := true }, kinds := [], alts := [], laidByText := true, laidKinds := [.data, .data, .data], laidTests := true, laidLooks := .later }
def HmacTagsUptoCardSaid : Prop := Claim7.holds Tryd.pinned (.plain (OpenSpec.upto hmacTagsSpec)) hmacTagsUptoCard

/-- THE SECOND FORM's CARD OF 'antiphonlaw05.HmacShorts'. -/
def hmacShortsUptoCard : Claim7 := { stood := { row := hmacShortsUptoRow, standIns := [], harness := (true, "5aee030af91d7c82e443e28d338e8cc456f7852e392b77ff3e49fbf151a47e19"), looks := true }, kinds := [], alts := [], laidByText := true, laidKinds := [.data, .data, .data], laidTests := true, laidLooks := .later }
def HmacShortsUptoCardSaid : Prop := Claim7.holds Tryd.pinned (.plain (OpenSpec.upto hmacShortsSpec)) hmacShortsUptoCard

/-- THE SECOND FORM's CARD OF 'antiphonlaw05.HmacChecks'. -/
def hmacChecksUptoCard : Claim7 := { stood := { row := hmacChecksUptoRow, standIns := [], harness := (true, "5aee030af91d7c82e443e28d338e8cc456f7852e392b77ff3e49fbf151a47e19"), looks := true }, kinds := [], alts := [], laidByText := true, laidKinds := [.data, .data, .data], laidTests := true, laidLooks := .later }
def HmacChecksUptoCardSaid : Prop := Claim7.holds Tryd.pinned (.plain (OpenSpec.upto hmacChecksSpec)) hmacChecksUptoCard

/-- THE SECOND FORM's CARD OF 'antiphonlaw05.HmacDerives'. -/
def hmacDerivesUptoCard : Claim7 := { stood := { row := hmacDerivesUptoRow, standIns := [], harness := (true, "5aee030af91d7c82e443e28d338e8cc456f7852e392b77ff3e49fbf151a47e19"), looks := true }, kinds := [], alts := [], laidByText := true, laidKinds := [.data, .data, .data], laidTests := true, laidLooks := .later }
def HmacDerivesUptoCardSaid : Prop := Claim7.holds Tryd.pinned (.plain (OpenSpec.upto hmacDerivesSpec)) hmacDerivesUptoCard

/-- THE SECOND FORM's CARD OF 'antiphonlaw05.HmacWrites'. -/
def hmacWritesUptoCard : Claim7 := { stood := { row := hmacWritesUptoRow, standIns := [], harness := (true, "5aee030af91d7c82e443e28d338e8cc456f7852e392b77ff3e49fbf151a47e19"), looks := true }, kinds := [], alts := [], laidByText := true, laidKinds := [.data, .data, .data], laidTests := true, laidLooks := .later }
def HmacWritesUptoCardSaid : Prop := Claim7.holds Tryd.pinned (.plain (OpenSpec.upto hmacWritesSpec)) hmacWritesUptoCard

/-- THE SECOND FORM's CARD OF 'antiphonlaw05.HmacCopies'. -/
def hmacCopiesUptoCard : Claim7 := { stood := { row := hmacCopiesUptoRow, standIns := [], harness := (true, "5aee030af91d7c82e443e28d338e8cc456f7852e392b77ff3e49fbf151a47e19"), looks := true }, kinds := [], alts := [], laidByText := true, laidKinds := [.data, .data, .data], laidTests := true, laidLooks := .later }
def HmacCopiesUptoCardSaid : Prop := Claim7.holds Tryd.pinned (.plain (OpenSpec.upto hmacCopiesSpec)) hmacCopiesUptoCard

/-- THE SECOND FORM's CARD OF 'antiphonlaw05.HmacHolds'. -/
def hmacHoldsUptoCard : Claim7 := { stood := { row := hmacHoldsUptoRow, standIns := [], harness := (true, "5aee030af91d7c82e443e28d338e8cc456f7852e392b77ff3e49fbf151a47e19"), looks := true }, kinds := [], alts := [], laidByText := true, laidKinds := [.data, .data, .data], laidTests := true, laidLooks := .later }
def HmacHoldsUptoCardSaid : Prop := Claim7.holds Tryd.pinned (.plain (OpenSpec.upto hmacHoldsSpec)) hmacHoldsUptoCard

/-- THE SECOND FORM's CARD OF 'antiphonlaw06.TokenSpells'. -/
def tokenSpellsUptoCard : Claim7 := { stood := { row := tokenSpellsUptoRow, standIns := [], harness := (true, "5aee030af91d7c82e443e28d338e8cc456f7852e392b77ff3e49fbf151a47e19"), looks := true }, kinds := [], alts := [], laidByText := true, laidKinds := [.data, .data, .data], laidTests := true, laidLooks := .later }
def TokenSpellsUptoCardSaid : Prop := Claim7.holds Tryd.pinned (.plain (OpenSpec.upto tokenSpellsSpec)) tokenSpellsUptoCard

/-- THE SECOND FORM's CARD OF 'antiphonlaw06.TokenBounds'. -/
def tokenBoundsUptoCard : Claim7 := { stood := { row := tokenBoundsUptoRow, standIns := [], harness := (true, "5aee030af91d7c82e443e28d338e8cc456f7852e392b77ff3e49fbf151a47e19"), looks := true }, kinds := [], alts := [], laidByText := true, laidKinds := [.data, .data, .data], laidTests := true, laidLooks := .later }
def TokenBoundsUptoCardSaid : Prop := Claim7.holds Tryd.pinned (.plain (OpenSpec.upto tokenBoundsSpec)) tokenBoundsUptoCard

/-- THE SECOND FORM's CARD OF 'antiphonlaw06.TokenHolds'. -/
def tokenHoldsUptoCard : Claim7 := { stood := { row := tokenHoldsUptoRow, standIns := [], harness := (true, "5aee030af91d7c82e443e28d338e8cc456f7852e392b77ff3e49fbf151a47e19"), looks := true }, kinds := [], alts := [], laidByText := true, laidKinds := [.data, .data, .data], laidTests := true, laidLooks := .later }
def TokenHoldsUptoCardSaid : Prop := Claim7.holds Tryd.pinned (.plain (OpenSpec.upto tokenHoldsSpec)) tokenHoldsUptoCard
end Rows
end Go.Proofs.YtmhmnmdobnkbgaaDoor
