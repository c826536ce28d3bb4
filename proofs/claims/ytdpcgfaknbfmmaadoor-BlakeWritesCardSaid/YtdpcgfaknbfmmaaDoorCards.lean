/-
  DERIVED. GIVEN WITH THE SEED: THE CARDS: each row of YtdpcgfaknbfmmaaDoorRows.lean that lists a variable, with what it lists TIED to the program's text (the seventh form; the later family's looks); each row that meets fmt, with fmt's text TOLD by the authors' own Lean function (tested against real Go, not proved from fmt's source: count such statements apart). THE CARD IS WHAT COUNTS. Prove the row's statement (the work); the ties are given (YtdpcgfaknbfmmaaDoorTie.lean); close each card by the builder's one call (the guide's Derived/Test/ToyasCard.lean, 'card_holds'). Laid BY PROGRAM, IN A SANDBOX (cutbox-door.mjs). By AI agents, Wed Nov 11 2026. No macro, syntax, notation, axiom, sorry.
-/
import Derived.Test.YtdpcgfaknbfmmaaDoorRows
import GoSem.ClaimSeven
namespace Go.Proofs.YtdpcgfaknbfmmaaDoor
namespace Rows

/-- THE TIED CARD OF 'antiphonlaw04.BlakePress'. -/
def blakePressCard : Claim7 := { stood := { row := blakePressRow, standIns := [], harness := (true, "5b253c5e3b702955f088bc970028bc88da2a627b2f72e52eccd027f03cb0e2bf"), looks := false }, kinds := [], alts := [], laidByText := true, laidKinds := [.data, .data, .data], laidTests := true, laidLooks := .later }
def BlakePressCardSaid : Prop := Claim7.holds Tryd.pinned (.plain (OpenSpec.ofChange blakePressSpec)) blakePressCard

/-- THE TIED CARD OF 'antiphonlaw04.BlakeSums'. -/
def blakeSumsCard : Claim7 := { stood := { row := blakeSumsRow, standIns := [], harness := (true, "5b253c5e3b702955f088bc970028bc88da2a627b2f72e52eccd027f03cb0e2bf"), looks := false }, kinds := [], alts := [], laidByText := true, laidKinds := [.data, .data, .data], laidTests := true, laidLooks := .later }
def BlakeSumsCardSaid : Prop := Claim7.holds Tryd.pinned (.plain (OpenSpec.ofChange blakeSumsSpec)) blakeSumsCard

/-- THE TIED CARD OF 'antiphonlaw04.BlakeKeyed'. -/
def blakeKeyedCard : Claim7 := { stood := { row := blakeKeyedRow, standIns := [], harness := (true, "5b253c5e3b702955f088bc970028bc88da2a627b2f72e52eccd027f03cb0e2bf"), looks := false }, kinds := [], alts := [], laidByText := true, laidKinds := [.data, .data, .data], laidTests := true, laidLooks := .later }
def BlakeKeyedCardSaid : Prop := Claim7.holds Tryd.pinned (.plain (OpenSpec.ofChange blakeKeyedSpec)) blakeKeyedCard

/-- THE TIED CARD OF 'antiphonlaw04.BlakeWrites'. -/
def blakeWritesCard : Claim7 := { stood := { row := blakeWritesRow, standIns := [], harness := (true, "5b253c5e3b702955f088bc970028bc88da2a627b2f72e52eccd027f03cb0e2bf"), looks := false }, kinds := [], alts := [], laidByText := true, laidKinds := [.data, .data, .data], laidTests := true, laidLooks := .later }
def BlakeWritesCardSaid : Prop := Claim7.holds Tryd.pinned (.plain (OpenSpec.ofChange blakeWritesSpec)) blakeWritesCard

/-- THE TIED CARD OF 'antiphonlaw04.BlakeCopies'. -/
def blakeCopiesCard : Claim7 := { stood := { row := blakeCopiesRow, standIns := [], harness := (true, "5b253c5e3b702955f088bc970028bc88da2a627b2f72e52eccd027f03cb0e2bf"), looks := false }, kinds := [], alts := [], laidByText := true, laidKinds := [.data, .data, .data], laidTests := true, laidLooks := .later }
def BlakeCopiesCardSaid : Prop := Claim7.holds Tryd.pinned (.plain (OpenSpec.ofChange blakeCopiesSpec)) blakeCopiesCard

/-- THE TIED CARD OF 'antiphonlaw05.HmacTags'. -/
def hmacTagsCard : Claim7 := { stood := { row := hmacTagsRow, standIns := [], harness := (true, "5b253c5e3b702955f088bc970028bc88da2a627b2f72e52eccd027f03cb0e2bf"), looks := false }, kinds := [], alts := [], laidByText := true, laidKinds := [.data, .data, .data], laidTests := true, laidLooks := .later }
def HmacTagsCardSaid : Prop := Claim7.holds Tryd.pinned (.plain (OpenSpec.ofChange hmacTagsSpec)) hmacTagsCard

/-- THE TIED CARD OF 'antiphonlaw05.HmacShorts'. -/
def hmacShortsCard : Claim7 := { stood := { row := hmacShortsRow, standIns := [], harness := (true, "5b253c5e3b702955f088bc970028bc88da2a627b2f72e52eccd027f03cb0e2bf"), looks := false }, kinds := [], alts := [], laidByText := true, laidKinds := [.data, .data, .data], laidTests := true, laidLooks := .later }
def HmacShortsCardSaid : Prop := Claim7.holds Tryd.pinned (.plain (OpenSpec.ofChange hmacShortsSpec)) hmacShortsCard

/-- THE TIED CARD OF 'antiphonlaw05.HmacChecks'. -/
def hmacChecksCard : Claim7 := { stood := { row := hmacChecksRow, standIns := [], harness := (true, "5b253c5e3b702955f088bc970028bc88da2a627b2f72e52eccd027f03cb0e2bf"), looks := false }, kinds := [], alts := [], laidByText := true, laidKinds := [.data, .data, .data], laidTests := true, laidLooks := .later }
def HmacChecksCardSaid : Prop := Claim7.holds Tryd.pinned (.plain (OpenSpec.ofChange hmacChecksSpec)) hmacChecksCard

/-- THE TIED CARD OF 'antiphonlaw05.HmacDerives'. -/
def hmacDerivesCard : Claim7 := { stood := { row := hmacDerivesRow, standIns := [], harness := (true, "5b253c5e3b702955f088bc970028bc88da2a627b2f72e52eccd027f03cb0e2bf"), looks := false }, kinds := [], alts := [], laidByText := true, laidKinds := [.data, .data, .data], laidTests := true, laidLooks := .later }
def HmacDerivesCardSaid : Prop := Claim7.holds Tryd.pinned (.plain (OpenSpec.ofChange hmacDerivesSpec)) hmacDerivesCard

/-- THE TIED CARD OF 'antiphonlaw05.HmacWrites'. -/
def hmacWritesCard : Claim7 := { stood := { row := hmacWritesRow, standIns := [], harness := (true, "5b253c5e3b702955f088bc970028bc88da2a627b2f72e52eccd027f03cb0e2bf"), looks := false }, kinds := [], alts := [], laidByText := true, laidKinds := [.data, .data, .data], laidTests := true, laidLooks := .later }
def HmacWritesCardSaid : Prop := Claim7.holds Tryd.pinned (.plain (OpenSpec.ofChange hmacWritesSpec)) hmacWritesCard

/-- THE TIED CARD OF 'antiphonlaw05.HmacCopies'. -/
def hmacCopiesCard : Claim7 := { stood := { row := hmacCopiesRow, standIns := [], harness := (true, "5b253c5e3b702955f088bc970028bc88da2a627b2f72e52eccd027f03cb0e2bf"), looks := false }, kinds := [], alts := [], laidByText := true, laidKinds := [.data, .data, .data], laidTests := true, laidLooks := .later }
def HmacCopiesCardSaid : Prop := Claim7.holds Tryd.pinned (.plain (OpenSpec.ofChange hmacCopiesSpec)) hmacCopiesCard

/-- THE TIED CARD OF 'antiphonlaw05.HmacHolds'. -/
def hmacHoldsCard : Claim7 := { stood := { row := hmacHoldsRow, standIns := [], harness := (true, "5b253c5e3b702955f088bc970028bc88da2a627b2f72e52eccd027f03cb0e2bf"), looks := false }, kinds := [], alts := [], laidByText := true, laidKinds := [.data, .data, .data], laidTests := true, laidLooks := .later }
def HmacHoldsCardSaid : Prop := Claim7.holds Tryd.pinned (.plain (OpenSpec.ofChange hmacHoldsSpec)) hmacHoldsCard

/-- THE SECOND FORM's CARD OF 'antiphonlaw04.BlakePress'. -/
def blakePressUptoCard : Claim7 := { stood := { row := blakePressUptoRow, standIns := [], harness := (true, "5b253c5e3b702955f088bc970028bc88da2a627b2f72e52eccd027f03cb0e2bf"), looks := false }, kinds := [], alts := [], laidByText := true, laidKinds := [.data, .data, .data], laidTests := true, laidLooks := .later }
def BlakePressUptoCardSaid : Prop := Claim7.holds Tryd.pinned (.plain (OpenSpec.upto blakePressSpec)) blakePressUptoCard

/-- THE SECOND FORM's CARD OF 'antiphonlaw04.BlakeSums'. -/
def blakeSumsUptoCard : Claim7 := { stood := { row := blakeSumsUptoRow, standIns := [], harness := (true, "5b253c5e3b702955f088bc970028bc88da2a627b2f72e52eccd027f03cb0e2bf"), looks := false }, kinds := [], alts := [], laidByText := true, laidKinds := [.data, .data, .data], laidTests := true, laidLooks := .later }
def BlakeSumsUptoCardSaid : Prop := Claim7.holds Tryd.pinned (.plain (OpenSpec.upto blakeSumsSpec)) blakeSumsUptoCard

/-- THE SECOND FORM's CARD OF 'antiphonlaw04.BlakeKeyed'. -/
def blakeKeyedUptoCard : Claim7 := { stood := { row := blakeKeyedUptoRow, standIns := [], harness := (true, "5b253c5e3b702955f088bc970028bc88da2a627b2f72e52eccd027f03cb0e2bf"), looks := false }, kinds := [], alts := [], laidByText := true, laidKinds := [.data, .data, .data], laidTests := true, laidLooks := .later }
def BlakeKeyedUptoCardSaid : Prop := Claim7.holds Tryd.pinned (.plain (OpenSpec.upto blakeKeyedSpec)) blakeKeyedUptoCard

/-- THE SECOND FORM's CARD OF 'antiphonlaw04.BlakeWrites'. -/
def blakeWritesUptoCard : Claim7 := { stood := { row := blakeWritesUptoRow, standIns := [], harness := (true, "5b253c5e3b702955f088bc970028bc88da2a627b2f72e52eccd027f03cb0e2bf"), looks := false }, kinds := [], alts := [], laidByText := true, laidKinds := [.data, .data, .data], laidTests := true, laidLooks := .later }
def BlakeWritesUptoCardSaid : Prop := Claim7.holds Tryd.pinned (.plain (OpenSpec.upto blakeWritesSpec)) blakeWritesUptoCard

/-- THE SECOND FORM's CARD OF 'antiphonlaw04.BlakeCopies'. -/
def blakeCopiesUptoCard : Claim7 := { stood := { row := blakeCopiesUptoRow, standIns := [], harness := (true, "5b253c5e3b702955f088bc970028bc88da2a627b2f72e52eccd027f03cb0e2bf"), looks := false }, kinds := [], alts := [], laidByText := true, laidKinds := [.data, .data, .data], laidTests := true, laidLooks := .later }
def BlakeCopiesUptoCardSaid : Prop := Claim7.holds Tryd.pinned (.plain (OpenSpec.upto blakeCopiesSpec)) blakeCopiesUptoCard

/-- THE SECOND FORM's CARD OF 'antiphonlaw05.HmacTags'. -/
def hmacTagsUptoCard : Claim7 := { stood := { row := hmacTagsUptoRow, standIns := [], harness := (true, "5b253c5e3b702955f088bc970028bc88da2a627b2f72e52eccd027f03cb0e2bf"), looks := false }, kinds := [], alts := [], laidByText := true, laidKinds := [.data, .data, .data], laidTests := true, laidLooks := .later }
def HmacTagsUptoCardSaid : Prop := Claim7.holds Tryd.pinned (.plain (OpenSpec.upto hmacTagsSpec)) hmacTagsUptoCard

/-- THE SECOND FORM's CARD OF 'antiphonlaw05.HmacShorts'. -/
def hmacShortsUptoCard : Claim7 := { stood := { row := hmacShortsUptoRow, standIns := [], harness := (true, "5b253c5e3b702955f088bc970028bc88da2a627b2f72e52eccd027f03cb0e2bf"), looks := false }, kinds := [], alts := [], laidByText := true, laidKinds := [.data, .data, .data], laidTests := true, laidLooks := .later }
def HmacShortsUptoCardSaid : Prop := Claim7.holds Tryd.pinned (.plain (OpenSpec.upto hmacShortsSpec)) hmacShortsUptoCard

/-- THE SECOND FORM's CARD OF 'antiphonlaw05.HmacChecks'. -/
def hmacChecksUptoCard : Claim7 := { stood := { row := hmacChecksUptoRow, standIns := [], harness := (true, "5b253c5e3b702955f088bc970028bc88da2a627b2f72e52eccd027f03cb0e2bf"), looks := false }, kinds := [], alts := [], laidByText := true, laidKinds := [.data, .data, .data], laidTests := true, laidLooks := .later }
def HmacChecksUptoCardSaid : Prop := Claim7.holds Tryd.pinned (.plain (OpenSpec.upto hmacChecksSpec)) hmacChecksUptoCard

/-- THE SECOND FORM's CARD OF 'antiphonlaw05.HmacDerives'. -/
def hmacDerivesUptoCard : Claim7 := { stood := { row := hmacDerivesUptoRow, standIns := [], harness := (true, "5b253c5e3b702955f088bc970028bc88da2a627b2f72e52eccd027f03cb0e2bf"), looks := false }, kinds := [], alts := [], laidByText := true, laidKinds := [.data, .data, .data], laidTests := true, laidLooks := .later }
def HmacDerivesUptoCardSaid : Prop := Claim7.holds Tryd.pinned (.plain (OpenSpec.upto hmacDerivesSpec)) hmacDerivesUptoCard

/-- THE SECOND FORM's CARD OF 'antiphonlaw05.HmacWrites'. -/
def hmacWritesUptoCard : Claim7 := { stood := { row := hmacWritesUptoRow, standIns := [], harness := (true, "5b253c5e3b702955f088bc970028bc88da2a627b2f72e52eccd027f03cb0e2bf"), looks := false }, kinds := [], alts := [], laidByText := true, laidKinds := [.data, .data, .data], laidTests := true, laidLooks := .later }
def HmacWritesUptoCardSaid : Prop := Claim7.holds Tryd.pinned (.plain (OpenSpec.upto hmacWritesSpec)) hmacWritesUptoCard

/-- THE SECOND FORM's CARD OF 'antiphonlaw05.HmacCopies'. -/
def hmacCopiesUptoCard : Claim7 := { stood := { row := hmacCopiesUptoRow, standIns := [], harness := (true, "5b253c5e3b702955f088bc970028bc88da2a627b2f72e52eccd027f03cb0e2bf"), looks := false }, kinds := [], alts := [], laidByText := true, laidKinds := [.data, .data, .data], laidTests := true, laidLooks := .later }
def HmacCopiesUptoCardSaid : Prop := Claim7.holds Tryd.pinned (.plain (OpenSpec.upto hmacCopiesSpec)) hmacCopiesUptoCard

/-- THE SECOND FORM's CARD OF 'antiphonlaw05.HmacHolds'. -/
def hmacHoldsUptoCard : Claim7 := { stood := { row := hmacHoldsUptoRow, standIns := [], harness := (true, "5b253c5e3b702955f088bc970028bc88da2a627b2f72e52eccd027f03cb0e2bf"), looks := false }, kinds := [], alts := [], laidByText := true, laidKinds := [.data, .data, .data], laidTests := true, laidLooks := .later }
def HmacHoldsUptoCardSaid : Prop := Claim7.holds Tryd.pinned (.plain (OpenSpec.upto hmacHoldsSpec)) hmacHoldsUptoCard
end Rows
end Go.Proofs.YtdpcgfaknbfmmaaDoor
