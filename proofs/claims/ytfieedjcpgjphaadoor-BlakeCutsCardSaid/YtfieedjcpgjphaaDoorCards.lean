/-
  DERIVED. GIVEN WITH THE SEED: THE CARDS: each row of YtfieedjcpgjphaaDoorRows.lean that lists a variable, with what it lists TIED to the program's text (the seventh form; the later family's looks); each row that meets fmt, with fmt's text TOLD by the authors' own Lean function (tested against real Go, not proved from fmt's source: count such statements apart). THE CARD IS WHAT COUNTS. Prove the row's statement (the work); the ties are given (YtfieedjcpgjphaaDoorTie.lean); close each card by the builder's one call (the guide's Derived/Test/ToyasCard.lean, 'card_holds'). Laid BY PROGRAM, IN A SANDBOX (cutbox-door.mjs). By AI agents, Wed Nov 11 2026. No macro, syntax, notation, axiom, sorry.
-/
import Derived.Test.YtfieedjcpgjphaaDoorRows
import GoSem.ClaimSeven
namespace Go.Proofs.YtfieedjcpgjphaaDoor
namespace Rows

/-- THE TIED CARD OF 'antiphonlaw04.BlakeMix'. -/
def blakeMixCard : Claim7 := { stood := { row := blakeMixRow, standIns := [], harness := (true, "f25786debcc8ad7575199cded2973434089facb3ccbd55b201caa3b0db3e660c"), looks := false }, kinds := [], alts := [], laidByText := true, laidKinds := [.data, .data, .data], laidTests := true, laidLooks := .later }
def BlakeMixCardSaid : Prop := Claim7.holds Tryd.pinned (.plain (OpenSpec.ofChange blakeMixSpec)) blakeMixCard

/-- THE TIED CARD OF 'antiphonlaw04.BlakePress'. -/
def blakePressCard : Claim7 := { stood := { row := blakePressRow, standIns := [], harness := (true, "f25786debcc8ad7575199cded2973434089facb3ccbd55b201caa3b0db3e660c"), looks := false }, kinds := [], alts := [], laidByText := true, laidKinds := [.data, .data, .data], laidTests := true, laidLooks := .later }
def BlakePressCardSaid : Prop := Claim7.holds Tryd.pinned (.plain (OpenSpec.ofChange blakePressSpec)) blakePressCard

/-- THE TIED CARD OF 'antiphonlaw04.BlakeSums'. -/
def blakeSumsCard : Claim7 := { stood := { row := blakeSumsRow, standIns := [], harness := (true, "f25786debcc8ad7575199cded2973434089facb3ccbd55b201caa3b0db3e660c"), looks := false }, kinds := [], alts := [], laidByText := true, laidKinds := [.data, .data, .data], laidTests := true, laidLooks := .later }
def BlakeSumsCardSaid : Prop := Claim7.holds Tryd.pinned (.plain (OpenSpec.ofChange blakeSumsSpec)) blakeSumsCard

/-- THE TIED CARD OF 'antiphonlaw04.BlakeKeyed'. -/
def blakeKeyedCard : Claim7 := { stood := { row := blakeKeyedRow, standIns := [], harness := (true, "f25786debcc8ad7575199cded2973434089facb3ccbd55b201caa3b0db3e660c"), looks := false }, kinds := [], alts := [], laidByText := true, laidKinds := [.data, .data, .data], laidTests := true, laidLooks := .later }
def BlakeKeyedCardSaid : Prop := Claim7.holds Tryd.pinned (.plain (OpenSpec.ofChange blakeKeyedSpec)) blakeKeyedCard

/-- THE TIED CARD OF 'antiphonlaw04.BlakeWrites'. -/
def blakeWritesCard : Claim7 := { stood := { row := blakeWritesRow, standIns := [], harness := (true, "f25786debcc8ad7575199cded2973434089facb3ccbd55b201caa3b0db3e660c"), looks := false }, kinds := [], alts := [], laidByText := true, laidKinds := [.data, .data, .data], laidTests := true, laidLooks := .later }
def BlakeWritesCardSaid : Prop := Claim7.holds Tryd.pinned (.plain (OpenSpec.ofChange blakeWritesSpec)) blakeWritesCard

/-- THE TIED CARD OF 'antiphonlaw04.BlakeCopies'. -/
def blakeCopiesCard : Claim7 := { stood := { row := blakeCopiesRow, standIns := [], harness := (true, "f25786debcc8ad7575199cded2973434089facb3ccbd55b201caa3b0db3e660c"), looks := false }, kinds := [], alts := [], laidByText := true, laidKinds := [.data, .data, .data], laidTests := true, laidLooks := .later }
def BlakeCopiesCardSaid : Prop := Claim7.holds Tryd.pinned (.plain (OpenSpec.ofChange blakeCopiesSpec)) blakeCopiesCard

/-- THE TIED CARD OF 'antiphonlaw04.BlakeCuts'. -/
def blakeCutsCard : Claim7 := { stood := { row := blakeCutsRow, standIns := [], harness := (true, "f25786debcc8ad7575199cded2973434089facb3ccbd55b201caa3b0db3e660c"), looks := false }, kinds := [], alts := [], laidByText := true, laidKinds := [.data, .data, .data], laidTests := true, laidLooks := .later }
def BlakeCutsCardSaid : Prop := Claim7.holds Tryd.pinned (.plain (OpenSpec.ofChange blakeCutsSpec)) blakeCutsCard

/-- THE SECOND FORM's CARD OF 'antiphonlaw04.BlakeMix'. -/
def blakeMixUptoCard : Claim7 := { stood := { row := blakeMixUptoRow, standIns := [], harness := (true, "f25786debcc8ad7575199cded2973434089facb3ccbd55b201caa3b0db3e660c"), looks := false }, kinds := [], alts := [], laidByText := true, laidKinds := [.data, .data, .data], laidTests := true, laidLooks := .later }
def BlakeMixUptoCardSaid : Prop := Claim7.holds Tryd.pinned (.plain (OpenSpec.upto blakeMixSpec)) blakeMixUptoCard

/-- THE SECOND FORM's CARD OF 'antiphonlaw04.BlakePress'. -/
def blakePressUptoCard : Claim7 := { stood := { row := blakePressUptoRow, standIns := [], harness := (true, "f25786debcc8ad7575199cded2973434089facb3ccbd55b201caa3b0db3e660c"), looks := false }, kinds := [], alts := [], laidByText := true, laidKinds := [.data, .data, .data], laidTests := true, laidLooks := .later }
def BlakePressUptoCardSaid : Prop := Claim7.holds Tryd.pinned (.plain (OpenSpec.upto blakePressSpec)) blakePressUptoCard

/-- THE SECOND FORM's CARD OF 'antiphonlaw04.BlakeSums'. -/
def blakeSumsUptoCard : Claim7 := { stood := { row := blakeSumsUptoRow, standIns := [], harness := (true, "f25786debcc8ad7575199cded2973434089facb3ccbd55b201caa3b0db3e660c"), looks := false }, kinds := [], alts := [], laidByText := true, laidKinds := [.data, .data, .data], laidTests := true, laidLooks := .later }
def BlakeSumsUptoCardSaid : Prop := Claim7.holds Tryd.pinned (.plain (OpenSpec.upto blakeSumsSpec)) blakeSumsUptoCard

/-- THE SECOND FORM's CARD OF 'antiphonlaw04.BlakeKeyed'. -/
def blakeKeyedUptoCard : Claim7 := { stood := { row := blakeKeyedUptoRow, standIns := [], harness := (true, "f25786debcc8ad7575199cded2973434089facb3ccbd55b201caa3b0db3e660c"), looks := false }, kinds := [], alts := [], laidByText := true, laidKinds := [.data, .data, .data], laidTests := true, laidLooks := .later }
def BlakeKeyedUptoCardSaid : Prop := Claim7.holds Tryd.pinned (.plain (OpenSpec.upto blakeKeyedSpec)) blakeKeyedUptoCard

/-- THE SECOND FORM's CARD OF 'antiphonlaw04.BlakeWrites'. -/
def blakeWritesUptoCard : Claim7 := { stood := { row := blakeWritesUptoRow, standIns := [], harness := (true, "f25786debcc8ad7575199cded2973434089facb3ccbd55b201caa3b0db3e660c"), looks := false }, kinds := [], alts := [], laidByText := true, laidKinds := [.data, .data, .data], laidTests := true, laidLooks := .later }
def BlakeWritesUptoCardSaid : Prop := Claim7.holds Tryd.pinned (.plain (OpenSpec.upto blakeWritesSpec)) blakeWritesUptoCard

/-- THE SECOND FORM's CARD OF 'antiphonlaw04.BlakeCopies'. -/
def blakeCopiesUptoCard : Claim7 := { stood := { row := blakeCopiesUptoRow, standIns := [], harness := (true, "f25786debcc8ad7575199cded2973434089facb3ccbd55b201caa3b0db3e660c"), looks := false }, kinds := [], alts := [], laidByText := true, laidKinds := [.data, .data, .data], laidTests := true, laidLooks := .later }
def BlakeCopiesUptoCardSaid : Prop := Claim7.holds Tryd.pinned (.plain (OpenSpec.upto blakeCopiesSpec)) blakeCopiesUptoCard

/-- THE SECOND FORM's CARD OF 'antiphonlaw04.BlakeCuts'. -/
def blakeCutsUptoCard : Claim7 := { stood := { row := blakeCutsUptoRow, standIns := [], harness := (true, "f25786debcc8ad7575199cded2973434089facb3ccbd55b201caa3b0db3e660c"), looks := false }, kinds := [], alts := [], laidByText := true, laidKinds := [.data, .data, .data], laidTests := true, laidLooks := .later }
def BlakeCutsUptoCardSaid : Prop := Claim7.holds Tryd.pinned (.plain (OpenSpec.upto blakeCutsSpec)) blakeCutsUptoCard
end Rows
end Go.Proofs.YtfieedjcpgjphaaDoor
