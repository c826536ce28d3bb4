/-
  DERIVED. GIVEN WITH THE SEED: THE CARDS: each row of YtekbojfialjblaaDoorRows.lean that lists a variable, with what it lists TIED to the program's text (the seventh form; the later family's looks); each row that meets fmt, with fmt's text TOLD by the authors' own Lean function (tested against real Go, not proved from fmt's source: count such statements apart). THE CARD IS WHAT COUNTS. Prove the row's statement (the work); the ties are given (YtekbojfialjblaaDoorTie.lean); close each card by the builder's one call (the guide's Derived/Test/ToyasCard.lean, 'card_holds'). Laid BY PROGRAM, IN A SANDBOX (cutbox-door.mjs). By AI agents, Wed Nov 11 2026. No macro, syntax, notation, axiom, sorry.
-/
import Derived.Test.YtekbojfialjblaaDoorRows
import GoSem.ClaimSeven
namespace Go.Proofs.YtekbojfialjblaaDoor
namespace Rows

/-- THE TIED CARD OF 'antiphonlaw01.SumBytes'. -/
def sumBytesCard : Claim7 := { stood := { row := sumBytesRow, standIns := [], harness := (true, "1961228ce647b4541c0b6bcaf103ec79612e552b0c5090bdb7afe85755ff7706"), looks := false }, kinds := [], alts := [], laidByText := true, laidKinds := [.data], laidTests := true, laidLooks := .later }
def SumBytesCardSaid : Prop := Claim7.holds Tryd.pinned (.plain (OpenSpec.ofChange sumBytesSpec)) sumBytesCard

/-- THE TIED CARD OF 'antiphonlaw01.SumParts'. -/
def sumPartsCard : Claim7 := { stood := { row := sumPartsRow, standIns := [], harness := (true, "1961228ce647b4541c0b6bcaf103ec79612e552b0c5090bdb7afe85755ff7706"), looks := false }, kinds := [], alts := [], laidByText := true, laidKinds := [.data], laidTests := true, laidLooks := .later }
def SumPartsCardSaid : Prop := Claim7.holds Tryd.pinned (.plain (OpenSpec.ofChange sumPartsSpec)) sumPartsCard

/-- THE TIED CARD OF 'antiphonlaw01.SumMore'. -/
def sumMoreCard : Claim7 := { stood := { row := sumMoreRow, standIns := [], harness := (true, "1961228ce647b4541c0b6bcaf103ec79612e552b0c5090bdb7afe85755ff7706"), looks := false }, kinds := [], alts := [], laidByText := true, laidKinds := [.data], laidTests := true, laidLooks := .later }
def SumMoreCardSaid : Prop := Claim7.holds Tryd.pinned (.plain (OpenSpec.ofChange sumMoreSpec)) sumMoreCard

/-- THE TIED CARD OF 'antiphonlaw01.SumMuls'. -/
def sumMulsCard : Claim7 := { stood := { row := sumMulsRow, standIns := [], harness := (true, "1961228ce647b4541c0b6bcaf103ec79612e552b0c5090bdb7afe85755ff7706"), looks := false }, kinds := [], alts := [], laidByText := true, laidKinds := [.data], laidTests := true, laidLooks := .later }
def SumMulsCardSaid : Prop := Claim7.holds Tryd.pinned (.plain (OpenSpec.ofChange sumMulsSpec)) sumMulsCard

/-- THE TIED CARD OF 'antiphonlaw01.SumPowers'. -/
def sumPowersCard : Claim7 := { stood := { row := sumPowersRow, standIns := [], harness := (true, "1961228ce647b4541c0b6bcaf103ec79612e552b0c5090bdb7afe85755ff7706"), looks := false }, kinds := [], alts := [], laidByText := true, laidKinds := [.data], laidTests := true, laidLooks := .later }
def SumPowersCardSaid : Prop := Claim7.holds Tryd.pinned (.plain (OpenSpec.ofChange sumPowersSpec)) sumPowersCard

/-- THE TIED CARD OF 'antiphonlaw01.SumSeals'. -/
def sumSealsCard : Claim7 := { stood := { row := sumSealsRow, standIns := [], harness := (true, "1961228ce647b4541c0b6bcaf103ec79612e552b0c5090bdb7afe85755ff7706"), looks := false }, kinds := [], alts := [], laidByText := true, laidKinds := [.data], laidTests := true, laidLooks := .later }
def SumSealsCardSaid : Prop := Claim7.holds Tryd.pinned (.plain (OpenSpec.ofChange sumSealsSpec)) sumSealsCard

/-- THE TIED CARD OF 'antiphonlaw01.SumOpens'. -/
def sumOpensCard : Claim7 := { stood := { row := sumOpensRow, standIns := [], harness := (true, "1961228ce647b4541c0b6bcaf103ec79612e552b0c5090bdb7afe85755ff7706"), looks := false }, kinds := [], alts := [], laidByText := true, laidKinds := [.data], laidTests := true, laidLooks := .later }
def SumOpensCardSaid : Prop := Claim7.holds Tryd.pinned (.plain (OpenSpec.ofChange sumOpensSpec)) sumOpensCard

/-- THE TIED CARD OF 'antiphonlaw01.SumFlips'. -/
def sumFlipsCard : Claim7 := { stood := { row := sumFlipsRow, standIns := [], harness := (true, "1961228ce647b4541c0b6bcaf103ec79612e552b0c5090bdb7afe85755ff7706"), looks := false }, kinds := [], alts := [], laidByText := true, laidKinds := [.data], laidTests := true, laidLooks := .later }
def SumFlipsCardSaid : Prop := Claim7.holds Tryd.pinned (.plain (OpenSpec.ofChange sumFlipsSpec)) sumFlipsCard

/-- THE TIED CARD OF 'antiphonlaw01.SumJoins'. -/
def sumJoinsCard : Claim7 := { stood := { row := sumJoinsRow, standIns := [], harness := (true, "1961228ce647b4541c0b6bcaf103ec79612e552b0c5090bdb7afe85755ff7706"), looks := false }, kinds := [], alts := [], laidByText := true, laidKinds := [.data], laidTests := true, laidLooks := .later }
def SumJoinsCardSaid : Prop := Claim7.holds Tryd.pinned (.plain (OpenSpec.ofChange sumJoinsSpec)) sumJoinsCard

/-- THE TIED CARD OF 'antiphonlaw01.SumRing'. -/
def sumRingCard : Claim7 := { stood := { row := sumRingRow, standIns := [], harness := (true, "1961228ce647b4541c0b6bcaf103ec79612e552b0c5090bdb7afe85755ff7706"), looks := false }, kinds := [], alts := [], laidByText := true, laidKinds := [.data], laidTests := true, laidLooks := .later }
def SumRingCardSaid : Prop := Claim7.holds Tryd.pinned (.plain (OpenSpec.ofChange sumRingSpec)) sumRingCard

/-- THE SECOND FORM's CARD OF 'antiphonlaw01.SumBytes'. -/
def sumBytesUptoCard : Claim7 := { stood := { row := sumBytesUptoRow, standIns := [], harness := (true, "1961228ce647b4541c0b6bcaf103ec79612e552b0c5090bdb7afe85755ff7706"), looks := false }, kinds := [], alts := [], laidByText := true, laidKinds := [.data], laidTests := true, laidLooks := .later }
def SumBytesUptoCardSaid : Prop := Claim7.holds Tryd.pinned (.plain (OpenSpec.upto sumBytesSpec)) sumBytesUptoCard

/-- THE SECOND FORM's CARD OF 'antiphonlaw01.SumParts'. -/
def sumPartsUptoCard : Claim7 := { stood := { row := sumPartsUptoRow, standIns := [], harness := (true, "1961228ce647b4541c0b6bcaf103ec79612e552b0c5090bdb7afe85755ff7706"), looks := false }, kinds := [], alts := [], laidByText := true, laidKinds := [.data], laidTests := true, laidLooks := .later }
def SumPartsUptoCardSaid : Prop := Claim7.holds Tryd.pinned (.plain (OpenSpec.upto sumPartsSpec)) sumPartsUptoCard

/-- THE SECOND FORM's CARD OF 'antiphonlaw01.SumMore'. -/
def sumMoreUptoCard : Claim7 := { stood := { row := sumMoreUptoRow, standIns := [], harness := (true, "1961228ce647b4541c0b6bcaf103ec79612e552b0c5090bdb7afe85755ff7706"), looks := false }, kinds := [], alts := [], laidByText := true, laidKinds := [.data], laidTests := true, laidLooks := .later }
def SumMoreUptoCardSaid : Prop := Claim7.holds Tryd.pinned (.plain (OpenSpec.upto sumMoreSpec)) sumMoreUptoCard

/-- THE SECOND FORM's CARD OF 'antiphonlaw01.SumMuls'. -/
def sumMulsUptoCard : Claim7 := { stood := { row := sumMulsUptoRow, standIns := [], harness := (true, "1961228ce647b4541c0b6bcaf103ec79612e552b0c5090bdb7afe85755ff7706"), looks := false }, kinds := [], alts := [], laidByText := true, laidKinds := [.data], laidTests := true, laidLooks := .later }
def SumMulsUptoCardSaid : Prop := Claim7.holds Tryd.pinned (.plain (OpenSpec.upto sumMulsSpec)) sumMulsUptoCard

/-- THE SECOND FORM's CARD OF 'antiphonlaw01.SumPowers'. -/
def sumPowersUptoCard : Claim7 := { stood := { row := sumPowersUptoRow, standIns := [], harness := (true, "1961228ce647b4541c0b6bcaf103ec79612e552b0c5090bdb7afe85755ff7706"), looks := false }, kinds := [], alts := [], laidByText := true, laidKinds := [.data], laidTests := true, laidLooks := .later }
def SumPowersUptoCardSaid : Prop := Claim7.holds Tryd.pinned (.plain (OpenSpec.upto sumPowersSpec)) sumPowersUptoCard

/-- THE SECOND FORM's CARD OF 'antiphonlaw01.SumSeals'. -/
def sumSealsUptoCard : Claim7 := { stood := { row := sumSealsUptoRow, standIns := [], harness := (true, "1961228ce647b4541c0b6bcaf103ec79612e552b0c5090bdb7afe85755ff7706"), looks := false }, kinds := [], alts := [], laidByText := true, laidKinds := [.data], laidTests := true, laidLooks := .later }
def SumSealsUptoCardSaid : Prop := Claim7.holds Tryd.pinned (.plain (OpenSpec.upto sumSealsSpec)) sumSealsUptoCard

/-- THE SECOND FORM's CARD OF 'antiphonlaw01.SumOpens'. -/
def sumOpensUptoCard : Claim7 := { stood := { row := sumOpensUptoRow, standIns := [], harness := (true, "1961228ce647b4541c0b6bcaf103ec79612e552b0c5090bdb7afe85755ff7706"), looks := false }, kinds := [], alts := [], laidByText := true, laidKinds := [.data], laidTests := true, laidLooks := .later }
def SumOpensUptoCardSaid : Prop := Claim7.holds Tryd.pinned (.plain (OpenSpec.upto sumOpensSpec)) sumOpensUptoCard

/-- THE SECOND FORM's CARD OF 'antiphonlaw01.SumFlips'. -/
def sumFlipsUptoCard : Claim7 := { stood := { row := sumFlipsUptoRow, standIns := [], harness := (true, "1961228ce647b4541c0b6bcaf103ec79612e552b0c5090bdb7afe85755ff7706"), looks := false }, kinds := [], alts := [], laidByText := true, laidKinds := [.data], laidTests := true, laidLooks := .later }
def SumFlipsUptoCardSaid : Prop := Claim7.holds Tryd.pinned (.plain (OpenSpec.upto sumFlipsSpec)) sumFlipsUptoCard

/-- THE SECOND FORM's CARD OF 'antiphonlaw01.SumJoins'. -/
def sumJoinsUptoCard : Claim7 := { stood := { row := sumJoinsUptoRow, standIns := [], harness := (true, "1961228ce647b4541c0b6bcaf103ec79612e552b0c5090bdb7afe85755ff7706"), looks := false }, kinds := [], alts := [], laidByText := true, laidKinds := [.data], laidTests := true, laidLooks := .later }
def SumJoinsUptoCardSaid : Prop := Claim7.holds Tryd.pinned (.plain (OpenSpec.upto sumJoinsSpec)) sumJoinsUptoCard

/-- THE SECOND FORM's CARD OF 'antiphonlaw01.SumRing'. -/
def sumRingUptoCard : Claim7 := { stood := { row := sumRingUptoRow, standIns := [], harness := (true, "1961228ce647b4541c0b6bcaf103ec79612e552b0c5090bdb7afe85755ff7706"), looks := false }, kinds := [], alts := [], laidByText := true, laidKinds := [.data], laidTests := true, laidLooks := .later }
def SumRingUptoCardSaid : Prop := Claim7.holds Tryd.pinned (.plain (OpenSpec.upto sumRingSpec)) sumRingUptoCard
end Rows
end Go.Proofs.YtekbojfialjblaaDoor
