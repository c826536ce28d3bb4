/-
  DERIVED. GIVEN WITH THE SEED: THE CARDS: each row of YteeponciegmlcaaDoorRows.lean that lists a variable, with what it lists TIED to the program's text (the seventh form; the later family's looks); each row that meets fmt, with fmt's text TOLD by the authors' own Lean function (tested against real Go, not proved from fmt's source: count such statements apart). THE CARD IS WHAT COUNTS. Prove the row's statement (the work); the ties are given (YteeponciegmlcaaDoorTie.lean); close each card by the builder's one call (the guide's Derived/Test/ToyasCard.lean, 'card_holds'). Laid BY PROGRAM, IN A SANDBOX (cutbox-door.mjs). By AI agents, Wed Nov 11 2026. No macro, syntax, notation, axiom, sorry.
-/
import Derived.Test.YteeponciegmlcaaDoorRows
import GoSem.ClaimSeven
namespace Go.Proofs.YteeponciegmlcaaDoor
namespace Rows

/-- THE TIED CARD OF 'antiphonlaw02.WireLays'. -/
def wireLaysCard : Claim7 := { stood := { row := wireLaysRow, standIns := [], harness := (true, "675bca0ddccf53f9a9b17e57d4caec2d4e3ace93ca7f0c2eda14b790b0b3e9db"), looks := true }, kinds := [], alts := [], laidByText := true, laidKinds := [.data], laidTests := true, laidLooks := .later }
def WireLaysCardSaid : Prop := Claim7.holds Tryd.pinned (.plain (OpenSpec.ofChange wireLaysSpec)) wireLaysCard

/-- THE TIED CARD OF 'antiphonlaw02.WireNumber'. -/
def wireNumberCard : Claim7 := { stood := { row := wireNumberRow, standIns := [], harness := (true, "675bca0ddccf53f9a9b17e57d4caec2d4e3ace93ca7f0c2eda14b790b0b3e9db"), looks := true }, kinds := [], alts := [], laidByText := true, laidKinds := [.data], laidTests := true, laidLooks := .later }
def WireNumberCardSaid : Prop := Claim7.holds Tryd.pinned (.plain (OpenSpec.ofChange wireNumberSpec)) wireNumberCard

/-- THE TIED CARD OF 'antiphonlaw02.WireReads'. -/
def wireReadsCard : Claim7 := { stood := { row := wireReadsRow, standIns := [], harness := (true, "675bca0ddccf53f9a9b17e57d4caec2d4e3ace93ca7f0c2eda14b790b0b3e9db"), looks := true }, kinds := [], alts := [], laidByText := true, laidKinds := [.data], laidTests := true, laidLooks := .later }
def WireReadsCardSaid : Prop := Claim7.holds Tryd.pinned (.plain (OpenSpec.ofChange wireReadsSpec)) wireReadsCard

/-- THE TIED CARD OF 'antiphonlaw02.WireFrames'. -/
def wireFramesCard : Claim7 := { stood := { row := wireFramesRow, standIns := [], harness := (true, "675bca0ddccf53f9a9b17e57d4caec2d4e3ace93ca7f0c2eda14b790b0b3e9db"), looks := true }, kinds := [], alts := [], laidByText := true, laidKinds := [.data], laidTests := true, laidLooks := .later }
def WireFramesCardSaid : Prop := Claim7.holds Tryd.pinned (.plain (OpenSpec.ofChange wireFramesSpec)) wireFramesCard

/-- THE TIED CARD OF 'antiphonlaw02.WireStream'. -/
def wireStreamCard : Claim7 := { stood := { row := wireStreamRow, standIns := [], harness := (true, "675bca0ddccf53f9a9b17e57d4caec2d4e3ace93ca7f0c2eda14b790b0b3e9db"), looks := true }, kinds := [], alts := [], laidByText := true, laidKinds := [.data], laidTests := true, laidLooks := .later }
def WireStreamCardSaid : Prop := Claim7.holds Tryd.pinned (.plain (OpenSpec.ofChange wireStreamSpec)) wireStreamCard

/-- THE TIED CARD OF 'antiphonlaw02.WireBent'. -/
def wireBentCard : Claim7 := { stood := { row := wireBentRow, standIns := [], harness := (true, "675bca0ddccf53f9a9b17e57d4caec2d4e3ace93ca7f0c2eda14b790b0b3e9db"), looks := true }, kinds := [], alts := [], laidByText := true, laidKinds := [.data], laidTests := true, laidLooks := .later }
def WireBentCardSaid : Prop := Claim7.holds Tryd.pinned (.plain (OpenSpec.ofChange wireBentSpec)) wireBentCard

/-- THE TIED CARD OF 'antiphonlaw02.WireBounds'. -/
def wireBoundsCard : Claim7 := { stood := { row := wireBoundsRow, standIns := [], harness := (true, "675bca0ddccf53f9a9b17e57d4caec2d4e3ace93ca7f0c2eda14b790b0b3e9db"), looks := true }, kinds := [], alts := [], laidByText := true, laidKinds := [.data], laidTests := true, laidLooks := .later }
def WireBoundsCardSaid : Prop := Claim7.holds Tryd.pinned (.plain (OpenSpec.ofChange wireBoundsSpec)) wireBoundsCard

/-- THE TIED CARD OF 'antiphonlaw02.WireBack'. -/
def wireBackCard : Claim7 := { stood := { row := wireBackRow, standIns := [], harness := (true, "675bca0ddccf53f9a9b17e57d4caec2d4e3ace93ca7f0c2eda14b790b0b3e9db"), looks := true }, kinds := [], alts := [], laidByText := true, laidKinds := [.data], laidTests := true, laidLooks := .later }
def WireBackCardSaid : Prop := Claim7.holds Tryd.pinned (.plain (OpenSpec.ofChange wireBackSpec)) wireBackCard

/-- THE SECOND FORM's CARD OF 'antiphonlaw02.WireLays'. -/
def wireLaysUptoCard : Claim7 := { stood := { row := wireLaysUptoRow, standIns := [], harness := (true, "675bca0ddccf53f9a9b17e57d4caec2d4e3ace93ca7f0c2eda14b790b0b3e9db"), looks := true }, kinds := [], alts := [], laidByText := true, laidKinds := [.data], laidTests := true, laidLooks := .later }
def WireLaysUptoCardSaid : Prop := Claim7.holds Tryd.pinned (.plain (OpenSpec.upto wireLaysSpec)) wireLaysUptoCard

/-- THE SECOND FORM's CARD OF 'antiphonlaw02.WireNumber'. -/
def wireNumberUptoCard : Claim7 := { stood := { row := wireNumberUptoRow, standIns := [], harness := (true, "675bca0ddccf53f9a9b17e57d4caec2d4e3ace93ca7f0c2eda14b790b0b3e9db"), looks := true }, kinds := [], alts := [], laidByText := true, laidKinds := [.data], laidTests := true, laidLooks := .later }
def WireNumberUptoCardSaid : Prop := Claim7.holds Tryd.pinned (.plain (OpenSpec.upto wireNumberSpec)) wireNumberUptoCard

/-- THE SECOND FORM's CARD OF 'antiphonlaw02.WireReads'. -/
def wireReadsUptoCard : Claim7 := { stood := { row := wireReadsUptoRow, standIns := [], harness := (true, "675bca0ddccf53f9a9b17e57d4caec2d4e3ace93ca7f0c2eda14b790b0b3e9db"), looks := true }, kinds := [], alts := [], laidByText := true, laidKinds := [.data], laidTests := true, laidLooks := .later }
def WireReadsUptoCardSaid : Prop := Claim7.holds Tryd.pinned (.plain (OpenSpec.upto wireReadsSpec)) wireReadsUptoCard

/-- THE SECOND FORM's CARD OF 'antiphonlaw02.WireFrames'. -/
def wireFramesUptoCard : Claim7 := { stood := { row := wireFramesUptoRow, standIns := [], harness := (true, "675bca0ddccf53f9a9b17e57d4caec2d4e3ace93ca7f0c2eda14b790b0b3e9db"), looks := true }, kinds := [], alts := [], laidByText := true, laidKinds := [.data], laidTests := true, laidLooks := .later }
def WireFramesUptoCardSaid : Prop := Claim7.holds Tryd.pinned (.plain (OpenSpec.upto wireFramesSpec)) wireFramesUptoCard

/-- THE SECOND FORM's CARD OF 'antiphonlaw02.WireStream'. -/
def wireStreamUptoCard : Claim7 := { stood := { row := wireStreamUptoRow, standIns := [], harness := (true, "675bca0ddccf53f9a9b17e57d4caec2d4e3ace93ca7f0c2eda14b790b0b3e9db"), looks := true }, kinds := [], alts := [], laidByText := true, laidKinds := [.data], laidTests := true, laidLooks := .later }
def WireStreamUptoCardSaid : Prop := Claim7.holds Tryd.pinned (.plain (OpenSpec.upto wireStreamSpec)) wireStreamUptoCard

/-- THE SECOND FORM's CARD OF 'antiphonlaw02.WireBent'. -/
def wireBentUptoCard : Claim7 := { stood := { row := wireBentUptoRow, standIns := [], harness := (true, "675bca0ddccf53f9a9b17e57d4caec2d4e3ace93ca7f0c2eda14b790b0b3e9db"), looks := true }, kinds := [], alts := [], laidByText := true, laidKinds := [.data], laidTests := true, laidLooks := .later }
def WireBentUptoCardSaid : Prop := Claim7.holds Tryd.pinned (.plain (OpenSpec.upto wireBentSpec)) wireBentUptoCard

/-- THE SECOND FORM's CARD OF 'antiphonlaw02.WireBounds'. -/
def wireBoundsUptoCard : Claim7 := { stood := { row := wireBoundsUptoRow, standIns := [], harness := (true, "675bca0ddccf53f9a9b17e57d4caec2d4e3ace93ca7f0c2eda14b790b0b3e9db"), looks := true }, kinds := [], alts := [], laidByText := true, laidKinds := [.data], laidTests := true, laidLooks := .later }
def WireBoundsUptoCardSaid : Prop := Claim7.holds Tryd.pinned (.plain (OpenSpec.upto wireBoundsSpec)) wireBoundsUptoCard

/-- THE SECOND FORM's CARD OF 'antiphonlaw02.WireBack'. -/
def wireBackUptoCard : Claim7 := { stood := { row := wireBackUptoRow, standIns := [], harness := (true, "675bca0ddccf53f9a9b17e57d4caec2d4e3ace93ca7f0c2eda14b790b0b3e9db"), looks := true }, kinds := [], alts := [], laidByText := true, laidKinds := [.data], laidTests := true, laidLooks := .later }
def WireBackUptoCardSaid : Prop := Claim7.holds Tryd.pinned (.plain (OpenSpec.upto wireBackSpec)) wireBackUptoCard
end Rows
end Go.Proofs.YteeponciegmlcaaDoor
