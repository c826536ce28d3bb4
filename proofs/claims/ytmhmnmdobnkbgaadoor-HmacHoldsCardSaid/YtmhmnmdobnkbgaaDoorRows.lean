/-
  NARROWER THAN 'FOR EVERY INPUT', by the rows' own cells (each row's printed sentence says how): HmacTags: laid · HmacShorts: laid · HmacChecks: laid · HmacDerives: laid · HmacWrites: laid · HmacCopies: laid · HmacHolds: laid · TokenSpells: laid · TokenBounds: laid · TokenHolds: laid.
  DERIVED. THE GIVEN ROWS OF THIS SEAT. 10 by the template 'for every input the law returns true; each argument reads behind the call as it read before'; 0 by the template 'total and deterministic' (their statements: YtmhmnmdobnkbgaaDoorTotals.lean).
  GIVEN WITH THE SEED: the statements are not yours to turn. If you find one false, say at which input.
  Laid BY PROGRAM, IN A SANDBOX (cutbox-rows.mjs): the forced cells as the released guide's own fill.sh prints them over the translation 580881bc85e0e722… (all of the seat's roots in one cut). By AI agents, Wed Nov 11 2026. No macro, syntax, notation, axiom, sorry.
-/
import Derived.Test.YtmhmnmdobnkbgaaDoorChecked
import GoSem.Claim
import GoSem.ClaimJoined
import GoSem.ClaimMapViews
import Derived.JoinedTies
import Derived.KernelRfl
namespace Go.Proofs.YtmhmnmdobnkbgaaDoor
/- THE CELL 'sum', in the pinned program and in every row, IS THE sha256 OF THE DUMP (.gsa) THAT YtmhmnmdobnkbgaaDoorProg.lean LOADS. Nothing in Lean hashes anything: it is a label: what it is worth is what the hold of that sum in a sandbox is worth. -/
noncomputable def Tryd.pinned : Pinned := { name := "ytmhmnmdobnkbgaadoor", sum := "580881bc85e0e722654e7ef6c31ab73b028323919ab2828ea419db7011b7a50b", checked := Tryd.checked }
namespace Rows
def none {H : Type} : Left H := { results := [], args := [] }

/- WHAT THE LISTED PACKAGE-LEVEL VARIABLES READ AS WHEN THE CALL BEGINS. Each datum BY PROGRAM (the guide's laid-datum.mjs) off the statement by which the dump's own 'gosem.cut.vars' lays the variable. In a bare row this is a premise. The card (YtmhmnmdobnkbgaaDoorCards.lean) ties it to the program's text. -/
def laid_antiphon_blake_begin {H : Type} : DataW H := .agg [.lit (.int .u32 1779033703), .lit (.int .u32 3144134277), .lit (.int .u32 1013904242), .lit (.int .u32 2773480762), .lit (.int .u32 1359893119), .lit (.int .u32 2600822924), .lit (.int .u32 528734635), .lit (.int .u32 1541459225)]
def laid_antiphon_blake_orders {H : Type} : DataW H := .agg [.agg [.lit (.int .u8 0), .lit (.int .u8 1), .lit (.int .u8 2), .lit (.int .u8 3), .lit (.int .u8 4), .lit (.int .u8 5), .lit (.int .u8 6), .lit (.int .u8 7), .lit (.int .u8 8), .lit (.int .u8 9), .lit (.int .u8 10), .lit (.int .u8 11), .lit (.int .u8 12), .lit (.int .u8 13), .lit (.int .u8 14), .lit (.int .u8 15)], .agg [.lit (.int .u8 14), .lit (.int .u8 10), .lit (.int .u8 4), .lit (.int .u8 8), .lit (.int .u8 9), .lit (.int .u8 15), .lit (.int .u8 13), .lit (.int .u8 6), .lit (.int .u8 1), .lit (.int .u8 12), .lit (.int .u8 0), .lit (.int .u8 2), .lit (.int .u8 11), .lit (.int .u8 7), .lit (.int .u8 5), .lit (.int .u8 3)], .agg [.lit (.int .u8 11), .lit (.int .u8 8), .lit (.int .u8 12), .lit (.int .u8 0), .lit (.int .u8 5), .lit (.int .u8 2), .lit (.int .u8 15), .lit (.int .u8 13), .lit (.int .u8 10), .lit (.int .u8 14), .lit (.int .u8 3), .lit (.int .u8 6), .lit (.int .u8 7), .lit (.int .u8 1), .lit (.int .u8 9), .lit (.int .u8 4)], .agg [.lit (.int .u8 7), .lit (.int .u8 9), .lit (.int .u8 3), .lit (.int .u8 1), .lit (.int .u8 13), .lit (.int .u8 12), .lit (.int .u8 11), .lit (.int .u8 14), .lit (.int .u8 2), .lit (.int .u8 6), .lit (.int .u8 5), .lit (.int .u8 10), .lit (.int .u8 4), .lit (.int .u8 0), .lit (.int .u8 15), .lit (.int .u8 8)], .agg [.lit (.int .u8 9), .lit (.int .u8 0), .lit (.int .u8 5), .lit (.int .u8 7), .lit (.int .u8 2), .lit (.int .u8 4), .lit (.int .u8 10), .lit (.int .u8 15), .lit (.int .u8 14), .lit (.int .u8 1), .lit (.int .u8 11), .lit (.int .u8 12), .lit (.int .u8 6), .lit (.int .u8 8), .lit (.int .u8 3), .lit (.int .u8 13)], .agg [.lit (.int .u8 2), .lit (.int .u8 12), .lit (.int .u8 6), .lit (.int .u8 10), .lit (.int .u8 0), .lit (.int .u8 11), .lit (.int .u8 8), .lit (.int .u8 3), .lit (.int .u8 4), .lit (.int .u8 13), .lit (.int .u8 7), .lit (.int .u8 5), .lit (.int .u8 15), .lit (.int .u8 14), .lit (.int .u8 1), .lit (.int .u8 9)], .agg [.lit (.int .u8 12), .lit (.int .u8 5), .lit (.int .u8 1), .lit (.int .u8 15), .lit (.int .u8 14), .lit (.int .u8 13), .lit (.int .u8 4), .lit (.int .u8 10), .lit (.int .u8 0), .lit (.int .u8 7), .lit (.int .u8 6), .lit (.int .u8 3), .lit (.int .u8 9), .lit (.int .u8 2), .lit (.int .u8 8), .lit (.int .u8 11)], .agg [.lit (.int .u8 13), .lit (.int .u8 11), .lit (.int .u8 7), .lit (.int .u8 14), .lit (.int .u8 12), .lit (.int .u8 1), .lit (.int .u8 3), .lit (.int .u8 9), .lit (.int .u8 5), .lit (.int .u8 0), .lit (.int .u8 15), .lit (.int .u8 4), .lit (.int .u8 8), .lit (.int .u8 6), .lit (.int .u8 2), .lit (.int .u8 10)], .agg [.lit (.int .u8 6), .lit (.int .u8 15), .lit (.int .u8 14), .lit (.int .u8 9), .lit (.int .u8 11), .lit (.int .u8 3), .lit (.int .u8 0), .lit (.int .u8 8), .lit (.int .u8 12), .lit (.int .u8 2), .lit (.int .u8 13), .lit (.int .u8 7), .lit (.int .u8 1), .lit (.int .u8 4), .lit (.int .u8 10), .lit (.int .u8 5)], .agg [.lit (.int .u8 10), .lit (.int .u8 2), .lit (.int .u8 8), .lit (.int .u8 4), .lit (.int .u8 7), .lit (.int .u8 6), .lit (.int .u8 1), .lit (.int .u8 5), .lit (.int .u8 15), .lit (.int .u8 11), .lit (.int .u8 9), .lit (.int .u8 14), .lit (.int .u8 3), .lit (.int .u8 12), .lit (.int .u8 13), .lit (.int .u8 0)]]
def laid_antiphon_blake_mixed {H : Type} : DataW H := .agg [.agg [.lit (.int .u8 0), .lit (.int .u8 4), .lit (.int .u8 8), .lit (.int .u8 12)], .agg [.lit (.int .u8 1), .lit (.int .u8 5), .lit (.int .u8 9), .lit (.int .u8 13)], .agg [.lit (.int .u8 2), .lit (.int .u8 6), .lit (.int .u8 10), .lit (.int .u8 14)], .agg [.lit (.int .u8 3), .lit (.int .u8 7), .lit (.int .u8 11), .lit (.int .u8 15)], .agg [.lit (.int .u8 0), .lit (.int .u8 5), .lit (.int .u8 10), .lit (.int .u8 15)], .agg [.lit (.int .u8 1), .lit (.int .u8 6), .lit (.int .u8 11), .lit (.int .u8 12)], .agg [.lit (.int .u8 2), .lit (.int .u8 7), .lit (.int .u8 8), .lit (.int .u8 13)], .agg [.lit (.int .u8 3), .lit (.int .u8 4), .lit (.int .u8 9), .lit (.int .u8 14)]]

/-- 'antiphonlaw05.HmacTags': WHATEVER THE INPUT: true; the input reads as it did. -/
def hmacTagsSpec : ChangeSpec := { name := "hmacTags", fn := fun _ => fun
  | [d1, d2] => { results := [.lit (.bool true)], args := [d1, d2] }
  | _ => none }
def hmacTagsRow : OpenClaim := { program := "ytmhmnmdobnkbgaadoor", sum := "580881bc85e0e722654e7ef6c31ab73b028323919ab2828ea419db7011b7a50b", func := "antiphon/antiphonlaw05.HmacTags", spec := "hmacTags", unfollowed := true, recurses := true, named := ["antiphon/blake.begin", "antiphon/blake.orders", "antiphon/blake.mixed"], apart := false, laid := [("antiphon/blake.begin", laid_antiphon_blake_begin), ("antiphon/blake.orders", laid_antiphon_blake_orders), ("antiphon/blake.mixed", laid_antiphon_blake_mixed)] }
def HmacTagsSaid : Prop := hmacTagsRow.holds Tryd.pinned (OpenSpec.ofChange hmacTagsSpec)

/-- ITS FALSE NEIGHBOUR: 'it returns false'. Refute it at one input. -/
def hmacTagsWrong : ChangeSpec := { name := "hmacTags", fn := fun _ => fun
  | [d1, d2] => { results := [.lit (.bool false)], args := [d1, d2] }
  | _ => none }
def HmacTagsWrongFalsely : Prop := hmacTagsRow.holds Tryd.pinned (OpenSpec.ofChange hmacTagsWrong)

/-- 'antiphonlaw05.HmacShorts': WHATEVER THE INPUT: true; the input reads as it did. -/
def hmacShortsSpec : ChangeSpec := { name := "hmacShorts", fn := fun _ => fun
  | [d1, d2, d3] => { results := [.lit (.bool true)], args := [d1, d2, d3] }
  | _ => none }
def hmacShortsRow : OpenClaim := { program := "ytmhmnmdobnkbgaadoor", sum := "580881bc85e0e722654e7ef6c31ab73b028323919ab2828ea419db7011b7a50b", func := "antiphon/antiphonlaw05.HmacShorts", spec := "hmacShorts", unfollowed := true, recurses := true, named := ["antiphon/blake.begin", "antiphon/blake.orders", "antiphon/blake.mixed"], apart := false, laid := [("antiphon/blake.begin", laid_antiphon_blake_begin), ("antiphon/blake.orders", laid_antiphon_blake_orders), ("antiphon/blake.mixed", laid_antiphon_blake_mixed)] }
def HmacShortsSaid : Prop := hmacShortsRow.holds Tryd.pinned (OpenSpec.ofChange hmacShortsSpec)

/-- ITS FALSE NEIGHBOUR: 'it returns false'. Refute it at one input. -/
def hmacShortsWrong : ChangeSpec := { name := "hmacShorts", fn := fun _ => fun
  | [d1, d2, d3] => { results := [.lit (.bool false)], args := [d1, d2, d3] }
  | _ => none }
def HmacShortsWrongFalsely : Prop := hmacShortsRow.holds Tryd.pinned (OpenSpec.ofChange hmacShortsWrong)

/-- 'antiphonlaw05.HmacChecks': WHATEVER THE INPUT: true; the input reads as it did. -/
def hmacChecksSpec : ChangeSpec := { name := "hmacChecks", fn := fun _ => fun
  | [d1, d2, d3, d4, d5, d6, d7] => { results := [.lit (.bool true)], args := [d1, d2, d3, d4, d5, d6, d7] }
  | _ => none }
def hmacChecksRow : OpenClaim := { program := "ytmhmnmdobnkbgaadoor", sum := "580881bc85e0e722654e7ef6c31ab73b028323919ab2828ea419db7011b7a50b", func := "antiphon/antiphonlaw05.HmacChecks", spec := "hmacChecks", unfollowed := true, recurses := true, named := ["antiphon/blake.begin", "antiphon/blake.orders", "antiphon/blake.mixed"], apart := false, laid := [("antiphon/blake.begin", laid_antiphon_blake_begin), ("antiphon/blake.orders", laid_antiphon_blake_orders), ("antiphon/blake.mixed", laid_antiphon_blake_mixed)] }
def HmacChecksSaid : Prop := hmacChecksRow.holds Tryd.pinned (OpenSpec.ofChange hmacChecksSpec)

/-- ITS FALSE NEIGHBOUR: 'it returns false'. Refute it at one input. -/
def hmacChecksWrong : ChangeSpec := { name := "hmacChecks", fn := fun _ => fun
  | [d1, d2, d3, d4, d5, d6, d7] => { results := [.lit (.bool false)], args := [d1, d2, d3, d4, d5, d6, d7] }
  | _ => none }
def HmacChecksWrongFalsely : Prop := hmacChecksRow.holds Tryd.pinned (OpenSpec.ofChange hmacChecksWrong)

/-- 'antiphonlaw05.HmacDerives': WHATEVER THE INPUT: true; the input reads as it did. -/
def hmacDerivesSpec : ChangeSpec := { name := "hmacDerives", fn := fun _ => fun
  | [d1, d2, d3] => { results := [.lit (.bool true)], args := [d1, d2, d3] }
  | _ => none }
def hmacDerivesRow : OpenClaim := { program := "ytmhmnmdobnkbgaadoor", sum := "580881bc85e0e722654e7ef6c31ab73b028323919ab2828ea419db7011b7a50b", func := "antiphon/antiphonlaw05.HmacDerives", spec := "hmacDerives", unfollowed := true, recurses := true, named := ["antiphon/blake.begin", "antiphon/blake.orders", "antiphon/blake.mixed"], apart := false, laid := [("antiphon/blake.begin", laid_antiphon_blake_begin), ("antiphon/blake.orders", laid_antiphon_blake_orders), ("antiphon/blake.mixed", laid_antiphon_blake_mixed)] }
def HmacDerivesSaid : Prop := hmacDerivesRow.holds Tryd.pinned (OpenSpec.ofChange hmacDerivesSpec)

/-- ITS FALSE NEIGHBOUR: 'it returns false'. Refute it at one input. -/
def hmacDerivesWrong : ChangeSpec := { name := "hmacDerives", fn := fun _ => fun
  | [d1, d2, d3] => { results := [.lit (.bool false)], args := [d1, d2, d3] }
  | _ => none }
def HmacDerivesWrongFalsely : Prop := hmacDerivesRow.holds Tryd.pinned (OpenSpec.ofChange hmacDerivesWrong)

/-- 'antiphonlaw05.HmacWrites': WHATEVER THE INPUT: true; the input reads as it did. -/
def hmacWritesSpec : ChangeSpec := { name := "hmacWrites", fn := fun _ => fun
  | [d1, d2] => { results := [.lit (.bool true)], args := [d1, d2] }
  | _ => none }
def hmacWritesRow : OpenClaim := { program := "ytmhmnmdobnkbgaadoor", sum := "580881bc85e0e722654e7ef6c31ab73b028323919ab2828ea419db7011b7a50b", func := "antiphon/antiphonlaw05.HmacWrites", spec := "hmacWrites", unfollowed := true, recurses := true, named := ["antiphon/blake.begin", "antiphon/blake.orders", "antiphon/blake.mixed"], apart := false, laid := [("antiphon/blake.begin", laid_antiphon_blake_begin), ("antiphon/blake.orders", laid_antiphon_blake_orders), ("antiphon/blake.mixed", laid_antiphon_blake_mixed)] }
def HmacWritesSaid : Prop := hmacWritesRow.holds Tryd.pinned (OpenSpec.ofChange hmacWritesSpec)

/-- ITS FALSE NEIGHBOUR: 'it returns false'. Refute it at one input. -/
def hmacWritesWrong : ChangeSpec := { name := "hmacWrites", fn := fun _ => fun
  | [d1, d2] => { results := [.lit (.bool false)], args := [d1, d2] }
  | _ => none }
def HmacWritesWrongFalsely : Prop := hmacWritesRow.holds Tryd.pinned (OpenSpec.ofChange hmacWritesWrong)

/-- 'antiphonlaw05.HmacCopies': WHATEVER THE INPUT: true; the input reads as it did. -/
def hmacCopiesSpec : ChangeSpec := { name := "hmacCopies", fn := fun _ => fun
  | [d1, d2, d3, d4] => { results := [.lit (.bool true)], args := [d1, d2, d3, d4] }
  | _ => none }
def hmacCopiesRow : OpenClaim := { program := "ytmhmnmdobnkbgaadoor", sum := "580881bc85e0e722654e7ef6c31ab73b028323919ab2828ea419db7011b7a50b", func := "antiphon/antiphonlaw05.HmacCopies", spec := "hmacCopies", unfollowed := true, recurses := true, named := ["antiphon/blake.begin", "antiphon/blake.orders", "antiphon/blake.mixed"], apart := false, laid := [("antiphon/blake.begin", laid_antiphon_blake_begin), ("antiphon/blake.orders", laid_antiphon_blake_orders), ("antiphon/blake.mixed", laid_antiphon_blake_mixed)] }
def HmacCopiesSaid : Prop := hmacCopiesRow.holds Tryd.pinned (OpenSpec.ofChange hmacCopiesSpec)

/-- ITS FALSE NEIGHBOUR: 'it returns false'. Refute it at one input. -/
def hmacCopiesWrong : ChangeSpec := { name := "hmacCopies", fn := fun _ => fun
  | [d1, d2, d3, d4] => { results := [.lit (.bool false)], args := [d1, d2, d3, d4] }
  | _ => none }
def HmacCopiesWrongFalsely : Prop := hmacCopiesRow.holds Tryd.pinned (OpenSpec.ofChange hmacCopiesWrong)

/-- 'antiphonlaw05.HmacHolds': WHATEVER THE INPUT: true; the input reads as it did. -/
def hmacHoldsSpec : ChangeSpec := { name := "hmacHolds", fn := fun _ => fun
  | [d1, d2, d3, d4, d5, d6] => { results := [.lit (.bool true)], args := [d1, d2, d3, d4, d5, d6] }
  | _ => none }
def hmacHoldsRow : OpenClaim := { program := "ytmhmnmdobnkbgaadoor", sum := "580881bc85e0e722654e7ef6c31ab73b028323919ab2828ea419db7011b7a50b", func := "antiphon/antiphonlaw05.HmacHolds", spec := "hmacHolds", unfollowed := true, recurses := true, named := ["antiphon/blake.begin", "antiphon/blake.orders", "antiphon/blake.mixed"], apart := false, laid := [("antiphon/blake.begin", laid_antiphon_blake_begin), ("antiphon/blake.orders", laid_antiphon_blake_orders), ("antiphon/blake.mixed", laid_antiphon_blake_mixed)] }
def HmacHoldsSaid : Prop := hmacHoldsRow.holds Tryd.pinned (OpenSpec.ofChange hmacHoldsSpec)

/-- ITS FALSE NEIGHBOUR: 'it returns false'. Refute it at one input. -/
def hmacHoldsWrong : ChangeSpec := { name := "hmacHolds", fn := fun _ => fun
  | [d1, d2, d3, d4, d5, d6] => { results := [.lit (.bool false)], args := [d1, d2, d3, d4, d5, d6] }
  | _ => none }
def HmacHoldsWrongFalsely : Prop := hmacHoldsRow.holds Tryd.pinned (OpenSpec.ofChange hmacHoldsWrong)

/-- 'antiphonlaw06.TokenSpells': WHATEVER THE INPUT: true; the input reads as it did. -/
def tokenSpellsSpec : ChangeSpec := { name := "tokenSpells", fn := fun _ => fun
  | [d1, d2] => { results := [.lit (.bool true)], args := [d1, d2] }
  | _ => none }
def tokenSpellsRow : OpenClaim := { program := "ytmhmnmdobnkbgaadoor", sum := "580881bc85e0e722654e7ef6c31ab73b028323919ab2828ea419db7011b7a50b", func := "antiphon/antiphonlaw06.TokenSpells", spec := "tokenSpells", inPlace := ["internal/bytealg.IndexByteString"], unfollowed := true, recurses := true, named := ["antiphon/blake.begin", "antiphon/blake.orders", "antiphon/blake.mixed"], apart := false, laid := [("antiphon/blake.begin", laid_antiphon_blake_begin), ("antiphon/blake.orders", laid_antiphon_blake_orders), ("antiphon/blake.mixed", laid_antiphon_blake_mixed)] }
def TokenSpellsSaid : Prop := tokenSpellsRow.holds Tryd.pinned (OpenSpec.ofChange tokenSpellsSpec)

/-- ITS FALSE NEIGHBOUR: 'it returns false'. Refute it at one input. -/
def tokenSpellsWrong : ChangeSpec := { name := "tokenSpells", fn := fun _ => fun
  | [d1, d2] => { results := [.lit (.bool false)], args := [d1, d2] }
  | _ => none }
def TokenSpellsWrongFalsely : Prop := tokenSpellsRow.holds Tryd.pinned (OpenSpec.ofChange tokenSpellsWrong)

/-- 'antiphonlaw06.TokenBounds': WHATEVER THE INPUT: true; the input reads as it did. -/
def tokenBoundsSpec : ChangeSpec := { name := "tokenBounds", fn := fun _ => fun
  | [] => { results := [.lit (.bool true)], args := [] }
  | _ => none }
def tokenBoundsRow : OpenClaim := { program := "ytmhmnmdobnkbgaadoor", sum := "580881bc85e0e722654e7ef6c31ab73b028323919ab2828ea419db7011b7a50b", func := "antiphon/antiphonlaw06.TokenBounds", spec := "tokenBounds", inPlace := ["internal/bytealg.IndexByteString"], unfollowed := true, recurses := true, named := ["antiphon/blake.begin", "antiphon/blake.orders", "antiphon/blake.mixed"], apart := false, laid := [("antiphon/blake.begin", laid_antiphon_blake_begin), ("antiphon/blake.orders", laid_antiphon_blake_orders), ("antiphon/blake.mixed", laid_antiphon_blake_mixed)] }
def TokenBoundsSaid : Prop := tokenBoundsRow.holds Tryd.pinned (OpenSpec.ofChange tokenBoundsSpec)

/-- ITS FALSE NEIGHBOUR: 'it returns false'. Refute it at one input. -/
def tokenBoundsWrong : ChangeSpec := { name := "tokenBounds", fn := fun _ => fun
  | [] => { results := [.lit (.bool false)], args := [] }
  | _ => none }
def TokenBoundsWrongFalsely : Prop := tokenBoundsRow.holds Tryd.pinned (OpenSpec.ofChange tokenBoundsWrong)

/-- 'antiphonlaw06.TokenHolds': WHATEVER THE INPUT: true; the input reads as it did. -/
def tokenHoldsSpec : ChangeSpec := { name := "tokenHolds", fn := fun _ => fun
  | [d1, d2, d3, d4, d5, d6] => { results := [.lit (.bool true)], args := [d1, d2, d3, d4, d5, d6] }
  | _ => none }
def tokenHoldsRow : OpenClaim := { program := "ytmhmnmdobnkbgaadoor", sum := "580881bc85e0e722654e7ef6c31ab73b028323919ab2828ea419db7011b7a50b", func := "antiphon/antiphonlaw06.TokenHolds", spec := "tokenHolds", inPlace := ["internal/bytealg.IndexByteString"], unfollowed := true, recurses := true, named := ["antiphon/blake.begin", "antiphon/blake.orders", "antiphon/blake.mixed"], apart := false, laid := [("antiphon/blake.begin", laid_antiphon_blake_begin), ("antiphon/blake.orders", laid_antiphon_blake_orders), ("antiphon/blake.mixed", laid_antiphon_blake_mixed)] }
def TokenHoldsSaid : Prop := tokenHoldsRow.holds Tryd.pinned (OpenSpec.ofChange tokenHoldsSpec)

/-- ITS FALSE NEIGHBOUR: 'it returns false'. Refute it at one input. -/
def tokenHoldsWrong : ChangeSpec := { name := "tokenHolds", fn := fun _ => fun
  | [d1, d2, d3, d4, d5, d6] => { results := [.lit (.bool false)], args := [d1, d2, d3, d4, d5, d6] }
  | _ => none }
def TokenHoldsWrongFalsely : Prop := tokenHoldsRow.holds Tryd.pinned (OpenSpec.ofChange tokenHoldsWrong)

/- THE SECOND FORM. 'bulk': how many values and letters a reading holds, each counted each time it is reached (what is shared counts as often as it is met; a slice's spare places count too). A statement '..UptoSaid' is the law's where the arguments, and the package variables that the reading takes, are together of bulk at most 1048576: NARROWER than '..Said'. Prove '..Said' where nothing that the law and all that it calls make is longer than what came in: it says more and counts as full. Else prove '..UptoSaid'. A law counts once. -/
mutual
def uptoBulk {H : Type} : DataW H → Nat
  | .lit (.string bytes) => bytes.length + 1
  | .lit _ => 1
  | .nil => 1
  | .ptr d => uptoBulk d + 1
  | .slice elems spare => uptoBulkAll elems + uptoBulkAll spare + 1
  | .agg parts => uptoBulkAll parts + 1
  | .iface _ d => uptoBulk d + 1
  | .map entries => uptoBulkEntries entries + 1
  | .held _ => 1
def uptoBulkAll {H : Type} : List (DataW H) → Nat
  | [] => 0
  | d :: r => uptoBulk d + uptoBulkAll r
def uptoBulkEntries {H : Type} : List (Lit × DataW H) → Nat
  | [] => 0
  | x :: r => uptoBulkEntry x + uptoBulkEntries r
def uptoBulkEntry {H : Type} : Lit × DataW H → Nat
  | (.string bytes, d) => bytes.length + uptoBulk d + 1
  | (_, d) => uptoBulk d + 1
 end
def uptoSmall : (H : Type) → List (DataW H) → Bool := fun _ ds => decide (uptoBulkAll ds ≤ 1048576)
def OpenSpec.upto (s : _root_.Go.ChangeSpec) : _root_.Go.OpenSpec := { _root_.Go.OpenSpec.ofChange s with cond := some uptoSmall }

/-- 'antiphonlaw05.HmacTags', WHERE WHAT IT READS IS OF BULK AT MOST 1048576: true; the input reads as it did. -/
def hmacTagsUptoRow : OpenClaim := { program := "ytmhmnmdobnkbgaadoor", sum := "580881bc85e0e722654e7ef6c31ab73b028323919ab2828ea419db7011b7a50b", func := "antiphon/antiphonlaw05.HmacTags", spec := "hmacTags", unfollowed := true, recurses := true, named := ["antiphon/blake.begin", "antiphon/blake.orders", "antiphon/blake.mixed"], apart := false, laid := [("antiphon/blake.begin", laid_antiphon_blake_begin), ("antiphon/blake.orders", laid_antiphon_blake_orders), ("antiphon/blake.mixed", laid_antiphon_blake_mixed)], narrowed := true }
def HmacTagsUptoSaid : Prop := hmacTagsUptoRow.holds Tryd.pinned (OpenSpec.upto hmacTagsSpec)

/-- 'antiphonlaw05.HmacShorts', WHERE WHAT IT READS IS OF BULK AT MOST 1048576: true; the input reads as it did. -/
def hmacShortsUptoRow : OpenClaim := { program := "ytmhmnmdobnkbgaadoor", sum := "580881bc85e0e722654e7ef6c31ab73b028323919ab2828ea419db7011b7a50b", func := "antiphon/antiphonlaw05.HmacShorts", spec := "hmacShorts", unfollowed := true, recurses := true, named := ["antiphon/blake.begin", "antiphon/blake.orders", "antiphon/blake.mixed"], apart := false, laid := [("antiphon/blake.begin", laid_antiphon_blake_begin), ("antiphon/blake.orders", laid_antiphon_blake_orders), ("antiphon/blake.mixed", laid_antiphon_blake_mixed)], narrowed := true }
def HmacShortsUptoSaid : Prop := hmacShortsUptoRow.holds Tryd.pinned (OpenSpec.upto hmacShortsSpec)

/-- 'antiphonlaw05.HmacChecks', WHERE WHAT IT READS IS OF BULK AT MOST 1048576: true; the input reads as it did. -/
def hmacChecksUptoRow : OpenClaim := { program := "ytmhmnmdobnkbgaadoor", sum := "580881bc85e0e722654e7ef6c31ab73b028323919ab2828ea419db7011b7a50b", func := "antiphon/antiphonlaw05.HmacChecks", spec := "hmacChecks", unfollowed := true, recurses := true, named := ["antiphon/blake.begin", "antiphon/blake.orders", "antiphon/blake.mixed"], apart := false, laid := [("antiphon/blake.begin", laid_antiphon_blake_begin), ("antiphon/blake.orders", laid_antiphon_blake_orders), ("antiphon/blake.mixed", laid_antiphon_blake_mixed)], narrowed := true }
def HmacChecksUptoSaid : Prop := hmacChecksUptoRow.holds Tryd.pinned (OpenSpec.upto hmacChecksSpec)

/-- 'antiphonlaw05.HmacDerives', WHERE WHAT IT READS IS OF BULK AT MOST 1048576: true; the input reads as it did. -/
def hmacDerivesUptoRow : OpenClaim := { program := "ytmhmnmdobnkbgaadoor", sum := "580881bc85e0e722654e7ef6c31ab73b028323919ab2828ea419db7011b7a50b", func := "antiphon/antiphonlaw05.HmacDerives", spec := "hmacDerives", unfollowed := true, recurses := true, named := ["antiphon/blake.begin", "antiphon/blake.orders", "antiphon/blake.mixed"], apart := false, laid := [("antiphon/blake.begin", laid_antiphon_blake_begin), ("antiphon/blake.orders", laid_antiphon_blake_orders), ("antiphon/blake.mixed", laid_antiphon_blake_mixed)], narrowed := true }
def HmacDerivesUptoSaid : Prop := hmacDerivesUptoRow.holds Tryd.pinned (OpenSpec.upto hmacDerivesSpec)

/-- 'antiphonlaw05.HmacWrites', WHERE WHAT IT READS IS OF BULK AT MOST 1048576: true; the input reads as it did. -/
def hmacWritesUptoRow : OpenClaim := { program := "ytmhmnmdobnkbgaadoor", sum := "580881bc85e0e722654e7ef6c31ab73b028323919ab2828ea419db7011b7a50b", func := "antiphon/antiphonlaw05.HmacWrites", spec := "hmacWrites", unfollowed := true, recurses := true, named := ["antiphon/blake.begin", "antiphon/blake.orders", "antiphon/blake.mixed"], apart := false, laid := [("antiphon/blake.begin", laid_antiphon_blake_begin), ("antiphon/blake.orders", laid_antiphon_blake_orders), ("antiphon/blake.mixed", laid_antiphon_blake_mixed)], narrowed := true }
def HmacWritesUptoSaid : Prop := hmacWritesUptoRow.holds Tryd.pinned (OpenSpec.upto hmacWritesSpec)

/-- 'antiphonlaw05.HmacCopies', WHERE WHAT IT READS IS OF BULK AT MOST 1048576: true; the input reads as it did. -/
def hmacCopiesUptoRow : OpenClaim := { program := "ytmhmnmdobnkbgaadoor", sum := "580881bc85e0e722654e7ef6c31ab73b028323919ab2828ea419db7011b7a50b", func := "antiphon/antiphonlaw05.HmacCopies", spec := "hmacCopies", unfollowed := true, recurses := true, named := ["antiphon/blake.begin", "antiphon/blake.orders", "antiphon/blake.mixed"], apart := false, laid := [("antiphon/blake.begin", laid_antiphon_blake_begin), ("antiphon/blake.orders", laid_antiphon_blake_orders), ("antiphon/blake.mixed", laid_antiphon_blake_mixed)], narrowed := true }
def HmacCopiesUptoSaid : Prop := hmacCopiesUptoRow.holds Tryd.pinned (OpenSpec.upto hmacCopiesSpec)

/-- 'antiphonlaw05.HmacHolds', WHERE WHAT IT READS IS OF BULK AT MOST 1048576: true; the input reads as it did. -/
def hmacHoldsUptoRow : OpenClaim := { program := "ytmhmnmdobnkbgaadoor", sum := "580881bc85e0e722654e7ef6c31ab73b028323919ab2828ea419db7011b7a50b", func := "antiphon/antiphonlaw05.HmacHolds", spec := "hmacHolds", unfollowed := true, recurses := true, named := ["antiphon/blake.begin", "antiphon/blake.orders", "antiphon/blake.mixed"], apart := false, laid := [("antiphon/blake.begin", laid_antiphon_blake_begin), ("antiphon/blake.orders", laid_antiphon_blake_orders), ("antiphon/blake.mixed", laid_antiphon_blake_mixed)], narrowed := true }
def HmacHoldsUptoSaid : Prop := hmacHoldsUptoRow.holds Tryd.pinned (OpenSpec.upto hmacHoldsSpec)

/-- 'antiphonlaw06.TokenSpells', WHERE WHAT IT READS IS OF BULK AT MOST 1048576: true; the input reads as it did. -/
def tokenSpellsUptoRow : OpenClaim := { program := "ytmhmnmdobnkbgaadoor", sum := "580881bc85e0e722654e7ef6c31ab73b028323919ab2828ea419db7011b7a50b", func := "antiphon/antiphonlaw06.TokenSpells", spec := "tokenSpells", inPlace := ["internal/bytealg.IndexByteString"], unfollowed := true, recurses := true, named := ["antiphon/blake.begin", "antiphon/blake.orders", "antiphon/blake.mixed"], apart := false, laid := [("antiphon/blake.begin", laid_antiphon_blake_begin), ("antiphon/blake.orders", laid_antiphon_blake_orders), ("antiphon/blake.mixed", laid_antiphon_blake_mixed)], narrowed := true }
def TokenSpellsUptoSaid : Prop := tokenSpellsUptoRow.holds Tryd.pinned (OpenSpec.upto tokenSpellsSpec)

/-- 'antiphonlaw06.TokenBounds', WHERE WHAT IT READS IS OF BULK AT MOST 1048576: true; the input reads as it did. -/
def tokenBoundsUptoRow : OpenClaim := { program := "ytmhmnmdobnkbgaadoor", sum := "580881bc85e0e722654e7ef6c31ab73b028323919ab2828ea419db7011b7a50b", func := "antiphon/antiphonlaw06.TokenBounds", spec := "tokenBounds", inPlace := ["internal/bytealg.IndexByteString"], unfollowed := true, recurses := true, named := ["antiphon/blake.begin", "antiphon/blake.orders", "antiphon/blake.mixed"], apart := false, laid := [("antiphon/blake.begin", laid_antiphon_blake_begin), ("antiphon/blake.orders", laid_antiphon_blake_orders), ("antiphon/blake.mixed", laid_antiphon_blake_mixed)], narrowed := true }
def TokenBoundsUptoSaid : Prop := tokenBoundsUptoRow.holds Tryd.pinned (OpenSpec.upto tokenBoundsSpec)

/-- 'antiphonlaw06.TokenHolds', WHERE WHAT IT READS IS OF BULK AT MOST 1048576: true; the input reads as it did. -/
def tokenHoldsUptoRow : OpenClaim := { program := "ytmhmnmdobnkbgaadoor", sum := "580881bc85e0e722654e7ef6c31ab73b028323919ab2828ea419db7011b7a50b", func := "antiphon/antiphonlaw06.TokenHolds", spec := "tokenHolds", inPlace := ["internal/bytealg.IndexByteString"], unfollowed := true, recurses := true, named := ["antiphon/blake.begin", "antiphon/blake.orders", "antiphon/blake.mixed"], apart := false, laid := [("antiphon/blake.begin", laid_antiphon_blake_begin), ("antiphon/blake.orders", laid_antiphon_blake_orders), ("antiphon/blake.mixed", laid_antiphon_blake_mixed)], narrowed := true }
def TokenHoldsUptoSaid : Prop := tokenHoldsUptoRow.holds Tryd.pinned (OpenSpec.upto tokenHoldsSpec)

end Rows
end Go.Proofs.YtmhmnmdobnkbgaaDoor
