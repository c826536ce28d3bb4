/-
  NARROWER THAN 'FOR EVERY INPUT', by the rows' own cells (each row's printed sentence says how): BlakePress: laid · BlakeSums: laid · BlakeKeyed: laid · BlakeWrites: laid · BlakeCopies: laid · HmacTags: laid · HmacShorts: laid · HmacChecks: laid · HmacDerives: laid · HmacWrites: laid · HmacCopies: laid · HmacHolds: laid.
  DERIVED. THE GIVEN ROWS OF THIS SEAT. 12 by the template 'for every input the law returns true; each argument reads behind the call as it read before'; 0 by the template 'total and deterministic' (their statements: YtdpcgfaknbfmmaaDoorTotals.lean).
  GIVEN WITH THE SEED: the statements are not yours to turn. If you find one false, say at which input.
  Laid BY PROGRAM, IN A SANDBOX (cutbox-rows.mjs): the forced cells as the released guide's own fill.sh prints them over the translation 22a89636b43c2d6c… (all of the seat's roots in one cut). By AI agents, Wed Nov 11 2026. No macro, syntax, notation, axiom, sorry.
-/
import Derived.Test.YtdpcgfaknbfmmaaDoorChecked
import GoSem.Claim
import GoSem.ClaimJoined
import GoSem.ClaimMapViews
import Derived.JoinedTies
import Derived.KernelRfl
namespace Go.Proofs.YtdpcgfaknbfmmaaDoor
/- THE CELL 'sum', in the pinned program and in every row, IS THE sha256 OF THE DUMP (.gsa) THAT YtdpcgfaknbfmmaaDoorProg.lean LOADS. Nothing in Lean hashes anything: it is a label: what it is worth is what the hold of that sum in a sandbox is worth. -/
noncomputable def Tryd.pinned : Pinned := { name := "ytdpcgfaknbfmmaadoor", sum := "22a89636b43c2d6c91788ca4bc0097127825023cdfc3b62199dc843e58dc2e35", checked := Tryd.checked }
namespace Rows
def none {H : Type} : Left H := { results := [], args := [] }

/- WHAT THE LISTED PACKAGE-LEVEL VARIABLES READ AS WHEN THE CALL BEGINS. Each datum BY PROGRAM (the guide's laid-datum.mjs) off the statement by which the dump's own 'gosem.cut.vars' lays the variable. In a bare row this is a premise. The card (YtdpcgfaknbfmmaaDoorCards.lean) ties it to the program's text. -/
def laid_antiphon_blake_begin {H : Type} : DataW H := .agg [.lit (.int .u32 1779033703), .lit (.int .u32 3144134277), .lit (.int .u32 1013904242), .lit (.int .u32 2773480762), .lit (.int .u32 1359893119), .lit (.int .u32 2600822924), .lit (.int .u32 528734635), .lit (.int .u32 1541459225)]
def laid_antiphon_blake_orders {H : Type} : DataW H := .agg [.agg [.lit (.int .u8 0), .lit (.int .u8 1), .lit (.int .u8 2), .lit (.int .u8 3), .lit (.int .u8 4), .lit (.int .u8 5), .lit (.int .u8 6), .lit (.int .u8 7), .lit (.int .u8 8), .lit (.int .u8 9), .lit (.int .u8 10), .lit (.int .u8 11), .lit (.int .u8 12), .lit (.int .u8 13), .lit (.int .u8 14), .lit (.int .u8 15)], .agg [.lit (.int .u8 14), .lit (.int .u8 10), .lit (.int .u8 4), .lit (.int .u8 8), .lit (.int .u8 9), .lit (.int .u8 15), .lit (.int .u8 13), .lit (.int .u8 6), .lit (.int .u8 1), .lit (.int .u8 12), .lit (.int .u8 0), .lit (.int .u8 2), .lit (.int .u8 11), .lit (.int .u8 7), .lit (.int .u8 5), .lit (.int .u8 3)], .agg [.lit (.int .u8 11), .lit (.int .u8 8), .lit (.int .u8 12), .lit (.int .u8 0), .lit (.int .u8 5), .lit (.int .u8 2), .lit (.int .u8 15), .lit (.int .u8 13), .lit (.int .u8 10), .lit (.int .u8 14), .lit (.int .u8 3), .lit (.int .u8 6), .lit (.int .u8 7), .lit (.int .u8 1), .lit (.int .u8 9), .lit (.int .u8 4)], .agg [.lit (.int .u8 7), .lit (.int .u8 9), .lit (.int .u8 3), .lit (.int .u8 1), .lit (.int .u8 13), .lit (.int .u8 12), .lit (.int .u8 11), .lit (.int .u8 14), .lit (.int .u8 2), .lit (.int .u8 6), .lit (.int .u8 5), .lit (.int .u8 10), .lit (.int .u8 4), .lit (.int .u8 0), .lit (.int .u8 15), .lit (.int .u8 8)], .agg [.lit (.int .u8 9), .lit (.int .u8 0), .lit (.int .u8 5), .lit (.int .u8 7), .lit (.int .u8 2), .lit (.int .u8 4), .lit (.int .u8 10), .lit (.int .u8 15), .lit (.int .u8 14), .lit (.int .u8 1), .lit (.int .u8 11), .lit (.int .u8 12), .lit (.int .u8 6), .lit (.int .u8 8), .lit (.int .u8 3), .lit (.int .u8 13)], .agg [.lit (.int .u8 2), .lit (.int .u8 12), .lit (.int .u8 6), .lit (.int .u8 10), .lit (.int .u8 0), .lit (.int .u8 11), .lit (.int .u8 8), .lit (.int .u8 3), .lit (.int .u8 4), .lit (.int .u8 13), .lit (.int .u8 7), .lit (.int .u8 5), .lit (.int .u8 15), .lit (.int .u8 14), .lit (.int .u8 1), .lit (.int .u8 9)], .agg [.lit (.int .u8 12), .lit (.int .u8 5), .lit (.int .u8 1), .lit (.int .u8 15), .lit (.int .u8 14), .lit (.int .u8 13), .lit (.int .u8 4), .lit (.int .u8 10), .lit (.int .u8 0), .lit (.int .u8 7), .lit (.int .u8 6), .lit (.int .u8 3), .lit (.int .u8 9), .lit (.int .u8 2), .lit (.int .u8 8), .lit (.int .u8 11)], .agg [.lit (.int .u8 13), .lit (.int .u8 11), .lit (.int .u8 7), .lit (.int .u8 14), .lit (.int .u8 12), .lit (.int .u8 1), .lit (.int .u8 3), .lit (.int .u8 9), .lit (.int .u8 5), .lit (.int .u8 0), .lit (.int .u8 15), .lit (.int .u8 4), .lit (.int .u8 8), .lit (.int .u8 6), .lit (.int .u8 2), .lit (.int .u8 10)], .agg [.lit (.int .u8 6), .lit (.int .u8 15), .lit (.int .u8 14), .lit (.int .u8 9), .lit (.int .u8 11), .lit (.int .u8 3), .lit (.int .u8 0), .lit (.int .u8 8), .lit (.int .u8 12), .lit (.int .u8 2), .lit (.int .u8 13), .lit (.int .u8 7), .lit (.int .u8 1), .lit (.int .u8 4), .lit (.int .u8 10), .lit (.int .u8 5)], .agg [.lit (.int .u8 10), .lit (.int .u8 2), .lit (.int .u8 8), .lit (.int .u8 4), .lit (.int .u8 7), .lit (.int .u8 6), .lit (.int .u8 1), .lit (.int .u8 5), .lit (.int .u8 15), .lit (.int .u8 11), .lit (.int .u8 9), .lit (.int .u8 14), .lit (.int .u8 3), .lit (.int .u8 12), .lit (.int .u8 13), .lit (.int .u8 0)]]
def laid_antiphon_blake_mixed {H : Type} : DataW H := .agg [.agg [.lit (.int .u8 0), .lit (.int .u8 4), .lit (.int .u8 8), .lit (.int .u8 12)], .agg [.lit (.int .u8 1), .lit (.int .u8 5), .lit (.int .u8 9), .lit (.int .u8 13)], .agg [.lit (.int .u8 2), .lit (.int .u8 6), .lit (.int .u8 10), .lit (.int .u8 14)], .agg [.lit (.int .u8 3), .lit (.int .u8 7), .lit (.int .u8 11), .lit (.int .u8 15)], .agg [.lit (.int .u8 0), .lit (.int .u8 5), .lit (.int .u8 10), .lit (.int .u8 15)], .agg [.lit (.int .u8 1), .lit (.int .u8 6), .lit (.int .u8 11), .lit (.int .u8 12)], .agg [.lit (.int .u8 2), .lit (.int .u8 7), .lit (.int .u8 8), .lit (.int .u8 13)], .agg [.lit (.int .u8 3), .lit (.int .u8 4), .lit (.int .u8 9), .lit (.int .u8 14)]]

/-- 'antiphonlaw04.BlakePress': WHATEVER THE INPUT: true; the input reads as it did. -/
def blakePressSpec : ChangeSpec := { name := "blakePress", fn := fun _ => fun
  | [d1, d2, d3, d4] => { results := [.lit (.bool true)], args := [d1, d2, d3, d4] }
  | _ => none }
def blakePressRow : OpenClaim := { program := "ytdpcgfaknbfmmaadoor", sum := "22a89636b43c2d6c91788ca4bc0097127825023cdfc3b62199dc843e58dc2e35", func := "antiphon/antiphonlaw04.BlakePress", spec := "blakePress", unfollowed := true, recurses := true, named := ["antiphon/blake.begin", "antiphon/blake.orders", "antiphon/blake.mixed"], apart := false, laid := [("antiphon/blake.begin", laid_antiphon_blake_begin), ("antiphon/blake.orders", laid_antiphon_blake_orders), ("antiphon/blake.mixed", laid_antiphon_blake_mixed)] }
def BlakePressSaid : Prop := blakePressRow.holds Tryd.pinned (OpenSpec.ofChange blakePressSpec)

/-- ITS FALSE NEIGHBOUR: 'it returns false'. Refute it at one input. -/
def blakePressWrong : ChangeSpec := { name := "blakePress", fn := fun _ => fun
  | [d1, d2, d3, d4] => { results := [.lit (.bool false)], args := [d1, d2, d3, d4] }
  | _ => none }
def BlakePressWrongFalsely : Prop := blakePressRow.holds Tryd.pinned (OpenSpec.ofChange blakePressWrong)

/-- 'antiphonlaw04.BlakeSums': WHATEVER THE INPUT: true; the input reads as it did. -/
def blakeSumsSpec : ChangeSpec := { name := "blakeSums", fn := fun _ => fun
  | [d] => { results := [.lit (.bool true)], args := [d] }
  | _ => none }
def blakeSumsRow : OpenClaim := { program := "ytdpcgfaknbfmmaadoor", sum := "22a89636b43c2d6c91788ca4bc0097127825023cdfc3b62199dc843e58dc2e35", func := "antiphon/antiphonlaw04.BlakeSums", spec := "blakeSums", unfollowed := true, recurses := true, named := ["antiphon/blake.begin", "antiphon/blake.orders", "antiphon/blake.mixed"], apart := false, laid := [("antiphon/blake.begin", laid_antiphon_blake_begin), ("antiphon/blake.orders", laid_antiphon_blake_orders), ("antiphon/blake.mixed", laid_antiphon_blake_mixed)] }
def BlakeSumsSaid : Prop := blakeSumsRow.holds Tryd.pinned (OpenSpec.ofChange blakeSumsSpec)

/-- ITS FALSE NEIGHBOUR: 'it returns false'. Refute it at one input. -/
def blakeSumsWrong : ChangeSpec := { name := "blakeSums", fn := fun _ => fun
  | [d] => { results := [.lit (.bool false)], args := [d] }
  | _ => none }
def BlakeSumsWrongFalsely : Prop := blakeSumsRow.holds Tryd.pinned (OpenSpec.ofChange blakeSumsWrong)

/-- 'antiphonlaw04.BlakeKeyed': WHATEVER THE INPUT: true; the input reads as it did. -/
def blakeKeyedSpec : ChangeSpec := { name := "blakeKeyed", fn := fun _ => fun
  | [d1, d2, d3] => { results := [.lit (.bool true)], args := [d1, d2, d3] }
  | _ => none }
def blakeKeyedRow : OpenClaim := { program := "ytdpcgfaknbfmmaadoor", sum := "22a89636b43c2d6c91788ca4bc0097127825023cdfc3b62199dc843e58dc2e35", func := "antiphon/antiphonlaw04.BlakeKeyed", spec := "blakeKeyed", unfollowed := true, recurses := true, named := ["antiphon/blake.begin", "antiphon/blake.orders", "antiphon/blake.mixed"], apart := false, laid := [("antiphon/blake.begin", laid_antiphon_blake_begin), ("antiphon/blake.orders", laid_antiphon_blake_orders), ("antiphon/blake.mixed", laid_antiphon_blake_mixed)] }
def BlakeKeyedSaid : Prop := blakeKeyedRow.holds Tryd.pinned (OpenSpec.ofChange blakeKeyedSpec)

/-- ITS FALSE NEIGHBOUR: 'it returns false'. Refute it at one input. -/
def blakeKeyedWrong : ChangeSpec := { name := "blakeKeyed", fn := fun _ => fun
  | [d1, d2, d3] => { results := [.lit (.bool false)], args := [d1, d2, d3] }
  | _ => none }
def BlakeKeyedWrongFalsely : Prop := blakeKeyedRow.holds Tryd.pinned (OpenSpec.ofChange blakeKeyedWrong)

/-- 'antiphonlaw04.BlakeWrites': WHATEVER THE INPUT: true; the input reads as it did. -/
def blakeWritesSpec : ChangeSpec := { name := "blakeWrites", fn := fun _ => fun
  | [d1, d2, d3] => { results := [.lit (.bool true)], args := [d1, d2, d3] }
  | _ => none }
def blakeWritesRow : OpenClaim := { program := "ytdpcgfaknbfmmaadoor", sum := "22a89636b43c2d6c91788ca4bc0097127825023cdfc3b62199dc843e58dc2e35", func := "antiphon/antiphonlaw04.BlakeWrites", spec := "blakeWrites", unfollowed := true, recurses := true, named := ["antiphon/blake.begin", "antiphon/blake.orders", "antiphon/blake.mixed"], apart := false, laid := [("antiphon/blake.begin", laid_antiphon_blake_begin), ("antiphon/blake.orders", laid_antiphon_blake_orders), ("antiphon/blake.mixed", laid_antiphon_blake_mixed)] }
def BlakeWritesSaid : Prop := blakeWritesRow.holds Tryd.pinned (OpenSpec.ofChange blakeWritesSpec)

/-- ITS FALSE NEIGHBOUR: 'it returns false'. Refute it at one input. -/
def blakeWritesWrong : ChangeSpec := { name := "blakeWrites", fn := fun _ => fun
  | [d1, d2, d3] => { results := [.lit (.bool false)], args := [d1, d2, d3] }
  | _ => none }
def BlakeWritesWrongFalsely : Prop := blakeWritesRow.holds Tryd.pinned (OpenSpec.ofChange blakeWritesWrong)

/-- 'antiphonlaw04.BlakeCopies': WHATEVER THE INPUT: true; the input reads as it did. -/
def blakeCopiesSpec : ChangeSpec := { name := "blakeCopies", fn := fun _ => fun
  | [d1, d2, d3, d4, d5] => { results := [.lit (.bool true)], args := [d1, d2, d3, d4, d5] }
  | _ => none }
def blakeCopiesRow : OpenClaim := { program := "ytdpcgfaknbfmmaadoor", sum := "22a89636b43c2d6c91788ca4bc0097127825023cdfc3b62199dc843e58dc2e35", func := "antiphon/antiphonlaw04.BlakeCopies", spec := "blakeCopies", unfollowed := true, recurses := true, named := ["antiphon/blake.begin", "antiphon/blake.orders", "antiphon/blake.mixed"], apart := false, laid := [("antiphon/blake.begin", laid_antiphon_blake_begin), ("antiphon/blake.orders", laid_antiphon_blake_orders), ("antiphon/blake.mixed", laid_antiphon_blake_mixed)] }
def BlakeCopiesSaid : Prop := blakeCopiesRow.holds Tryd.pinned (OpenSpec.ofChange blakeCopiesSpec)

/-- ITS FALSE NEIGHBOUR: 'it returns false'. Refute it at one input. -/
def blakeCopiesWrong : ChangeSpec := { name := "blakeCopies", fn := fun _ => fun
  | [d1, d2, d3, d4, d5] => { results := [.lit (.bool false)], args := [d1, d2, d3, d4, d5] }
  | _ => none }
def BlakeCopiesWrongFalsely : Prop := blakeCopiesRow.holds Tryd.pinned (OpenSpec.ofChange blakeCopiesWrong)

/-- 'antiphonlaw05.HmacTags': WHATEVER THE INPUT: true; the input reads as it did. -/
def hmacTagsSpec : ChangeSpec := { name := "hmacTags", fn := fun _ => fun
  | [d1, d2] => { results := [.lit (.bool true)], args := [d1, d2] }
  | _ => none }
def hmacTagsRow : OpenClaim := { program := "ytdpcgfaknbfmmaadoor", sum := "22a89636b43c2d6c91788ca4bc0097127825023cdfc3b62199dc843e58dc2e35", func := "antiphon/antiphonlaw05.HmacTags", spec := "hmacTags", unfollowed := true, recurses := true, named := ["antiphon/blake.begin", "antiphon/blake.orders", "antiphon/blake.mixed"], apart := false, laid := [("antiphon/blake.begin", laid_antiphon_blake_begin), ("antiphon/blake.orders", laid_antiphon_blake_orders), ("antiphon/blake.mixed", laid_antiphon_blake_mixed)] }
def HmacTagsSaid : Prop := hmacTagsRow.holds Tryd.pinned (OpenSpec.ofChange hmacTagsSpec)

/-- ITS FALSE NEIGHBOUR: 'it returns false'. Refute it at one input. -/
def hmacTagsWrong : ChangeSpec := { name := "hmacTags", fn := fun _ => fun
  | [d1, d2] => { results := [.lit (.bool false)], args := [d1, d2] }
  | _ => none }
def HmacTagsWrongFalsely : Prop := hmacTagsRow.holds Tryd.pinned (OpenSpec.ofChange hmacTagsWrong)

/-- 'antiphonlaw05.HmacShorts': WHATEVER THE INPUT: true; the input reads as it did. -/
def hmacShortsSpec : ChangeSpec := { name := "hmacShorts", fn := fun _ => fun
  | [d1, d2, d3] => { results := [.lit (.bool true)], args := [d1, d2, d3] }
  | _ => none }
def hmacShortsRow : OpenClaim := { program := "ytdpcgfaknbfmmaadoor", sum := "22a89636b43c2d6c91788ca4bc0097127825023cdfc3b62199dc843e58dc2e35", func := "antiphon/antiphonlaw05.HmacShorts", spec := "hmacShorts", unfollowed := true, recurses := true, named := ["antiphon/blake.begin", "antiphon/blake.orders", "antiphon/blake.mixed"], apart := false, laid := [("antiphon/blake.begin", laid_antiphon_blake_begin), ("antiphon/blake.orders", laid_antiphon_blake_orders), ("antiphon/blake.mixed", laid_antiphon_blake_mixed)] }
def HmacShortsSaid : Prop := hmacShortsRow.holds Tryd.pinned (OpenSpec.ofChange hmacShortsSpec)

/-- ITS FALSE NEIGHBOUR: 'it returns false'. Refute it at one input. -/
def hmacShortsWrong : ChangeSpec := { name := "hmacShorts", fn := fun _ => fun
  | [d1, d2, d3] => { results := [.lit (.bool false)], args := [d1, d2, d3] }
  | _ => none }
def HmacShortsWrongFalsely : Prop := hmacShortsRow.holds Tryd.pinned (OpenSpec.ofChange hmacShortsWrong)

/-- 'antiphonlaw05.HmacChecks': WHATEVER THE INPUT: true; the input reads as it did. -/
def hmacChecksSpec : ChangeSpec := { name := "hmacChecks", fn := fun _ => fun
  | [d1, d2, d3, d4, d5, d6, d7] => { results := [.lit (.bool true)], args := [d1, d2, d3, d4, d5, d6, d7] }
  | _ => none }
def hmacChecksRow : OpenClaim := { program := "ytdpcgfaknbfmmaadoor", sum := "22a89636b43c2d6c91788ca4bc0097127825023cdfc3b62199dc843e58dc2e35", func := "antiphon/antiphonlaw05.HmacChecks", spec := "hmacChecks", unfollowed := true, recurses := true, named := ["antiphon/blake.begin", "antiphon/blake.orders", "antiphon/blake.mixed"], apart := false, laid := [("antiphon/blake.begin", laid_antiphon_blake_begin), ("antiphon/blake.orders", laid_antiphon_blake_orders), ("antiphon/blake.mixed", laid_antiphon_blake_mixed)] }
def HmacChecksSaid : Prop := hmacChecksRow.holds Tryd.pinned (OpenSpec.ofChange hmacChecksSpec)

/-- ITS FALSE NEIGHBOUR: 'it returns false'. Refute it at one input. -/
def hmacChecksWrong : ChangeSpec := { name := "hmacChecks", fn := fun _ => fun
  | [d1, d2, d3, d4, d5, d6, d7] => { results := [.lit (.bool false)], args := [d1, d2, d3, d4, d5, d6, d7] }
  | _ => none }
def HmacChecksWrongFalsely : Prop := hmacChecksRow.holds Tryd.pinned (OpenSpec.ofChange hmacChecksWrong)

/-- 'antiphonlaw05.HmacDerives': WHATEVER THE INPUT: true; the input reads as it did. -/
def hmacDerivesSpec : ChangeSpec := { name := "hmacDerives", fn := fun _ => fun
  | [d1, d2, d3] => { results := [.lit (.bool true)], args := [d1, d2, d3] }
  | _ => none }
def hmacDerivesRow : OpenClaim := { program := "ytdpcgfaknbfmmaadoor", sum := "22a89636b43c2d6c91788ca4bc0097127825023cdfc3b62199dc843e58dc2e35", func := "antiphon/antiphonlaw05.HmacDerives", spec := "hmacDerives", unfollowed := true, recurses := true, named := ["antiphon/blake.begin", "antiphon/blake.orders", "antiphon/blake.mixed"], apart := false, laid := [("antiphon/blake.begin", laid_antiphon_blake_begin), ("antiphon/blake.orders", laid_antiphon_blake_orders), ("antiphon/blake.mixed", laid_antiphon_blake_mixed)] }
def HmacDerivesSaid : Prop := hmacDerivesRow.holds Tryd.pinned (OpenSpec.ofChange hmacDerivesSpec)

/-- ITS FALSE NEIGHBOUR: 'it returns false'. Refute it at one input. -/
def hmacDerivesWrong : ChangeSpec := { name := "hmacDerives", fn := fun _ => fun
  | [d1, d2, d3] => { results := [.lit (.bool false)], args := [d1, d2, d3] }
  | _ => none }
def HmacDerivesWrongFalsely : Prop := hmacDerivesRow.holds Tryd.pinned (OpenSpec.ofChange hmacDerivesWrong)

/-- 'antiphonlaw05.HmacWrites': WHATEVER THE INPUT: true; the input reads as it did. -/
def hmacWritesSpec : ChangeSpec := { name := "hmacWrites", fn := fun _ => fun
  | [d1, d2] => { results := [.lit (.bool true)], args := [d1, d2] }
  | _ => none }
def hmacWritesRow : OpenClaim := { program := "ytdpcgfaknbfmmaadoor", sum := "22a89636b43c2d6c91788ca4bc0097127825023cdfc3b62199dc843e58dc2e35", func := "antiphon/antiphonlaw05.HmacWrites", spec := "hmacWrites", unfollowed := true, recurses := true, named := ["antiphon/blake.begin", "antiphon/blake.orders", "antiphon/blake.mixed"], apart := false, laid := [("antiphon/blake.begin", laid_antiphon_blake_begin), ("antiphon/blake.orders", laid_antiphon_blake_orders), ("antiphon/blake.mixed", laid_antiphon_blake_mixed)] }
def HmacWritesSaid : Prop := hmacWritesRow.holds Tryd.pinned (OpenSpec.ofChange hmacWritesSpec)

/-- ITS FALSE NEIGHBOUR: 'it returns false'. Refute it at one input. -/
def hmacWritesWrong : ChangeSpec := { name := "hmacWrites", fn := fun _ => fun
  | [d1, d2] => { results := [.lit (.bool false)], args := [d1, d2] }
  | _ => none }
def HmacWritesWrongFalsely : Prop := hmacWritesRow.holds Tryd.pinned (OpenSpec.ofChange hmacWritesWrong)

/-- 'antiphonlaw05.HmacCopies': WHATEVER THE INPUT: true; the input reads as it did. -/
def hmacCopiesSpec : ChangeSpec := { name := "hmacCopies", fn := fun _ => fun
  | [d1, d2, d3, d4] => { results := [.lit (.bool true)], args := [d1, d2, d3, d4] }
  | _ => none }
def hmacCopiesRow : OpenClaim := { program := "ytdpcgfaknbfmmaadoor", sum := "22a89636b43c2d6c91788ca4bc0097127825023cdfc3b62199dc843e58dc2e35", func := "antiphon/antiphonlaw05.HmacCopies", spec := "hmacCopies", unfollowed := true, recurses := true, named := ["antiphon/blake.begin", "antiphon/blake.orders", "antiphon/blake.mixed"], apart := false, laid := [("antiphon/blake.begin", laid_antiphon_blake_begin), ("antiphon/blake.orders", laid_antiphon_blake_orders), ("antiphon/blake.mixed", laid_antiphon_blake_mixed)] }
def HmacCopiesSaid : Prop := hmacCopiesRow.holds Tryd.pinned (OpenSpec.ofChange hmacCopiesSpec)

/-- ITS FALSE NEIGHBOUR: 'it returns false'. Refute it at one input. -/
def hmacCopiesWrong : ChangeSpec := { name := "hmacCopies", fn := fun _ => fun
  | [d1, d2, d3, d4] => { results := [.lit (.bool false)], args := [d1, d2, d3, d4] }
  | _ => none }
def HmacCopiesWrongFalsely : Prop := hmacCopiesRow.holds Tryd.pinned (OpenSpec.ofChange hmacCopiesWrong)

/-- 'antiphonlaw05.HmacHolds': WHATEVER THE INPUT: true; the input reads as it did. -/
def hmacHoldsSpec : ChangeSpec := { name := "hmacHolds", fn := fun _ => fun
  | [d1, d2, d3, d4, d5, d6] => { results := [.lit (.bool true)], args := [d1, d2, d3, d4, d5, d6] }
  | _ => none }
def hmacHoldsRow : OpenClaim := { program := "ytdpcgfaknbfmmaadoor", sum := "22a89636b43c2d6c91788ca4bc0097127825023cdfc3b62199dc843e58dc2e35", func := "antiphon/antiphonlaw05.HmacHolds", spec := "hmacHolds", unfollowed := true, recurses := true, named := ["antiphon/blake.begin", "antiphon/blake.orders", "antiphon/blake.mixed"], apart := false, laid := [("antiphon/blake.begin", laid_antiphon_blake_begin), ("antiphon/blake.orders", laid_antiphon_blake_orders), ("antiphon/blake.mixed", laid_antiphon_blake_mixed)] }
def HmacHoldsSaid : Prop := hmacHoldsRow.holds Tryd.pinned (OpenSpec.ofChange hmacHoldsSpec)

/-- ITS FALSE NEIGHBOUR: 'it returns false'. Refute it at one input. -/
def hmacHoldsWrong : ChangeSpec := { name := "hmacHolds", fn := fun _ => fun
  | [d1, d2, d3, d4, d5, d6] => { results := [.lit (.bool false)], args := [d1, d2, d3, d4, d5, d6] }
  | _ => none }
def HmacHoldsWrongFalsely : Prop := hmacHoldsRow.holds Tryd.pinned (OpenSpec.ofChange hmacHoldsWrong)

/- THE SECOND FORM. 'bulk': how many values and letters a reading holds, each counted each time it is reached (what is shared counts as often as it is met; a slice's spare places count too). A statement '..UptoSaid' is the law's where the arguments, and the package variables that the reading takes, are together of bulk at most 1048576: NARROWER than '..Said'. Prove '..Said' where nothing that the law and all that it calls make is longer than what came in: it says more and counts as full. Else prove '..UptoSaid'. A law counts once. -/
mutual
def uptoBulk {H : Type} : DataW H → Nat
  | .lit (.string bytes) => bytes.length + 1
  | .lit _ => 1
  | .nil => 1
  | .ptr d => uptoBulk d + 1
  | .slice elems spare => uptoBulkAll elems + uptoBulkAll spare + 1
  | .agg parts => uptoBulkAll parts + 1
  | .iface _ d => uptoBulk d + 1
  | .map entries => uptoBulkEntries entries + 1
  | .held _ => 1
def uptoBulkAll {H : Type} : List (DataW H) → Nat
  | [] => 0
  | d :: r => uptoBulk d + uptoBulkAll r
def uptoBulkEntries {H : Type} : List (Lit × DataW H) → Nat
  | [] => 0
  | x :: r => uptoBulkEntry x + uptoBulkEntries r
def uptoBulkEntry {H : Type} : Lit × DataW H → Nat
  | (.string bytes, d) => bytes.length + uptoBulk d + 1
  | (_, d) => uptoBulk d + 1
 end
def uptoSmall : (H : Type) → List (DataW H) → Bool := fun _ ds => decide (uptoBulkAll ds ≤ 1048576)
def OpenSpec.upto (s : _root_.Go.ChangeSpec) : _root_.Go.OpenSpec := { _root_.Go.OpenSpec.ofChange s with cond := some uptoSmall }

/-- 'antiphonlaw04.BlakePress', WHERE WHAT IT READS IS OF BULK AT MOST 1048576: true; the input reads as it did. -/
def blakePressUptoRow : OpenClaim := { program := "ytdpcgfaknbfmmaadoor", sum := "22a89636b43c2d6c91788ca4bc0097127825023cdfc3b62199dc843e58dc2e35", func := "antiphon/antiphonlaw04.BlakePress", spec := "blakePress", unfollowed := true, recurses := true, named := ["antiphon/blake.begin", "antiphon/blake.orders", "antiphon/blake.mixed"], apart := false, laid := [("antiphon/blake.begin", laid_antiphon_blake_begin), ("antiphon/blake.orders", laid_antiphon_blake_orders), ("antiphon/blake.mixed", laid_antiphon_blake_mixed)], narrowed := true }
def BlakePressUptoSaid : Prop := blakePressUptoRow.holds Tryd.pinned (OpenSpec.upto blakePressSpec)

/-- 'antiphonlaw04.BlakeSums', WHERE WHAT IT READS IS OF BULK AT MOST 1048576: true; the input reads as it did. -/
def blakeSumsUptoRow : OpenClaim := { program := "ytdpcgfaknbfmmaadoor", sum := "22a89636b43c2d6c91788ca4bc0097127825023cdfc3b62199dc843e58dc2e35", func := "antiphon/antiphonlaw04.BlakeSums", spec := "blakeSums", unfollowed := true, recurses := true, named := ["antiphon/blake.begin", "antiphon/blake.orders", "antiphon/blake.mixed"], apart := false, laid := [("antiphon/blake.begin", laid_antiphon_blake_begin), ("antiphon/blake.orders", laid_antiphon_blake_orders), ("antiphon/blake.mixed", laid_antiphon_blake_mixed)], narrowed := true }
def BlakeSumsUptoSaid : Prop := blakeSumsUptoRow.holds Tryd.pinned (OpenSpec.upto blakeSumsSpec)

/-- 'antiphonlaw04.BlakeKeyed', WHERE WHAT IT READS IS OF BULK AT MOST 1048576: true; the input reads as it did. -/
def blakeKeyedUptoRow : OpenClaim := { program := "ytdpcgfaknbfmmaadoor", sum := "22a89636b43c2d6c91788ca4bc0097127825023cdfc3b62199dc843e58dc2e35", func := "antiphon/antiphonlaw04.BlakeKeyed", spec := "blakeKeyed", unfollowed := true, recurses := true, named := ["antiphon/blake.begin", "antiphon/blake.orders", "antiphon/blake.mixed"], apart := false, laid := [("antiphon/blake.begin", laid_antiphon_blake_begin), ("antiphon/blake.orders", laid_antiphon_blake_orders), ("antiphon/blake.mixed", laid_antiphon_blake_mixed)], narrowed := true }
def BlakeKeyedUptoSaid : Prop := blakeKeyedUptoRow.holds Tryd.pinned (OpenSpec.upto blakeKeyedSpec)

/-- 'antiphonlaw04.BlakeWrites', WHERE WHAT IT READS IS OF BULK AT MOST 1048576: true; the input reads as it did. -/
def blakeWritesUptoRow : OpenClaim := { program := "ytdpcgfaknbfmmaadoor", sum := "22a89636b43c2d6c91788ca4bc0097127825023cdfc3b62199dc843e58dc2e35", func := "antiphon/antiphonlaw04.BlakeWrites", spec := "blakeWrites", unfollowed := true, recurses := true, named := ["antiphon/blake.begin", "antiphon/blake.orders", "antiphon/blake.mixed"], apart := false, laid := [("antiphon/blake.begin", laid_antiphon_blake_begin), ("antiphon/blake.orders", laid_antiphon_blake_orders), ("antiphon/blake.mixed", laid_antiphon_blake_mixed)], narrowed := true }
def BlakeWritesUptoSaid : Prop := blakeWritesUptoRow.holds Tryd.pinned (OpenSpec.upto blakeWritesSpec)

/-- 'antiphonlaw04.BlakeCopies', WHERE WHAT IT READS IS OF BULK AT MOST 1048576: true; the input reads as it did. -/
def blakeCopiesUptoRow : OpenClaim := { program := "ytdpcgfaknbfmmaadoor", sum := "22a89636b43c2d6c91788ca4bc0097127825023cdfc3b62199dc843e58dc2e35", func := "antiphon/antiphonlaw04.BlakeCopies", spec := "blakeCopies", unfollowed := true, recurses := true, named := ["antiphon/blake.begin", "antiphon/blake.orders", "antiphon/blake.mixed"], apart := false, laid := [("antiphon/blake.begin", laid_antiphon_blake_begin), ("antiphon/blake.orders", laid_antiphon_blake_orders), ("antiphon/blake.mixed", laid_antiphon_blake_mixed)], narrowed := true }
def BlakeCopiesUptoSaid : Prop := blakeCopiesUptoRow.holds Tryd.pinned (OpenSpec.upto blakeCopiesSpec)

/-- 'antiphonlaw05.HmacTags', WHERE WHAT IT READS IS OF BULK AT MOST 1048576: true; the input reads as it did. -/
def hmacTagsUptoRow : OpenClaim := { program := "ytdpcgfaknbfmmaadoor", sum := "22a89636b43c2d6c91788ca4bc0097127825023cdfc3b62199dc843e58dc2e35", func := "antiphon/antiphonlaw05.HmacTags", spec := "hmacTags", unfollowed := true, recurses := true, named := ["antiphon/blake.begin", "antiphon/blake.orders", "antiphon/blake.mixed"], apart := false, laid := [("antiphon/blake.begin", laid_antiphon_blake_begin), ("antiphon/blake.orders", laid_antiphon_blake_orders), ("antiphon/blake.mixed", laid_antiphon_blake_mixed)], narrowed := true }
def HmacTagsUptoSaid : Prop := hmacTagsUptoRow.holds Tryd.pinned (OpenSpec.upto hmacTagsSpec)

/-- 'antiphonlaw05.HmacShorts', WHERE WHAT IT READS IS OF BULK AT MOST 1048576: true; the input reads as it did. -/
def hmacShortsUptoRow : OpenClaim := { program := "ytdpcgfaknbfmmaadoor", sum := "22a89636b43c2d6c91788ca4bc0097127825023cdfc3b62199dc843e58dc2e35", func := "antiphon/antiphonlaw05.HmacShorts", spec := "hmacShorts", unfollowed := true, recurses := true, named := ["antiphon/blake.begin", "antiphon/blake.orders", "antiphon/blake.mixed"], apart := false, laid := [("antiphon/blake.begin", laid_antiphon_blake_begin), ("antiphon/blake.orders", laid_antiphon_blake_orders), ("antiphon/blake.mixed", laid_antiphon_blake_mixed)], narrowed := true }
def HmacShortsUptoSaid : Prop := hmacShortsUptoRow.holds Tryd.pinned (OpenSpec.upto hmacShortsSpec)

/-- 'antiphonlaw05.HmacChecks', WHERE WHAT IT READS IS OF BULK AT MOST 1048576: true; the input reads as it did. -/
def hmacChecksUptoRow : OpenClaim := { program := "ytdpcgfaknbfmmaadoor", sum := "22a89636b43c2d6c91788ca4bc0097127825023cdfc3b62199dc843e58dc2e35", func := "antiphon/antiphonlaw05.HmacChecks", spec := "hmacChecks", unfollowed := true, recurses := true, named := ["antiphon/blake.begin", "antiphon/blake.orders", "antiphon/blake.mixed"], apart := false, laid := [("antiphon/blake.begin", laid_antiphon_blake_begin), ("antiphon/blake.orders", laid_antiphon_blake_orders), ("antiphon/blake.mixed", laid_antiphon_blake_mixed)], narrowed := true }
def HmacChecksUptoSaid : Prop := hmacChecksUptoRow.holds Tryd.pinned (OpenSpec.upto hmacChecksSpec)

/-- 'antiphonlaw05.HmacDerives', WHERE WHAT IT READS IS OF BULK AT MOST 1048576: true; the input reads as it did. -/
def hmacDerivesUptoRow : OpenClaim := { program := "ytdpcgfaknbfmmaadoor", sum := "22a89636b43c2d6c91788ca4bc0097127825023cdfc3b62199dc843e58dc2e35", func := "antiphon/antiphonlaw05.HmacDerives", spec := "hmacDerives", unfollowed := true, recurses := true, named := ["antiphon/blake.begin", "antiphon/blake.orders", "antiphon/blake.mixed"], apart := false, laid := [("antiphon/blake.begin", laid_antiphon_blake_begin), ("antiphon/blake.orders", laid_antiphon_blake_orders), ("antiphon/blake.mixed", laid_antiphon_blake_mixed)], narrowed := true }
def HmacDerivesUptoSaid : Prop := hmacDerivesUptoRow.holds Tryd.pinned (OpenSpec.upto hmacDerivesSpec)

/-- 'antiphonlaw05.HmacWrites', WHERE WHAT IT READS IS OF BULK AT MOST 1048576: true; the input reads as it did. -/
def hmacWritesUptoRow : OpenClaim := { program := "ytdpcgfaknbfmmaadoor", sum := "22a89636b43c2d6c91788ca4bc0097127825023cdfc3b62199dc843e58dc2e35", func := "antiphon/antiphonlaw05.HmacWrites", spec := "hmacWrites", unfollowed := true, recurses := true, named := ["antiphon/blake.begin", "antiphon/blake.orders", "antiphon/blake.mixed"], apart := false, laid := [("antiphon/blake.begin", laid_antiphon_blake_begin), ("antiphon/blake.orders", laid_antiphon_blake_orders), ("antiphon/blake.mixed", laid_antiphon_blake_mixed)], narrowed := true }
def HmacWritesUptoSaid : Prop := hmacWritesUptoRow.holds Tryd.pinned (OpenSpec.upto hmacWritesSpec)

/-- 'antiphonlaw05.HmacCopies', WHERE WHAT IT READS IS OF BULK AT MOST 1048576: true; the input reads as it did. -/
def hmacCopiesUptoRow : OpenClaim := { program := "ytdpcgfaknbfmmaadoor", sum := "22a89636b43c2d6c91788ca4bc0097127825023cdfc3b62199dc843e58dc2e35", func := "antiphon/antiphonlaw05.HmacCopies", spec := "hmacCopies", unfollowed := true, recurses := true, named := ["antiphon/blake.begin", "antiphon/blake.orders", "antiphon/blake.mixed"], apart := false, laid := [("antiphon/blake.begin", laid_antiphon_blake_begin), ("antiphon/blake.orders", laid_antiphon_blake_orders), ("antiphon/blake.mixed", laid_antiphon_blake_mixed)], narrowed := true }
def HmacCopiesUptoSaid : Prop := hmacCopiesUptoRow.holds Tryd.pinned (OpenSpec.upto hmacCopiesSpec)

/-- 'antiphonlaw05.HmacHolds', WHERE WHAT IT READS IS OF BULK AT MOST 1048576: true; the input reads as it did. -/
def hmacHoldsUptoRow : OpenClaim := { program := "ytdpcgfaknbfmmaadoor", sum := "22a89636b43c2d6c91788ca4bc0097127825023cdfc3b62199dc843e58dc2e35", func := "antiphon/antiphonlaw05.HmacHolds", spec := "hmacHolds", unfollowed := true, recurses := true, named := ["antiphon/blake.begin", "antiphon/blake.orders", "antiphon/blake.mixed"], apart := false, laid := [("antiphon/blake.begin", laid_antiphon_blake_begin), ("antiphon/blake.orders", laid_antiphon_blake_orders), ("antiphon/blake.mixed", laid_antiphon_blake_mixed)], narrowed := true }
def HmacHoldsUptoSaid : Prop := hmacHoldsUptoRow.holds Tryd.pinned (OpenSpec.upto hmacHoldsSpec)

end Rows
end Go.Proofs.YtdpcgfaknbfmmaaDoor
