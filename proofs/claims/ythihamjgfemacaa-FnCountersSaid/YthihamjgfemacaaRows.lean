/-
  No cell of these rows narrows 'for every input' (looked for: loops, veiled, ifaces, maps, wideKeys, modest, calm, conditions, laid).
  DERIVED. THE GIVEN ROWS OF THIS SEAT. 21 by the template 'for every input the law returns true; each argument reads behind the call as it read before'; 0 by the template 'total and deterministic' (their statements: YthihamjgfemacaaTotals.lean).
  GIVEN WITH THE SEED: the statements are not yours to turn. If you find one false, say at which input.
  Laid BY PROGRAM, IN A SANDBOX (cutbox-rows.mjs): the forced cells as the released guide's own fill.sh prints them over the translation 26b2b7466ca44266… (all of the seat's roots in one cut). By AI agents, Wed Nov 11 2026. No macro, syntax, notation, axiom, sorry.
-/
import Derived.Test.YthihamjgfemacaaChecked
import GoSem.Claim
import GoSem.ClaimJoined
import GoSem.ClaimMapViews
import Derived.JoinedTies
import Derived.KernelRfl
namespace Go.Proofs.Ythihamjgfemacaa
/- THE CELL 'sum', in the pinned program and in every row, IS THE sha256 OF THE DUMP (.gsa) THAT YthihamjgfemacaaProg.lean LOADS. Nothing in Lean hashes anything: it is a label: what it is worth is what the hold of that sum in a sandbox is worth. -/
noncomputable def Try.pinned : Pinned := { name := "ythihamjgfemacaa", sum := "26b2b7466ca442661620feb3f061093d85104dfb4342d8a5cc1063c974bd0ccc", checked := Try.checked }
namespace Rows
def none {H : Type} : Left H := { results := [], args := [] }

/-- 'laws.FnCounters': WHATEVER THE INPUT: true; the input reads as it did. -/
def fnCountersSpec : ChangeSpec := { name := "fnCounters", fn := fun _ => fun
  | [d] => { results := [.lit (.bool true)], args := [d] }
  | _ => none }
def fnCountersRow : OpenClaim := { program := "ythihamjgfemacaa", sum := "26b2b7466ca442661620feb3f061093d85104dfb4342d8a5cc1063c974bd0ccc", func := "loop.example/g01159/laws.FnCounters", spec := "fnCounters", unfollowed := true, recurses := true, apart := false }
def FnCountersSaid : Prop := fnCountersRow.holds Try.pinned (OpenSpec.ofChange fnCountersSpec)

/-- ITS FALSE NEIGHBOUR: 'it returns false'. Refute it at one input. -/
def fnCountersWrong : ChangeSpec := { name := "fnCounters", fn := fun _ => fun
  | [d] => { results := [.lit (.bool false)], args := [d] }
  | _ => none }
def FnCountersWrongFalsely : Prop := fnCountersRow.holds Try.pinned (OpenSpec.ofChange fnCountersWrong)

/-- 'laws.FnExactIsRow': WHATEVER THE INPUT: true; the input reads as it did. -/
def fnExactIsRowSpec : ChangeSpec := { name := "fnExactIsRow", fn := fun _ => fun
  | [d] => { results := [.lit (.bool true)], args := [d] }
  | _ => none }
def fnExactIsRowRow : OpenClaim := { program := "ythihamjgfemacaa", sum := "26b2b7466ca442661620feb3f061093d85104dfb4342d8a5cc1063c974bd0ccc", func := "loop.example/g01159/laws.FnExactIsRow", spec := "fnExactIsRow", apart := false }
def FnExactIsRowSaid : Prop := fnExactIsRowRow.holds Try.pinned (OpenSpec.ofChange fnExactIsRowSpec)

/-- ITS FALSE NEIGHBOUR: 'it returns false'. Refute it at one input. -/
def fnExactIsRowWrong : ChangeSpec := { name := "fnExactIsRow", fn := fun _ => fun
  | [d] => { results := [.lit (.bool false)], args := [d] }
  | _ => none }
def FnExactIsRowWrongFalsely : Prop := fnExactIsRowRow.holds Try.pinned (OpenSpec.ofChange fnExactIsRowWrong)

/-- 'laws.FnExactWeightOf': WHATEVER THE INPUT: true; the input reads as it did. -/
def fnExactWeightOfSpec : ChangeSpec := { name := "fnExactWeightOf", fn := fun _ => fun
  | [d] => { results := [.lit (.bool true)], args := [d] }
  | _ => none }
def fnExactWeightOfRow : OpenClaim := { program := "ythihamjgfemacaa", sum := "26b2b7466ca442661620feb3f061093d85104dfb4342d8a5cc1063c974bd0ccc", func := "loop.example/g01159/laws.FnExactWeightOf", spec := "fnExactWeightOf", apart := false }
def FnExactWeightOfSaid : Prop := fnExactWeightOfRow.holds Try.pinned (OpenSpec.ofChange fnExactWeightOfSpec)

/-- ITS FALSE NEIGHBOUR: 'it returns false'. Refute it at one input. -/
def fnExactWeightOfWrong : ChangeSpec := { name := "fnExactWeightOf", fn := fun _ => fun
  | [d] => { results := [.lit (.bool false)], args := [d] }
  | _ => none }
def FnExactWeightOfWrongFalsely : Prop := fnExactWeightOfRow.holds Try.pinned (OpenSpec.ofChange fnExactWeightOfWrong)

/-- 'laws.FnExactMomentAbout': WHATEVER THE INPUT: true; the input reads as it did. -/
def fnExactMomentAboutSpec : ChangeSpec := { name := "fnExactMomentAbout", fn := fun _ => fun
  | [d1, d2] => { results := [.lit (.bool true)], args := [d1, d2] }
  | _ => none }
def fnExactMomentAboutRow : OpenClaim := { program := "ythihamjgfemacaa", sum := "26b2b7466ca442661620feb3f061093d85104dfb4342d8a5cc1063c974bd0ccc", func := "loop.example/g01159/laws.FnExactMomentAbout", spec := "fnExactMomentAbout", apart := false }
def FnExactMomentAboutSaid : Prop := fnExactMomentAboutRow.holds Try.pinned (OpenSpec.ofChange fnExactMomentAboutSpec)

/-- ITS FALSE NEIGHBOUR: 'it returns false'. Refute it at one input. -/
def fnExactMomentAboutWrong : ChangeSpec := { name := "fnExactMomentAbout", fn := fun _ => fun
  | [d1, d2] => { results := [.lit (.bool false)], args := [d1, d2] }
  | _ => none }
def FnExactMomentAboutWrongFalsely : Prop := fnExactMomentAboutRow.holds Try.pinned (OpenSpec.ofChange fnExactMomentAboutWrong)

/-- 'laws.FnExactCentreOf': WHATEVER THE INPUT: true; the input reads as it did. -/
def fnExactCentreOfSpec : ChangeSpec := { name := "fnExactCentreOf", fn := fun _ => fun
  | [d] => { results := [.lit (.bool true)], args := [d] }
  | _ => none }
def fnExactCentreOfRow : OpenClaim := { program := "ythihamjgfemacaa", sum := "26b2b7466ca442661620feb3f061093d85104dfb4342d8a5cc1063c974bd0ccc", func := "loop.example/g01159/laws.FnExactCentreOf", spec := "fnExactCentreOf", apart := false }
def FnExactCentreOfSaid : Prop := fnExactCentreOfRow.holds Try.pinned (OpenSpec.ofChange fnExactCentreOfSpec)

/-- ITS FALSE NEIGHBOUR: 'it returns false'. Refute it at one input. -/
def fnExactCentreOfWrong : ChangeSpec := { name := "fnExactCentreOf", fn := fun _ => fun
  | [d] => { results := [.lit (.bool false)], args := [d] }
  | _ => none }
def FnExactCentreOfWrongFalsely : Prop := fnExactCentreOfRow.holds Try.pinned (OpenSpec.ofChange fnExactCentreOfWrong)

/-- 'laws.FnExactTipSide': WHATEVER THE INPUT: true; the input reads as it did. -/
def fnExactTipSideSpec : ChangeSpec := { name := "fnExactTipSide", fn := fun _ => fun
  | [d1, d2, d3] => { results := [.lit (.bool true)], args := [d1, d2, d3] }
  | _ => none }
def fnExactTipSideRow : OpenClaim := { program := "ythihamjgfemacaa", sum := "26b2b7466ca442661620feb3f061093d85104dfb4342d8a5cc1063c974bd0ccc", func := "loop.example/g01159/laws.FnExactTipSide", spec := "fnExactTipSide", apart := false }
def FnExactTipSideSaid : Prop := fnExactTipSideRow.holds Try.pinned (OpenSpec.ofChange fnExactTipSideSpec)

/-- ITS FALSE NEIGHBOUR: 'it returns false'. Refute it at one input. -/
def fnExactTipSideWrong : ChangeSpec := { name := "fnExactTipSide", fn := fun _ => fun
  | [d1, d2, d3] => { results := [.lit (.bool false)], args := [d1, d2, d3] }
  | _ => none }
def FnExactTipSideWrongFalsely : Prop := fnExactTipSideRow.holds Try.pinned (OpenSpec.ofChange fnExactTipSideWrong)

/-- 'laws.FnExactReactionsOf': WHATEVER THE INPUT: true; the input reads as it did. -/
def fnExactReactionsOfSpec : ChangeSpec := { name := "fnExactReactionsOf", fn := fun _ => fun
  | [d1, d2, d3] => { results := [.lit (.bool true)], args := [d1, d2, d3] }
  | _ => none }
def fnExactReactionsOfRow : OpenClaim := { program := "ythihamjgfemacaa", sum := "26b2b7466ca442661620feb3f061093d85104dfb4342d8a5cc1063c974bd0ccc", func := "loop.example/g01159/laws.FnExactReactionsOf", spec := "fnExactReactionsOf", apart := false }
def FnExactReactionsOfSaid : Prop := fnExactReactionsOfRow.holds Try.pinned (OpenSpec.ofChange fnExactReactionsOfSpec)

/-- ITS FALSE NEIGHBOUR: 'it returns false'. Refute it at one input. -/
def fnExactReactionsOfWrong : ChangeSpec := { name := "fnExactReactionsOf", fn := fun _ => fun
  | [d1, d2, d3] => { results := [.lit (.bool false)], args := [d1, d2, d3] }
  | _ => none }
def FnExactReactionsOfWrongFalsely : Prop := fnExactReactionsOfRow.holds Try.pinned (OpenSpec.ofChange fnExactReactionsOfWrong)

/-- 'laws.FnExactMergeRow': WHATEVER THE INPUT: true; the input reads as it did. -/
def fnExactMergeRowSpec : ChangeSpec := { name := "fnExactMergeRow", fn := fun _ => fun
  | [d] => { results := [.lit (.bool true)], args := [d] }
  | _ => none }
def fnExactMergeRowRow : OpenClaim := { program := "ythihamjgfemacaa", sum := "26b2b7466ca442661620feb3f061093d85104dfb4342d8a5cc1063c974bd0ccc", func := "loop.example/g01159/laws.FnExactMergeRow", spec := "fnExactMergeRow", unfollowed := true, recurses := true, apart := false }
def FnExactMergeRowSaid : Prop := fnExactMergeRowRow.holds Try.pinned (OpenSpec.ofChange fnExactMergeRowSpec)

/-- ITS FALSE NEIGHBOUR: 'it returns false'. Refute it at one input. -/
def fnExactMergeRowWrong : ChangeSpec := { name := "fnExactMergeRow", fn := fun _ => fun
  | [d] => { results := [.lit (.bool false)], args := [d] }
  | _ => none }
def FnExactMergeRowWrongFalsely : Prop := fnExactMergeRowRow.holds Try.pinned (OpenSpec.ofChange fnExactMergeRowWrong)

/-- 'laws.FnExactJoinRows': WHATEVER THE INPUT: true; the input reads as it did. -/
def fnExactJoinRowsSpec : ChangeSpec := { name := "fnExactJoinRows", fn := fun _ => fun
  | [d1, d2] => { results := [.lit (.bool true)], args := [d1, d2] }
  | _ => none }
def fnExactJoinRowsRow : OpenClaim := { program := "ythihamjgfemacaa", sum := "26b2b7466ca442661620feb3f061093d85104dfb4342d8a5cc1063c974bd0ccc", func := "loop.example/g01159/laws.FnExactJoinRows", spec := "fnExactJoinRows", unfollowed := true, recurses := true, apart := false }
def FnExactJoinRowsSaid : Prop := fnExactJoinRowsRow.holds Try.pinned (OpenSpec.ofChange fnExactJoinRowsSpec)

/-- ITS FALSE NEIGHBOUR: 'it returns false'. Refute it at one input. -/
def fnExactJoinRowsWrong : ChangeSpec := { name := "fnExactJoinRows", fn := fun _ => fun
  | [d1, d2] => { results := [.lit (.bool false)], args := [d1, d2] }
  | _ => none }
def FnExactJoinRowsWrongFalsely : Prop := fnExactJoinRowsRow.holds Try.pinned (OpenSpec.ofChange fnExactJoinRowsWrong)

/-- 'laws.FnExactShiftRow': WHATEVER THE INPUT: true; the input reads as it did. -/
def fnExactShiftRowSpec : ChangeSpec := { name := "fnExactShiftRow", fn := fun _ => fun
  | [d1, d2] => { results := [.lit (.bool true)], args := [d1, d2] }
  | _ => none }
def fnExactShiftRowRow : OpenClaim := { program := "ythihamjgfemacaa", sum := "26b2b7466ca442661620feb3f061093d85104dfb4342d8a5cc1063c974bd0ccc", func := "loop.example/g01159/laws.FnExactShiftRow", spec := "fnExactShiftRow", unfollowed := true, recurses := true, apart := false }
def FnExactShiftRowSaid : Prop := fnExactShiftRowRow.holds Try.pinned (OpenSpec.ofChange fnExactShiftRowSpec)

/-- ITS FALSE NEIGHBOUR: 'it returns false'. Refute it at one input. -/
def fnExactShiftRowWrong : ChangeSpec := { name := "fnExactShiftRow", fn := fun _ => fun
  | [d1, d2] => { results := [.lit (.bool false)], args := [d1, d2] }
  | _ => none }
def FnExactShiftRowWrongFalsely : Prop := fnExactShiftRowRow.holds Try.pinned (OpenSpec.ofChange fnExactShiftRowWrong)

/-- 'laws.FnExactMirrorRow': WHATEVER THE INPUT: true; the input reads as it did. -/
def fnExactMirrorRowSpec : ChangeSpec := { name := "fnExactMirrorRow", fn := fun _ => fun
  | [d] => { results := [.lit (.bool true)], args := [d] }
  | _ => none }
def fnExactMirrorRowRow : OpenClaim := { program := "ythihamjgfemacaa", sum := "26b2b7466ca442661620feb3f061093d85104dfb4342d8a5cc1063c974bd0ccc", func := "loop.example/g01159/laws.FnExactMirrorRow", spec := "fnExactMirrorRow", unfollowed := true, recurses := true, apart := false }
def FnExactMirrorRowSaid : Prop := fnExactMirrorRowRow.holds Try.pinned (OpenSpec.ofChange fnExactMirrorRowSpec)

/-- ITS FALSE NEIGHBOUR: 'it returns false'. Refute it at one input. -/
def fnExactMirrorRowWrong : ChangeSpec := { name := "fnExactMirrorRow", fn := fun _ => fun
  | [d] => { results := [.lit (.bool false)], args := [d] }
  | _ => none }
def FnExactMirrorRowWrongFalsely : Prop := fnExactMirrorRowRow.holds Try.pinned (OpenSpec.ofChange fnExactMirrorRowWrong)

/-- 'laws.FnExactStandPlaces': WHATEVER THE INPUT: true; the input reads as it did. -/
def fnExactStandPlacesSpec : ChangeSpec := { name := "fnExactStandPlaces", fn := fun _ => fun
  | [d1, d2, d3, d4] => { results := [.lit (.bool true)], args := [d1, d2, d3, d4] }
  | _ => none }
def fnExactStandPlacesRow : OpenClaim := { program := "ythihamjgfemacaa", sum := "26b2b7466ca442661620feb3f061093d85104dfb4342d8a5cc1063c974bd0ccc", func := "loop.example/g01159/laws.FnExactStandPlaces", spec := "fnExactStandPlaces", unfollowed := true, recurses := true, apart := false }
def FnExactStandPlacesSaid : Prop := fnExactStandPlacesRow.holds Try.pinned (OpenSpec.ofChange fnExactStandPlacesSpec)

/-- ITS FALSE NEIGHBOUR: 'it returns false'. Refute it at one input. -/
def fnExactStandPlacesWrong : ChangeSpec := { name := "fnExactStandPlaces", fn := fun _ => fun
  | [d1, d2, d3, d4] => { results := [.lit (.bool false)], args := [d1, d2, d3, d4] }
  | _ => none }
def FnExactStandPlacesWrongFalsely : Prop := fnExactStandPlacesRow.holds Try.pinned (OpenSpec.ofChange fnExactStandPlacesWrong)

/-- 'laws.FnExactLeastCounter': WHATEVER THE INPUT: true; the input reads as it did. -/
def fnExactLeastCounterSpec : ChangeSpec := { name := "fnExactLeastCounter", fn := fun _ => fun
  | [d1, d2, d3, d4] => { results := [.lit (.bool true)], args := [d1, d2, d3, d4] }
  | _ => none }
def fnExactLeastCounterRow : OpenClaim := { program := "ythihamjgfemacaa", sum := "26b2b7466ca442661620feb3f061093d85104dfb4342d8a5cc1063c974bd0ccc", func := "loop.example/g01159/laws.FnExactLeastCounter", spec := "fnExactLeastCounter", unfollowed := true, recurses := true, apart := false }
def FnExactLeastCounterSaid : Prop := fnExactLeastCounterRow.holds Try.pinned (OpenSpec.ofChange fnExactLeastCounterSpec)

/-- ITS FALSE NEIGHBOUR: 'it returns false'. Refute it at one input. -/
def fnExactLeastCounterWrong : ChangeSpec := { name := "fnExactLeastCounter", fn := fun _ => fun
  | [d1, d2, d3, d4] => { results := [.lit (.bool false)], args := [d1, d2, d3, d4] }
  | _ => none }
def FnExactLeastCounterWrongFalsely : Prop := fnExactLeastCounterRow.holds Try.pinned (OpenSpec.ofChange fnExactLeastCounterWrong)

/-- 'laws.FnExactMostExtra': WHATEVER THE INPUT: true; the input reads as it did. -/
def fnExactMostExtraSpec : ChangeSpec := { name := "fnExactMostExtra", fn := fun _ => fun
  | [d1, d2, d3, d4] => { results := [.lit (.bool true)], args := [d1, d2, d3, d4] }
  | _ => none }
def fnExactMostExtraRow : OpenClaim := { program := "ythihamjgfemacaa", sum := "26b2b7466ca442661620feb3f061093d85104dfb4342d8a5cc1063c974bd0ccc", func := "loop.example/g01159/laws.FnExactMostExtra", spec := "fnExactMostExtra", unfollowed := true, recurses := true, apart := false }
def FnExactMostExtraSaid : Prop := fnExactMostExtraRow.holds Try.pinned (OpenSpec.ofChange fnExactMostExtraSpec)

/-- ITS FALSE NEIGHBOUR: 'it returns false'. Refute it at one input. -/
def fnExactMostExtraWrong : ChangeSpec := { name := "fnExactMostExtra", fn := fun _ => fun
  | [d1, d2, d3, d4] => { results := [.lit (.bool false)], args := [d1, d2, d3, d4] }
  | _ => none }
def FnExactMostExtraWrongFalsely : Prop := fnExactMostExtraRow.holds Try.pinned (OpenSpec.ofChange fnExactMostExtraWrong)

/-- 'laws.FnExactNarrowBase': WHATEVER THE INPUT: true; the input reads as it did. -/
def fnExactNarrowBaseSpec : ChangeSpec := { name := "fnExactNarrowBase", fn := fun _ => fun
  | [d] => { results := [.lit (.bool true)], args := [d] }
  | _ => none }
def fnExactNarrowBaseRow : OpenClaim := { program := "ythihamjgfemacaa", sum := "26b2b7466ca442661620feb3f061093d85104dfb4342d8a5cc1063c974bd0ccc", func := "loop.example/g01159/laws.FnExactNarrowBase", spec := "fnExactNarrowBase", apart := false }
def FnExactNarrowBaseSaid : Prop := fnExactNarrowBaseRow.holds Try.pinned (OpenSpec.ofChange fnExactNarrowBaseSpec)

/-- ITS FALSE NEIGHBOUR: 'it returns false'. Refute it at one input. -/
def fnExactNarrowBaseWrong : ChangeSpec := { name := "fnExactNarrowBase", fn := fun _ => fun
  | [d] => { results := [.lit (.bool false)], args := [d] }
  | _ => none }
def FnExactNarrowBaseWrongFalsely : Prop := fnExactNarrowBaseRow.holds Try.pinned (OpenSpec.ofChange fnExactNarrowBaseWrong)

/-- 'laws.FnExactUpperCentre': WHATEVER THE INPUT: true; the input reads as it did. -/
def fnExactUpperCentreSpec : ChangeSpec := { name := "fnExactUpperCentre", fn := fun _ => fun
  | [d1, d2] => { results := [.lit (.bool true)], args := [d1, d2] }
  | _ => none }
def fnExactUpperCentreRow : OpenClaim := { program := "ythihamjgfemacaa", sum := "26b2b7466ca442661620feb3f061093d85104dfb4342d8a5cc1063c974bd0ccc", func := "loop.example/g01159/laws.FnExactUpperCentre", spec := "fnExactUpperCentre", apart := false }
def FnExactUpperCentreSaid : Prop := fnExactUpperCentreRow.holds Try.pinned (OpenSpec.ofChange fnExactUpperCentreSpec)

/-- ITS FALSE NEIGHBOUR: 'it returns false'. Refute it at one input. -/
def fnExactUpperCentreWrong : ChangeSpec := { name := "fnExactUpperCentre", fn := fun _ => fun
  | [d1, d2] => { results := [.lit (.bool false)], args := [d1, d2] }
  | _ => none }
def FnExactUpperCentreWrongFalsely : Prop := fnExactUpperCentreRow.holds Try.pinned (OpenSpec.ofChange fnExactUpperCentreWrong)

/-- 'laws.FnExactHoldsBrick': WHATEVER THE INPUT: true; the input reads as it did. -/
def fnExactHoldsBrickSpec : ChangeSpec := { name := "fnExactHoldsBrick", fn := fun _ => fun
  | [d1, d2] => { results := [.lit (.bool true)], args := [d1, d2] }
  | _ => none }
def fnExactHoldsBrickRow : OpenClaim := { program := "ythihamjgfemacaa", sum := "26b2b7466ca442661620feb3f061093d85104dfb4342d8a5cc1063c974bd0ccc", func := "loop.example/g01159/laws.FnExactHoldsBrick", spec := "fnExactHoldsBrick", apart := false }
def FnExactHoldsBrickSaid : Prop := fnExactHoldsBrickRow.holds Try.pinned (OpenSpec.ofChange fnExactHoldsBrickSpec)

/-- ITS FALSE NEIGHBOUR: 'it returns false'. Refute it at one input. -/
def fnExactHoldsBrickWrong : ChangeSpec := { name := "fnExactHoldsBrick", fn := fun _ => fun
  | [d1, d2] => { results := [.lit (.bool false)], args := [d1, d2] }
  | _ => none }
def FnExactHoldsBrickWrongFalsely : Prop := fnExactHoldsBrickRow.holds Try.pinned (OpenSpec.ofChange fnExactHoldsBrickWrong)

/-- 'laws.FnExactStandsFirm': WHATEVER THE INPUT: true; the input reads as it did. -/
def fnExactStandsFirmSpec : ChangeSpec := { name := "fnExactStandsFirm", fn := fun _ => fun
  | [d] => { results := [.lit (.bool true)], args := [d] }
  | _ => none }
def fnExactStandsFirmRow : OpenClaim := { program := "ythihamjgfemacaa", sum := "26b2b7466ca442661620feb3f061093d85104dfb4342d8a5cc1063c974bd0ccc", func := "loop.example/g01159/laws.FnExactStandsFirm", spec := "fnExactStandsFirm", apart := false }
def FnExactStandsFirmSaid : Prop := fnExactStandsFirmRow.holds Try.pinned (OpenSpec.ofChange fnExactStandsFirmSpec)

/-- ITS FALSE NEIGHBOUR: 'it returns false'. Refute it at one input. -/
def fnExactStandsFirmWrong : ChangeSpec := { name := "fnExactStandsFirm", fn := fun _ => fun
  | [d] => { results := [.lit (.bool false)], args := [d] }
  | _ => none }
def FnExactStandsFirmWrongFalsely : Prop := fnExactStandsFirmRow.holds Try.pinned (OpenSpec.ofChange fnExactStandsFirmWrong)

/-- 'laws.FnExactHighestLoose': WHATEVER THE INPUT: true; the input reads as it did. -/
def fnExactHighestLooseSpec : ChangeSpec := { name := "fnExactHighestLoose", fn := fun _ => fun
  | [d] => { results := [.lit (.bool true)], args := [d] }
  | _ => none }
def fnExactHighestLooseRow : OpenClaim := { program := "ythihamjgfemacaa", sum := "26b2b7466ca442661620feb3f061093d85104dfb4342d8a5cc1063c974bd0ccc", func := "loop.example/g01159/laws.FnExactHighestLoose", spec := "fnExactHighestLoose", apart := false }
def FnExactHighestLooseSaid : Prop := fnExactHighestLooseRow.holds Try.pinned (OpenSpec.ofChange fnExactHighestLooseSpec)

/-- ITS FALSE NEIGHBOUR: 'it returns false'. Refute it at one input. -/
def fnExactHighestLooseWrong : ChangeSpec := { name := "fnExactHighestLoose", fn := fun _ => fun
  | [d] => { results := [.lit (.bool false)], args := [d] }
  | _ => none }
def FnExactHighestLooseWrongFalsely : Prop := fnExactHighestLooseRow.holds Try.pinned (OpenSpec.ofChange fnExactHighestLooseWrong)

/-- 'laws.FnExactMostShift': WHATEVER THE INPUT: true; the input reads as it did. -/
def fnExactMostShiftSpec : ChangeSpec := { name := "fnExactMostShift", fn := fun _ => fun
  | [d] => { results := [.lit (.bool true)], args := [d] }
  | _ => none }
def fnExactMostShiftRow : OpenClaim := { program := "ythihamjgfemacaa", sum := "26b2b7466ca442661620feb3f061093d85104dfb4342d8a5cc1063c974bd0ccc", func := "loop.example/g01159/laws.FnExactMostShift", spec := "fnExactMostShift", unfollowed := true, recurses := true, apart := false }
def FnExactMostShiftSaid : Prop := fnExactMostShiftRow.holds Try.pinned (OpenSpec.ofChange fnExactMostShiftSpec)

/-- ITS FALSE NEIGHBOUR: 'it returns false'. Refute it at one input. -/
def fnExactMostShiftWrong : ChangeSpec := { name := "fnExactMostShift", fn := fun _ => fun
  | [d] => { results := [.lit (.bool false)], args := [d] }
  | _ => none }
def FnExactMostShiftWrongFalsely : Prop := fnExactMostShiftRow.holds Try.pinned (OpenSpec.ofChange fnExactMostShiftWrong)

/-- 'laws.FnExactFirmTops': WHATEVER THE INPUT: true; the input reads as it did. -/
def fnExactFirmTopsSpec : ChangeSpec := { name := "fnExactFirmTops", fn := fun _ => fun
  | [d1, d2] => { results := [.lit (.bool true)], args := [d1, d2] }
  | _ => none }
def fnExactFirmTopsRow : OpenClaim := { program := "ythihamjgfemacaa", sum := "26b2b7466ca442661620feb3f061093d85104dfb4342d8a5cc1063c974bd0ccc", func := "loop.example/g01159/laws.FnExactFirmTops", spec := "fnExactFirmTops", unfollowed := true, recurses := true, apart := false }
def FnExactFirmTopsSaid : Prop := fnExactFirmTopsRow.holds Try.pinned (OpenSpec.ofChange fnExactFirmTopsSpec)

/-- ITS FALSE NEIGHBOUR: 'it returns false'. Refute it at one input. -/
def fnExactFirmTopsWrong : ChangeSpec := { name := "fnExactFirmTops", fn := fun _ => fun
  | [d1, d2] => { results := [.lit (.bool false)], args := [d1, d2] }
  | _ => none }
def FnExactFirmTopsWrongFalsely : Prop := fnExactFirmTopsRow.holds Try.pinned (OpenSpec.ofChange fnExactFirmTopsWrong)

/- THE SECOND FORM. 'bulk': how many values and letters a reading holds, each counted each time it is reached (what is shared counts as often as it is met; a slice's spare places count too). A statement '..UptoSaid' is the law's where the arguments, and the package variables that the reading takes, are together of bulk at most 1048576: NARROWER than '..Said'. Prove '..Said' where nothing that the law and all that it calls make is longer than what came in: it says more and counts as full. Else prove '..UptoSaid'. A law counts once. -/
mutual
def uptoBulk {H : Type} : DataW H → Nat
  | .lit (.string bytes) => bytes.length + 1
  | .lit _ => 1
  | .nil => 1
  | .ptr d => uptoBulk d + 1
  | .slice elems spare => uptoBulkAll elems + uptoBulkAll spare + 1
  | .agg parts => uptoBulkAll parts + 1
  | .iface _ d => uptoBulk d + 1
  | .map entries => uptoBulkEntries entries + 1
  | .held _ => 1
def uptoBulkAll {H : Type} : List (DataW H) → Nat
  | [] => 0
  | d :: r => uptoBulk d + uptoBulkAll r
def uptoBulkEntries {H : Type} : List (Lit × DataW H) → Nat
  | [] => 0
  | x :: r => uptoBulkEntry x + uptoBulkEntries r
def uptoBulkEntry {H : Type} : Lit × DataW H → Nat
  | (.string bytes, d) => bytes.length + uptoBulk d + 1
  | (_, d) => uptoBulk d + 1
 end
def uptoSmall : (H : Type) → List (DataW H) → Bool := fun _ ds => decide (uptoBulkAll ds ≤ 1048576)
def OpenSpec.upto (s : _root_.Go.ChangeSpec) : _root_.Go.OpenSpec := { _root_.Go.OpenSpec.ofChange s with cond := some uptoSmall }

/-- 'laws.FnCounters', WHERE WHAT IT READS IS OF BULK AT MOST 1048576: true; the input reads as it did. -/
def fnCountersUptoRow : OpenClaim := { program := "ythihamjgfemacaa", sum := "26b2b7466ca442661620feb3f061093d85104dfb4342d8a5cc1063c974bd0ccc", func := "loop.example/g01159/laws.FnCounters", spec := "fnCounters", unfollowed := true, recurses := true, apart := false, narrowed := true }
def FnCountersUptoSaid : Prop := fnCountersUptoRow.holds Try.pinned (OpenSpec.upto fnCountersSpec)

/-- 'laws.FnExactIsRow', WHERE WHAT IT READS IS OF BULK AT MOST 1048576: true; the input reads as it did. -/
def fnExactIsRowUptoRow : OpenClaim := { program := "ythihamjgfemacaa", sum := "26b2b7466ca442661620feb3f061093d85104dfb4342d8a5cc1063c974bd0ccc", func := "loop.example/g01159/laws.FnExactIsRow", spec := "fnExactIsRow", apart := false, narrowed := true }
def FnExactIsRowUptoSaid : Prop := fnExactIsRowUptoRow.holds Try.pinned (OpenSpec.upto fnExactIsRowSpec)

/-- 'laws.FnExactWeightOf', WHERE WHAT IT READS IS OF BULK AT MOST 1048576: true; the input reads as it did. -/
def fnExactWeightOfUptoRow : OpenClaim := { program := "ythihamjgfemacaa", sum := "26b2b7466ca442661620feb3f061093d85104dfb4342d8a5cc1063c974bd0ccc", func := "loop.example/g01159/laws.FnExactWeightOf", spec := "fnExactWeightOf", apart := false, narrowed := true }
def FnExactWeightOfUptoSaid : Prop := fnExactWeightOfUptoRow.holds Try.pinned (OpenSpec.upto fnExactWeightOfSpec)

/-- 'laws.FnExactMomentAbout', WHERE WHAT IT READS IS OF BULK AT MOST 1048576: true; the input reads as it did. -/
def fnExactMomentAboutUptoRow : OpenClaim := { program := "ythihamjgfemacaa", sum := "26b2b7466ca442661620feb3f061093d85104dfb4342d8a5cc1063c974bd0ccc", func := "loop.example/g01159/laws.FnExactMomentAbout", spec := "fnExactMomentAbout", apart := false, narrowed := true }
def FnExactMomentAboutUptoSaid : Prop := fnExactMomentAboutUptoRow.holds Try.pinned (OpenSpec.upto fnExactMomentAboutSpec)

/-- 'laws.FnExactCentreOf', WHERE WHAT IT READS IS OF BULK AT MOST 1048576: true; the input reads as it did. -/
def fnExactCentreOfUptoRow : OpenClaim := { program := "ythihamjgfemacaa", sum := "26b2b7466ca442661620feb3f061093d85104dfb4342d8a5cc1063c974bd0ccc", func := "loop.example/g01159/laws.FnExactCentreOf", spec := "fnExactCentreOf", apart := false, narrowed := true }
def FnExactCentreOfUptoSaid : Prop := fnExactCentreOfUptoRow.holds Try.pinned (OpenSpec.upto fnExactCentreOfSpec)

/-- 'laws.FnExactTipSide', WHERE WHAT IT READS IS OF BULK AT MOST 1048576: true; the input reads as it did. -/
def fnExactTipSideUptoRow : OpenClaim := { program := "ythihamjgfemacaa", sum := "26b2b7466ca442661620feb3f061093d85104dfb4342d8a5cc1063c974bd0ccc", func := "loop.example/g01159/laws.FnExactTipSide", spec := "fnExactTipSide", apart := false, narrowed := true }
def FnExactTipSideUptoSaid : Prop := fnExactTipSideUptoRow.holds Try.pinned (OpenSpec.upto fnExactTipSideSpec)

/-- 'laws.FnExactReactionsOf', WHERE WHAT IT READS IS OF BULK AT MOST 1048576: true; the input reads as it did. -/
def fnExactReactionsOfUptoRow : OpenClaim := { program := "ythihamjgfemacaa", sum := "26b2b7466ca442661620feb3f061093d85104dfb4342d8a5cc1063c974bd0ccc", func := "loop.example/g01159/laws.FnExactReactionsOf", spec := "fnExactReactionsOf", apart := false, narrowed := true }
def FnExactReactionsOfUptoSaid : Prop := fnExactReactionsOfUptoRow.holds Try.pinned (OpenSpec.upto fnExactReactionsOfSpec)

/-- 'laws.FnExactMergeRow', WHERE WHAT IT READS IS OF BULK AT MOST 1048576: true; the input reads as it did. -/
def fnExactMergeRowUptoRow : OpenClaim := { program := "ythihamjgfemacaa", sum := "26b2b7466ca442661620feb3f061093d85104dfb4342d8a5cc1063c974bd0ccc", func := "loop.example/g01159/laws.FnExactMergeRow", spec := "fnExactMergeRow", unfollowed := true, recurses := true, apart := false, narrowed := true }
def FnExactMergeRowUptoSaid : Prop := fnExactMergeRowUptoRow.holds Try.pinned (OpenSpec.upto fnExactMergeRowSpec)

/-- 'laws.FnExactJoinRows', WHERE WHAT IT READS IS OF BULK AT MOST 1048576: true; the input reads as it did. -/
def fnExactJoinRowsUptoRow : OpenClaim := { program := "ythihamjgfemacaa", sum := "26b2b7466ca442661620feb3f061093d85104dfb4342d8a5cc1063c974bd0ccc", func := "loop.example/g01159/laws.FnExactJoinRows", spec := "fnExactJoinRows", unfollowed := true, recurses := true, apart := false, narrowed := true }
def FnExactJoinRowsUptoSaid : Prop := fnExactJoinRowsUptoRow.holds Try.pinned (OpenSpec.upto fnExactJoinRowsSpec)

/-- 'laws.FnExactShiftRow', WHERE WHAT IT READS IS OF BULK AT MOST 1048576: true; the input reads as it did. -/
def fnExactShiftRowUptoRow : OpenClaim := { program := "ythihamjgfemacaa", sum := "26b2b7466ca442661620feb3f061093d85104dfb4342d8a5cc1063c974bd0ccc", func := "loop.example/g01159/laws.FnExactShiftRow", spec := "fnExactShiftRow", unfollowed := true, recurses := true, apart := false, narrowed := true }
def FnExactShiftRowUptoSaid : Prop := fnExactShiftRowUptoRow.holds Try.pinned (OpenSpec.upto fnExactShiftRowSpec)

/-- 'laws.FnExactMirrorRow', WHERE WHAT IT READS IS OF BULK AT MOST 1048576: true; the input reads as it did. -/
def fnExactMirrorRowUptoRow : OpenClaim := { program := "ythihamjgfemacaa", sum := "26b2b7466ca442661620feb3f061093d85104dfb4342d8a5cc1063c974bd0ccc", func := "loop.example/g01159/laws.FnExactMirrorRow", spec := "fnExactMirrorRow", unfollowed := true, recurses := true, apart := false, narrowed := true }
def FnExactMirrorRowUptoSaid : Prop := fnExactMirrorRowUptoRow.holds Try.pinned (OpenSpec.upto fnExactMirrorRowSpec)

/-- 'laws.FnExactStandPlaces', WHERE WHAT IT READS IS OF BULK AT MOST 1048576: true; the input reads as it did. -/
def fnExactStandPlacesUptoRow : OpenClaim := { program := "ythihamjgfemacaa", sum := "26b2b7466ca442661620feb3f061093d85104dfb4342d8a5cc1063c974bd0ccc", func := "loop.example/g01159/laws.FnExactStandPlaces", spec := "fnExactStandPlaces", unfollowed := true, recurses := true, apart := false, narrowed := true }
def FnExactStandPlacesUptoSaid : Prop := fnExactStandPlacesUptoRow.holds Try.pinned (OpenSpec.upto fnExactStandPlacesSpec)

/-- 'laws.FnExactLeastCounter', WHERE WHAT IT READS IS OF BULK AT MOST 1048576: true; the input reads as it did. -/
def fnExactLeastCounterUptoRow : OpenClaim := { program := "ythihamjgfemacaa", sum := "26b2b7466ca442661620feb3f061093d85104dfb4342d8a5cc1063c974bd0ccc", func := "loop.example/g01159/laws.FnExactLeastCounter", spec := "fnExactLeastCounter", unfollowed := true, recurses := true, apart := false, narrowed := true }
def FnExactLeastCounterUptoSaid : Prop := fnExactLeastCounterUptoRow.holds Try.pinned (OpenSpec.upto fnExactLeastCounterSpec)

/-- 'laws.FnExactMostExtra', WHERE WHAT IT READS IS OF BULK AT MOST 1048576: true; the input reads as it did. -/
def fnExactMostExtraUptoRow : OpenClaim := { program := "ythihamjgfemacaa", sum := "26b2b7466ca442661620feb3f061093d85104dfb4342d8a5cc1063c974bd0ccc", func := "loop.example/g01159/laws.FnExactMostExtra", spec := "fnExactMostExtra", unfollowed := true, recurses := true, apart := false, narrowed := true }
def FnExactMostExtraUptoSaid : Prop := fnExactMostExtraUptoRow.holds Try.pinned (OpenSpec.upto fnExactMostExtraSpec)

/-- 'laws.FnExactNarrowBase', WHERE WHAT IT READS IS OF BULK AT MOST 1048576: true; the input reads as it did. -/
def fnExactNarrowBaseUptoRow : OpenClaim := { program := "ythihamjgfemacaa", sum := "26b2b7466ca442661620feb3f061093d85104dfb4342d8a5cc1063c974bd0ccc", func := "loop.example/g01159/laws.FnExactNarrowBase", spec := "fnExactNarrowBase", apart := false, narrowed := true }
def FnExactNarrowBaseUptoSaid : Prop := fnExactNarrowBaseUptoRow.holds Try.pinned (OpenSpec.upto fnExactNarrowBaseSpec)

/-- 'laws.FnExactUpperCentre', WHERE WHAT IT READS IS OF BULK AT MOST 1048576: true; the input reads as it did. -/
def fnExactUpperCentreUptoRow : OpenClaim := { program := "ythihamjgfemacaa", sum := "26b2b7466ca442661620feb3f061093d85104dfb4342d8a5cc1063c974bd0ccc", func := "loop.example/g01159/laws.FnExactUpperCentre", spec := "fnExactUpperCentre", apart := false, narrowed := true }
def FnExactUpperCentreUptoSaid : Prop := fnExactUpperCentreUptoRow.holds Try.pinned (OpenSpec.upto fnExactUpperCentreSpec)

/-- 'laws.FnExactHoldsBrick', WHERE WHAT IT READS IS OF BULK AT MOST 1048576: true; the input reads as it did. -/
def fnExactHoldsBrickUptoRow : OpenClaim := { program := "ythihamjgfemacaa", sum := "26b2b7466ca442661620feb3f061093d85104dfb4342d8a5cc1063c974bd0ccc", func := "loop.example/g01159/laws.FnExactHoldsBrick", spec := "fnExactHoldsBrick", apart := false, narrowed := true }
def FnExactHoldsBrickUptoSaid : Prop := fnExactHoldsBrickUptoRow.holds Try.pinned (OpenSpec.upto fnExactHoldsBrickSpec)

/-- 'laws.FnExactStandsFirm', WHERE WHAT IT READS IS OF BULK AT MOST 1048576: true; the input reads as it did. -/
def fnExactStandsFirmUptoRow : OpenClaim := { program := "ythihamjgfemacaa", sum := "26b2b7466ca442661620feb3f061093d85104dfb4342d8a5cc1063c974bd0ccc", func := "loop.example/g01159/laws.FnExactStandsFirm", spec := "fnExactStandsFirm", apart := false, narrowed := true }
def FnExactStandsFirmUptoSaid : Prop := fnExactStandsFirmUptoRow.holds Try.pinned (OpenSpec.upto fnExactStandsFirmSpec)

/-- 'laws.FnExactHighestLoose', WHERE WHAT IT READS IS OF BULK AT MOST 1048576: true; the input reads as it did. -/
def fnExactHighestLooseUptoRow : OpenClaim := { program := "ythihamjgfemacaa", sum := "26b2b7466ca442661620feb3f061093d85104dfb4342d8a5cc1063c974bd0ccc", func := "loop.example/g01159/laws.FnExactHighestLoose", spec := "fnExactHighestLoose", apart := false, narrowed := true }
def FnExactHighestLooseUptoSaid : Prop := fnExactHighestLooseUptoRow.holds Try.pinned (OpenSpec.upto fnExactHighestLooseSpec)

/-- 'laws.FnExactMostShift', WHERE WHAT IT READS IS OF BULK AT MOST 1048576: true; the input reads as it did. -/
def fnExactMostShiftUptoRow : OpenClaim := { program := "ythihamjgfemacaa", sum := "26b2b7466ca442661620feb3f061093d85104dfb4342d8a5cc1063c974bd0ccc", func := "loop.example/g01159/laws.FnExactMostShift", spec := "fnExactMostShift", unfollowed := true, recurses := true, apart := false, narrowed := true }
def FnExactMostShiftUptoSaid : Prop := fnExactMostShiftUptoRow.holds Try.pinned (OpenSpec.upto fnExactMostShiftSpec)

/-- 'laws.FnExactFirmTops', WHERE WHAT IT READS IS OF BULK AT MOST 1048576: true; the input reads as it did. -/
def fnExactFirmTopsUptoRow : OpenClaim := { program := "ythihamjgfemacaa", sum := "26b2b7466ca442661620feb3f061093d85104dfb4342d8a5cc1063c974bd0ccc", func := "loop.example/g01159/laws.FnExactFirmTops", spec := "fnExactFirmTops", unfollowed := true, recurses := true, apart := false, narrowed := true }
def FnExactFirmTopsUptoSaid : Prop := fnExactFirmTopsUptoRow.holds Try.pinned (OpenSpec.upto fnExactFirmTopsSpec)

end Rows
end Go.Proofs.Ythihamjgfemacaa
