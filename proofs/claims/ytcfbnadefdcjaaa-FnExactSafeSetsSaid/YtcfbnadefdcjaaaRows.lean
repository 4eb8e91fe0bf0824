/-
  No cell of these rows narrows 'for every input' (looked for: loops, veiled, ifaces, maps, wideKeys, modest, calm, conditions, laid).
  DERIVED. THE GIVEN ROWS OF THIS SEAT. 18 by the template 'for every input the law returns true; each argument reads behind the call as it read before'; 0 by the template 'total and deterministic' (their statements: YtcfbnadefdcjaaaTotals.lean).
  GIVEN WITH THE SEED: the statements are not yours to turn. If you find one false, say at which input.
  Laid BY PROGRAM, IN A SANDBOX (cutbox-rows.mjs): the forced cells as the released guide's own fill.sh prints them over the translation b42b5ee4a2e540bd… (all of the seat's roots in one cut). By AI agents, Wed Nov 11 2026. No macro, syntax, notation, axiom, sorry.
-/
import Derived.Test.YtcfbnadefdcjaaaChecked
import GoSem.Claim
import GoSem.ClaimJoined
import GoSem.ClaimMapViews
import Derived.JoinedTies
import Derived.KernelRfl
namespace Go.Proofs.Ytcfbnadefdcjaaa
/- THE CELL 'sum', in the pinned program and in every row, IS THE sha256 OF THE DUMP (.gsa) THAT YtcfbnadefdcjaaaProg.lean LOADS. Nothing in Lean hashes anything: it is a label: what it is worth is what the hold of that sum in a sandbox is worth. -/
noncomputable def Try.pinned : Pinned := { name := "ytcfbnadefdcjaaa", sum := "b42b5ee4a2e540bd864183ad9457e232c0705839e9eaeef04dd327abefbb1012", checked := Try.checked }
namespace Rows
def none {H : Type} : Left H := { results := [], args := [] }

/-- 'laws.FnExactIsRaft': WHATEVER THE INPUT: true; the input reads as it did. -/
def fnExactIsRaftSpec : ChangeSpec := { name := "fnExactIsRaft", fn := fun _ => fun
  | [d] => { results := [.lit (.bool true)], args := [d] }
  | _ => none }
def fnExactIsRaftRow : OpenClaim := { program := "ytcfbnadefdcjaaa", sum := "b42b5ee4a2e540bd864183ad9457e232c0705839e9eaeef04dd327abefbb1012", func := "loop.example/g01159/laws.FnExactIsRaft", spec := "fnExactIsRaft", plainKeys := false, apart := false }
def FnExactIsRaftSaid : Prop := fnExactIsRaftRow.holds Try.pinned (OpenSpec.ofChange fnExactIsRaftSpec)

/-- ITS FALSE NEIGHBOUR: 'it returns false'. Refute it at one input. -/
def fnExactIsRaftWrong : ChangeSpec := { name := "fnExactIsRaft", fn := fun _ => fun
  | [d] => { results := [.lit (.bool false)], args := [d] }
  | _ => none }
def FnExactIsRaftWrongFalsely : Prop := fnExactIsRaftRow.holds Try.pinned (OpenSpec.ofChange fnExactIsRaftWrong)

/-- 'laws.FnExactRaftSide': WHATEVER THE INPUT: true; the input reads as it did. -/
def fnExactRaftSideSpec : ChangeSpec := { name := "fnExactRaftSide", fn := fun _ => fun
  | [d1, d2, d3] => { results := [.lit (.bool true)], args := [d1, d2, d3] }
  | _ => none }
def fnExactRaftSideRow : OpenClaim := { program := "ytcfbnadefdcjaaa", sum := "b42b5ee4a2e540bd864183ad9457e232c0705839e9eaeef04dd327abefbb1012", func := "loop.example/g01159/laws.FnExactRaftSide", spec := "fnExactRaftSide", plainKeys := false, apart := false }
def FnExactRaftSideSaid : Prop := fnExactRaftSideRow.holds Try.pinned (OpenSpec.ofChange fnExactRaftSideSpec)

/-- ITS FALSE NEIGHBOUR: 'it returns false'. Refute it at one input. -/
def fnExactRaftSideWrong : ChangeSpec := { name := "fnExactRaftSide", fn := fun _ => fun
  | [d1, d2, d3] => { results := [.lit (.bool false)], args := [d1, d2, d3] }
  | _ => none }
def FnExactRaftSideWrongFalsely : Prop := fnExactRaftSideRow.holds Try.pinned (OpenSpec.ofChange fnExactRaftSideWrong)

/-- 'laws.FnExactRaftReserve': WHATEVER THE INPUT: true; the input reads as it did. -/
def fnExactRaftReserveSpec : ChangeSpec := { name := "fnExactRaftReserve", fn := fun _ => fun
  | [d1, d2, d3] => { results := [.lit (.bool true)], args := [d1, d2, d3] }
  | _ => none }
def fnExactRaftReserveRow : OpenClaim := { program := "ytcfbnadefdcjaaa", sum := "b42b5ee4a2e540bd864183ad9457e232c0705839e9eaeef04dd327abefbb1012", func := "loop.example/g01159/laws.FnExactRaftReserve", spec := "fnExactRaftReserve", plainKeys := false, apart := false }
def FnExactRaftReserveSaid : Prop := fnExactRaftReserveRow.holds Try.pinned (OpenSpec.ofChange fnExactRaftReserveSpec)

/-- ITS FALSE NEIGHBOUR: 'it returns false'. Refute it at one input. -/
def fnExactRaftReserveWrong : ChangeSpec := { name := "fnExactRaftReserve", fn := fun _ => fun
  | [d1, d2, d3] => { results := [.lit (.bool false)], args := [d1, d2, d3] }
  | _ => none }
def FnExactRaftReserveWrongFalsely : Prop := fnExactRaftReserveRow.holds Try.pinned (OpenSpec.ofChange fnExactRaftReserveWrong)

/-- 'laws.FnExactSafeSets': WHATEVER THE INPUT: true; the input reads as it did. -/
def fnExactSafeSetsSpec : ChangeSpec := { name := "fnExactSafeSets", fn := fun _ => fun
  | [d1, d2] => { results := [.lit (.bool true)], args := [d1, d2] }
  | _ => none }
def fnExactSafeSetsRow : OpenClaim := { program := "ytcfbnadefdcjaaa", sum := "b42b5ee4a2e540bd864183ad9457e232c0705839e9eaeef04dd327abefbb1012", func := "loop.example/g01159/laws.FnExactSafeSets", spec := "fnExactSafeSets", unfollowed := true, recurses := true, plainKeys := false, apart := false }
def FnExactSafeSetsSaid : Prop := fnExactSafeSetsRow.holds Try.pinned (OpenSpec.ofChange fnExactSafeSetsSpec)

/-- ITS FALSE NEIGHBOUR: 'it returns false'. Refute it at one input. -/
def fnExactSafeSetsWrong : ChangeSpec := { name := "fnExactSafeSets", fn := fun _ => fun
  | [d1, d2] => { results := [.lit (.bool false)], args := [d1, d2] }
  | _ => none }
def FnExactSafeSetsWrongFalsely : Prop := fnExactSafeSetsRow.holds Try.pinned (OpenSpec.ofChange fnExactSafeSetsWrong)

/-- 'laws.FnExactIsSafeOrder': WHATEVER THE INPUT: true; the input reads as it did. -/
def fnExactIsSafeOrderSpec : ChangeSpec := { name := "fnExactIsSafeOrder", fn := fun _ => fun
  | [d1, d2, d3] => { results := [.lit (.bool true)], args := [d1, d2, d3] }
  | _ => none }
def fnExactIsSafeOrderRow : OpenClaim := { program := "ytcfbnadefdcjaaa", sum := "b42b5ee4a2e540bd864183ad9457e232c0705839e9eaeef04dd327abefbb1012", func := "loop.example/g01159/laws.FnExactIsSafeOrder", spec := "fnExactIsSafeOrder", unfollowed := true, recurses := true, plainKeys := false, apart := false }
def FnExactIsSafeOrderSaid : Prop := fnExactIsSafeOrderRow.holds Try.pinned (OpenSpec.ofChange fnExactIsSafeOrderSpec)

/-- ITS FALSE NEIGHBOUR: 'it returns false'. Refute it at one input. -/
def fnExactIsSafeOrderWrong : ChangeSpec := { name := "fnExactIsSafeOrder", fn := fun _ => fun
  | [d1, d2, d3] => { results := [.lit (.bool false)], args := [d1, d2, d3] }
  | _ => none }
def FnExactIsSafeOrderWrongFalsely : Prop := fnExactIsSafeOrderRow.holds Try.pinned (OpenSpec.ofChange fnExactIsSafeOrderWrong)

/-- 'laws.FnExactFirstTip': WHATEVER THE INPUT: true; the input reads as it did. -/
def fnExactFirstTipSpec : ChangeSpec := { name := "fnExactFirstTip", fn := fun _ => fun
  | [d1, d2, d3] => { results := [.lit (.bool true)], args := [d1, d2, d3] }
  | _ => none }
def fnExactFirstTipRow : OpenClaim := { program := "ytcfbnadefdcjaaa", sum := "b42b5ee4a2e540bd864183ad9457e232c0705839e9eaeef04dd327abefbb1012", func := "loop.example/g01159/laws.FnExactFirstTip", spec := "fnExactFirstTip", unfollowed := true, recurses := true, plainKeys := false, apart := false }
def FnExactFirstTipSaid : Prop := fnExactFirstTipRow.holds Try.pinned (OpenSpec.ofChange fnExactFirstTipSpec)

/-- ITS FALSE NEIGHBOUR: 'it returns false'. Refute it at one input. -/
def fnExactFirstTipWrong : ChangeSpec := { name := "fnExactFirstTip", fn := fun _ => fun
  | [d1, d2, d3] => { results := [.lit (.bool false)], args := [d1, d2, d3] }
  | _ => none }
def FnExactFirstTipWrongFalsely : Prop := fnExactFirstTipRow.holds Try.pinned (OpenSpec.ofChange fnExactFirstTipWrong)

/-- 'laws.FnExactCountSafe': WHATEVER THE INPUT: true; the input reads as it did. -/
def fnExactCountSafeSpec : ChangeSpec := { name := "fnExactCountSafe", fn := fun _ => fun
  | [d1, d2] => { results := [.lit (.bool true)], args := [d1, d2] }
  | _ => none }
def fnExactCountSafeRow : OpenClaim := { program := "ytcfbnadefdcjaaa", sum := "b42b5ee4a2e540bd864183ad9457e232c0705839e9eaeef04dd327abefbb1012", func := "loop.example/g01159/laws.FnExactCountSafe", spec := "fnExactCountSafe", unfollowed := true, recurses := true, plainKeys := false, apart := false }
def FnExactCountSafeSaid : Prop := fnExactCountSafeRow.holds Try.pinned (OpenSpec.ofChange fnExactCountSafeSpec)

/-- ITS FALSE NEIGHBOUR: 'it returns false'. Refute it at one input. -/
def fnExactCountSafeWrong : ChangeSpec := { name := "fnExactCountSafe", fn := fun _ => fun
  | [d1, d2] => { results := [.lit (.bool false)], args := [d1, d2] }
  | _ => none }
def FnExactCountSafeWrongFalsely : Prop := fnExactCountSafeRow.holds Try.pinned (OpenSpec.ofChange fnExactCountSafeWrong)

/-- 'laws.FnExactSafeOrder': WHATEVER THE INPUT: true; the input reads as it did. -/
def fnExactSafeOrderSpec : ChangeSpec := { name := "fnExactSafeOrder", fn := fun _ => fun
  | [d1, d2] => { results := [.lit (.bool true)], args := [d1, d2] }
  | _ => none }
def fnExactSafeOrderRow : OpenClaim := { program := "ytcfbnadefdcjaaa", sum := "b42b5ee4a2e540bd864183ad9457e232c0705839e9eaeef04dd327abefbb1012", func := "loop.example/g01159/laws.FnExactSafeOrder", spec := "fnExactSafeOrder", unfollowed := true, recurses := true, plainKeys := false, apart := false }
def FnExactSafeOrderSaid : Prop := fnExactSafeOrderRow.holds Try.pinned (OpenSpec.ofChange fnExactSafeOrderSpec)

/-- ITS FALSE NEIGHBOUR: 'it returns false'. Refute it at one input. -/
def fnExactSafeOrderWrong : ChangeSpec := { name := "fnExactSafeOrder", fn := fun _ => fun
  | [d1, d2] => { results := [.lit (.bool false)], args := [d1, d2] }
  | _ => none }
def FnExactSafeOrderWrongFalsely : Prop := fnExactSafeOrderRow.holds Try.pinned (OpenSpec.ofChange fnExactSafeOrderWrong)

/-- 'laws.FnExactSafeStep': WHATEVER THE INPUT: true; the input reads as it did. -/
def fnExactSafeStepSpec : ChangeSpec := { name := "fnExactSafeStep", fn := fun _ => fun
  | [d1, d2, d3] => { results := [.lit (.bool true)], args := [d1, d2, d3] }
  | _ => none }
def fnExactSafeStepRow : OpenClaim := { program := "ytcfbnadefdcjaaa", sum := "b42b5ee4a2e540bd864183ad9457e232c0705839e9eaeef04dd327abefbb1012", func := "loop.example/g01159/laws.FnExactSafeStep", spec := "fnExactSafeStep", unfollowed := true, recurses := true, plainKeys := false, apart := false }
def FnExactSafeStepSaid : Prop := fnExactSafeStepRow.holds Try.pinned (OpenSpec.ofChange fnExactSafeStepSpec)

/-- ITS FALSE NEIGHBOUR: 'it returns false'. Refute it at one input. -/
def fnExactSafeStepWrong : ChangeSpec := { name := "fnExactSafeStep", fn := fun _ => fun
  | [d1, d2, d3] => { results := [.lit (.bool false)], args := [d1, d2, d3] }
  | _ => none }
def FnExactSafeStepWrongFalsely : Prop := fnExactSafeStepRow.holds Try.pinned (OpenSpec.ofChange fnExactSafeStepWrong)

/-- 'laws.FnExactUnloadOrder': WHATEVER THE INPUT: true; the input reads as it did. -/
def fnExactUnloadOrderSpec : ChangeSpec := { name := "fnExactUnloadOrder", fn := fun _ => fun
  | [d1, d2] => { results := [.lit (.bool true)], args := [d1, d2] }
  | _ => none }
def fnExactUnloadOrderRow : OpenClaim := { program := "ytcfbnadefdcjaaa", sum := "b42b5ee4a2e540bd864183ad9457e232c0705839e9eaeef04dd327abefbb1012", func := "loop.example/g01159/laws.FnExactUnloadOrder", spec := "fnExactUnloadOrder", unfollowed := true, recurses := true, plainKeys := false, apart := false }
def FnExactUnloadOrderSaid : Prop := fnExactUnloadOrderRow.holds Try.pinned (OpenSpec.ofChange fnExactUnloadOrderSpec)

/-- ITS FALSE NEIGHBOUR: 'it returns false'. Refute it at one input. -/
def fnExactUnloadOrderWrong : ChangeSpec := { name := "fnExactUnloadOrder", fn := fun _ => fun
  | [d1, d2] => { results := [.lit (.bool false)], args := [d1, d2] }
  | _ => none }
def FnExactUnloadOrderWrongFalsely : Prop := fnExactUnloadOrderRow.holds Try.pinned (OpenSpec.ofChange fnExactUnloadOrderWrong)

/-- 'laws.FnExactLeastOwn': WHATEVER THE INPUT: true; the input reads as it did. -/
def fnExactLeastOwnSpec : ChangeSpec := { name := "fnExactLeastOwn", fn := fun _ => fun
  | [d1, d2] => { results := [.lit (.bool true)], args := [d1, d2] }
  | _ => none }
def fnExactLeastOwnRow : OpenClaim := { program := "ytcfbnadefdcjaaa", sum := "b42b5ee4a2e540bd864183ad9457e232c0705839e9eaeef04dd327abefbb1012", func := "loop.example/g01159/laws.FnExactLeastOwn", spec := "fnExactLeastOwn", unfollowed := true, recurses := true, plainKeys := false, apart := false }
def FnExactLeastOwnSaid : Prop := fnExactLeastOwnRow.holds Try.pinned (OpenSpec.ofChange fnExactLeastOwnSpec)

/-- ITS FALSE NEIGHBOUR: 'it returns false'. Refute it at one input. -/
def fnExactLeastOwnWrong : ChangeSpec := { name := "fnExactLeastOwn", fn := fun _ => fun
  | [d1, d2] => { results := [.lit (.bool false)], args := [d1, d2] }
  | _ => none }
def FnExactLeastOwnWrongFalsely : Prop := fnExactLeastOwnRow.holds Try.pinned (OpenSpec.ofChange fnExactLeastOwnWrong)

/-- 'laws.FnExactPairSteps': WHATEVER THE INPUT: true; the input reads as it did. -/
def fnExactPairStepsSpec : ChangeSpec := { name := "fnExactPairSteps", fn := fun _ => fun
  | [d1, d2] => { results := [.lit (.bool true)], args := [d1, d2] }
  | _ => none }
def fnExactPairStepsRow : OpenClaim := { program := "ytcfbnadefdcjaaa", sum := "b42b5ee4a2e540bd864183ad9457e232c0705839e9eaeef04dd327abefbb1012", func := "loop.example/g01159/laws.FnExactPairSteps", spec := "fnExactPairSteps", unfollowed := true, recurses := true, plainKeys := false, apart := false }
def FnExactPairStepsSaid : Prop := fnExactPairStepsRow.holds Try.pinned (OpenSpec.ofChange fnExactPairStepsSpec)

/-- ITS FALSE NEIGHBOUR: 'it returns false'. Refute it at one input. -/
def fnExactPairStepsWrong : ChangeSpec := { name := "fnExactPairSteps", fn := fun _ => fun
  | [d1, d2] => { results := [.lit (.bool false)], args := [d1, d2] }
  | _ => none }
def FnExactPairStepsWrongFalsely : Prop := fnExactPairStepsRow.holds Try.pinned (OpenSpec.ofChange fnExactPairStepsWrong)

/-- 'laws.FnExactHardestItem': WHATEVER THE INPUT: true; the input reads as it did. -/
def fnExactHardestItemSpec : ChangeSpec := { name := "fnExactHardestItem", fn := fun _ => fun
  | [d1, d2] => { results := [.lit (.bool true)], args := [d1, d2] }
  | _ => none }
def fnExactHardestItemRow : OpenClaim := { program := "ytcfbnadefdcjaaa", sum := "b42b5ee4a2e540bd864183ad9457e232c0705839e9eaeef04dd327abefbb1012", func := "loop.example/g01159/laws.FnExactHardestItem", spec := "fnExactHardestItem", unfollowed := true, recurses := true, plainKeys := false, apart := false }
def FnExactHardestItemSaid : Prop := fnExactHardestItemRow.holds Try.pinned (OpenSpec.ofChange fnExactHardestItemSpec)

/-- ITS FALSE NEIGHBOUR: 'it returns false'. Refute it at one input. -/
def fnExactHardestItemWrong : ChangeSpec := { name := "fnExactHardestItem", fn := fun _ => fun
  | [d1, d2] => { results := [.lit (.bool false)], args := [d1, d2] }
  | _ => none }
def FnExactHardestItemWrongFalsely : Prop := fnExactHardestItemRow.holds Try.pinned (OpenSpec.ofChange fnExactHardestItemWrong)

/-- 'laws.FnStages': WHATEVER THE INPUT: true; the input reads as it did. -/
def fnStagesSpec : ChangeSpec := { name := "fnStages", fn := fun _ => fun
  | [d] => { results := [.lit (.bool true)], args := [d] }
  | _ => none }
def fnStagesRow : OpenClaim := { program := "ytcfbnadefdcjaaa", sum := "b42b5ee4a2e540bd864183ad9457e232c0705839e9eaeef04dd327abefbb1012", func := "loop.example/g01159/laws.FnStages", spec := "fnStages", unfollowed := true, recurses := true, plainKeys := false, apart := false }
def FnStagesSaid : Prop := fnStagesRow.holds Try.pinned (OpenSpec.ofChange fnStagesSpec)

/-- ITS FALSE NEIGHBOUR: 'it returns false'. Refute it at one input. -/
def fnStagesWrong : ChangeSpec := { name := "fnStages", fn := fun _ => fun
  | [d] => { results := [.lit (.bool false)], args := [d] }
  | _ => none }
def FnStagesWrongFalsely : Prop := fnStagesRow.holds Try.pinned (OpenSpec.ofChange fnStagesWrong)

/-- 'laws.FnRafts': WHATEVER THE INPUT: true; the input reads as it did. -/
def fnRaftsSpec : ChangeSpec := { name := "fnRafts", fn := fun _ => fun
  | [d] => { results := [.lit (.bool true)], args := [d] }
  | _ => none }
def fnRaftsRow : OpenClaim := { program := "ytcfbnadefdcjaaa", sum := "b42b5ee4a2e540bd864183ad9457e232c0705839e9eaeef04dd327abefbb1012", func := "loop.example/g01159/laws.FnRafts", spec := "fnRafts", unfollowed := true, recurses := true, plainKeys := false, apart := false }
def FnRaftsSaid : Prop := fnRaftsRow.holds Try.pinned (OpenSpec.ofChange fnRaftsSpec)

/-- ITS FALSE NEIGHBOUR: 'it returns false'. Refute it at one input. -/
def fnRaftsWrong : ChangeSpec := { name := "fnRafts", fn := fun _ => fun
  | [d] => { results := [.lit (.bool false)], args := [d] }
  | _ => none }
def FnRaftsWrongFalsely : Prop := fnRaftsRow.holds Try.pinned (OpenSpec.ofChange fnRaftsWrong)

/-- 'laws.FnExactStackBodies': WHATEVER THE INPUT: true; the input reads as it did. -/
def fnExactStackBodiesSpec : ChangeSpec := { name := "fnExactStackBodies", fn := fun _ => fun
  | [d1, d2, d3] => { results := [.lit (.bool true)], args := [d1, d2, d3] }
  | _ => none }
def fnExactStackBodiesRow : OpenClaim := { program := "ytcfbnadefdcjaaa", sum := "b42b5ee4a2e540bd864183ad9457e232c0705839e9eaeef04dd327abefbb1012", func := "loop.example/g01159/laws.FnExactStackBodies", spec := "fnExactStackBodies", unfollowed := true, recurses := true, plainKeys := false, apart := false }
def FnExactStackBodiesSaid : Prop := fnExactStackBodiesRow.holds Try.pinned (OpenSpec.ofChange fnExactStackBodiesSpec)

/-- ITS FALSE NEIGHBOUR: 'it returns false'. Refute it at one input. -/
def fnExactStackBodiesWrong : ChangeSpec := { name := "fnExactStackBodies", fn := fun _ => fun
  | [d1, d2, d3] => { results := [.lit (.bool false)], args := [d1, d2, d3] }
  | _ => none }
def FnExactStackBodiesWrongFalsely : Prop := fnExactStackBodiesRow.holds Try.pinned (OpenSpec.ofChange fnExactStackBodiesWrong)

/-- 'laws.FnExactFirstEven': WHATEVER THE INPUT: true; the input reads as it did. -/
def fnExactFirstEvenSpec : ChangeSpec := { name := "fnExactFirstEven", fn := fun _ => fun
  | [d1, d2] => { results := [.lit (.bool true)], args := [d1, d2] }
  | _ => none }
def fnExactFirstEvenRow : OpenClaim := { program := "ytcfbnadefdcjaaa", sum := "b42b5ee4a2e540bd864183ad9457e232c0705839e9eaeef04dd327abefbb1012", func := "loop.example/g01159/laws.FnExactFirstEven", spec := "fnExactFirstEven", unfollowed := true, recurses := true, plainKeys := false, apart := false }
def FnExactFirstEvenSaid : Prop := fnExactFirstEvenRow.holds Try.pinned (OpenSpec.ofChange fnExactFirstEvenSpec)

/-- ITS FALSE NEIGHBOUR: 'it returns false'. Refute it at one input. -/
def fnExactFirstEvenWrong : ChangeSpec := { name := "fnExactFirstEven", fn := fun _ => fun
  | [d1, d2] => { results := [.lit (.bool false)], args := [d1, d2] }
  | _ => none }
def FnExactFirstEvenWrongFalsely : Prop := fnExactFirstEvenRow.holds Try.pinned (OpenSpec.ofChange fnExactFirstEvenWrong)

/-- 'laws.FnExactCountEven': WHATEVER THE INPUT: true; the input reads as it did. -/
def fnExactCountEvenSpec : ChangeSpec := { name := "fnExactCountEven", fn := fun _ => fun
  | [d1, d2] => { results := [.lit (.bool true)], args := [d1, d2] }
  | _ => none }
def fnExactCountEvenRow : OpenClaim := { program := "ytcfbnadefdcjaaa", sum := "b42b5ee4a2e540bd864183ad9457e232c0705839e9eaeef04dd327abefbb1012", func := "loop.example/g01159/laws.FnExactCountEven", spec := "fnExactCountEven", unfollowed := true, recurses := true, plainKeys := false, apart := false }
def FnExactCountEvenSaid : Prop := fnExactCountEvenRow.holds Try.pinned (OpenSpec.ofChange fnExactCountEvenSpec)

/-- ITS FALSE NEIGHBOUR: 'it returns false'. Refute it at one input. -/
def fnExactCountEvenWrong : ChangeSpec := { name := "fnExactCountEven", fn := fun _ => fun
  | [d1, d2] => { results := [.lit (.bool false)], args := [d1, d2] }
  | _ => none }
def FnExactCountEvenWrongFalsely : Prop := fnExactCountEvenRow.holds Try.pinned (OpenSpec.ofChange fnExactCountEvenWrong)

/- THE SECOND FORM. 'bulk': how many values and letters a reading holds, each counted each time it is reached (what is shared counts as often as it is met; a slice's spare places count too). A statement '..UptoSaid' is the law's where the arguments, and the package variables that the reading takes, are together of bulk at most 1048576: NARROWER than '..Said'. Prove '..Said' where nothing that the law and all that it calls make is longer than what came in: it says more and counts as full. Else prove '..UptoSaid'. A law counts once. -/
mutual
def uptoBulk {H : Type} : DataW H → Nat
  | .lit (.string bytes) => bytes.length + 1
  | .lit _ => 1
  | .nil => 1
  | .ptr d => uptoBulk d + 1
  | .slice elems spare => uptoBulkAll elems + uptoBulkAll spare + 1
  | .agg parts => uptoBulkAll parts + 1
  | .iface _ d => uptoBulk d + 1
  | .map entries => uptoBulkEntries entries + 1
  | .held _ => 1
def uptoBulkAll {H : Type} : List (DataW H) → Nat
  | [] => 0
  | d :: r => uptoBulk d + uptoBulkAll r
def uptoBulkEntries {H : Type} : List (Lit × DataW H) → Nat
  | [] => 0
  | x :: r => uptoBulkEntry x + uptoBulkEntries r
def uptoBulkEntry {H : Type} : Lit × DataW H → Nat
  | (.string bytes, d) => bytes.length + uptoBulk d + 1
  | (_, d) => uptoBulk d + 1
 end
def uptoSmall : (H : Type) → List (DataW H) → Bool := fun _ ds => decide (uptoBulkAll ds ≤ 1048576)
def OpenSpec.upto (s : _root_.Go.ChangeSpec) : _root_.Go.OpenSpec := { _root_.Go.OpenSpec.ofChange s with cond := some uptoSmall }

/-- 'laws.FnExactIsRaft', WHERE WHAT IT READS IS OF BULK AT MOST 1048576: true; the input reads as it did. -/
def fnExactIsRaftUptoRow : OpenClaim := { program := "ytcfbnadefdcjaaa", sum := "b42b5ee4a2e540bd864183ad9457e232c0705839e9eaeef04dd327abefbb1012", func := "loop.example/g01159/laws.FnExactIsRaft", spec := "fnExactIsRaft", plainKeys := false, apart := false, narrowed := true }
def FnExactIsRaftUptoSaid : Prop := fnExactIsRaftUptoRow.holds Try.pinned (OpenSpec.upto fnExactIsRaftSpec)

/-- 'laws.FnExactRaftSide', WHERE WHAT IT READS IS OF BULK AT MOST 1048576: true; the input reads as it did. -/
def fnExactRaftSideUptoRow : OpenClaim := { program := "ytcfbnadefdcjaaa", sum := "b42b5ee4a2e540bd864183ad9457e232c0705839e9eaeef04dd327abefbb1012", func := "loop.example/g01159/laws.FnExactRaftSide", spec := "fnExactRaftSide", plainKeys := false, apart := false, narrowed := true }
def FnExactRaftSideUptoSaid : Prop := fnExactRaftSideUptoRow.holds Try.pinned (OpenSpec.upto fnExactRaftSideSpec)

/-- 'laws.FnExactRaftReserve', WHERE WHAT IT READS IS OF BULK AT MOST 1048576: true; the input reads as it did. -/
def fnExactRaftReserveUptoRow : OpenClaim := { program := "ytcfbnadefdcjaaa", sum := "b42b5ee4a2e540bd864183ad9457e232c0705839e9eaeef04dd327abefbb1012", func := "loop.example/g01159/laws.FnExactRaftReserve", spec := "fnExactRaftReserve", plainKeys := false, apart := false, narrowed := true }
def FnExactRaftReserveUptoSaid : Prop := fnExactRaftReserveUptoRow.holds Try.pinned (OpenSpec.upto fnExactRaftReserveSpec)

/-- 'laws.FnExactSafeSets', WHERE WHAT IT READS IS OF BULK AT MOST 1048576: true; the input reads as it did. -/
def fnExactSafeSetsUptoRow : OpenClaim := { program := "ytcfbnadefdcjaaa", sum := "b42b5ee4a2e540bd864183ad9457e232c0705839e9eaeef04dd327abefbb1012", func := "loop.example/g01159/laws.FnExactSafeSets", spec := "fnExactSafeSets", unfollowed := true, recurses := true, plainKeys := false, apart := false, narrowed := true }
def FnExactSafeSetsUptoSaid : Prop := fnExactSafeSetsUptoRow.holds Try.pinned (OpenSpec.upto fnExactSafeSetsSpec)

/-- 'laws.FnExactIsSafeOrder', WHERE WHAT IT READS IS OF BULK AT MOST 1048576: true; the input reads as it did. -/
def fnExactIsSafeOrderUptoRow : OpenClaim := { program := "ytcfbnadefdcjaaa", sum := "b42b5ee4a2e540bd864183ad9457e232c0705839e9eaeef04dd327abefbb1012", func := "loop.example/g01159/laws.FnExactIsSafeOrder", spec := "fnExactIsSafeOrder", unfollowed := true, recurses := true, plainKeys := false, apart := false, narrowed := true }
def FnExactIsSafeOrderUptoSaid : Prop := fnExactIsSafeOrderUptoRow.holds Try.pinned (OpenSpec.upto fnExactIsSafeOrderSpec)

/-- 'laws.FnExactFirstTip', WHERE WHAT IT READS IS OF BULK AT MOST 1048576: true; the input reads as it did. -/
def fnExactFirstTipUptoRow : OpenClaim := { program := "ytcfbnadefdcjaaa", sum := "b42b5ee4a2e540bd864183ad9457e232c0705839e9eaeef04dd327abefbb1012", func := "loop.example/g01159/laws.FnExactFirstTip", spec := "fnExactFirstTip", unfollowed := true, recurses := true, plainKeys := false, apart := false, narrowed := true }
def FnExactFirstTipUptoSaid : Prop := fnExactFirstTipUptoRow.holds Try.pinned (OpenSpec.upto fnExactFirstTipSpec)

/-- 'laws.FnExactCountSafe', WHERE WHAT IT READS IS OF BULK AT MOST 1048576: true; the input reads as it did. -/
def fnExactCountSafeUptoRow : OpenClaim := { program := "ytcfbnadefdcjaaa", sum := "b42b5ee4a2e540bd864183ad9457e232c0705839e9eaeef04dd327abefbb1012", func := "loop.example/g01159/laws.FnExactCountSafe", spec := "fnExactCountSafe", unfollowed := true, recurses := true, plainKeys := false, apart := false, narrowed := true }
def FnExactCountSafeUptoSaid : Prop := fnExactCountSafeUptoRow.holds Try.pinned (OpenSpec.upto fnExactCountSafeSpec)

/-- 'laws.FnExactSafeOrder', WHERE WHAT IT READS IS OF BULK AT MOST 1048576: true; the input reads as it did. -/
def fnExactSafeOrderUptoRow : OpenClaim := { program := "ytcfbnadefdcjaaa", sum := "b42b5ee4a2e540bd864183ad9457e232c0705839e9eaeef04dd327abefbb1012", func := "loop.example/g01159/laws.FnExactSafeOrder", spec := "fnExactSafeOrder", unfollowed := true, recurses := true, plainKeys := false, apart := false, narrowed := true }
def FnExactSafeOrderUptoSaid : Prop := fnExactSafeOrderUptoRow.holds Try.pinned (OpenSpec.upto fnExactSafeOrderSpec)

/-- 'laws.FnExactSafeStep', WHERE WHAT IT READS IS OF BULK AT MOST 1048576: true; the input reads as it did. -/
def fnExactSafeStepUptoRow : OpenClaim := { program := "ytcfbnadefdcjaaa", sum := "b42b5ee4a2e540bd864183ad9457e232c0705839e9eaeef04dd327abefbb1012", func := "loop.example/g01159/laws.FnExactSafeStep", spec := "fnExactSafeStep", unfollowed := true, recurses := true, plainKeys := false, apart := false, narrowed := true }
def FnExactSafeStepUptoSaid : Prop := fnExactSafeStepUptoRow.holds Try.pinned (OpenSpec.upto fnExactSafeStepSpec)

/-- 'laws.FnExactUnloadOrder', WHERE WHAT IT READS IS OF BULK AT MOST 1048576: true; the input reads as it did. -/
def fnExactUnloadOrderUptoRow : OpenClaim := { program := "ytcfbnadefdcjaaa", sum := "b42b5ee4a2e540bd864183ad9457e232c0705839e9eaeef04dd327abefbb1012", func := "loop.example/g01159/laws.FnExactUnloadOrder", spec := "fnExactUnloadOrder", unfollowed := true, recurses := true, plainKeys := false, apart := false, narrowed := true }
def FnExactUnloadOrderUptoSaid : Prop := fnExactUnloadOrderUptoRow.holds Try.pinned (OpenSpec.upto fnExactUnloadOrderSpec)

/-- 'laws.FnExactLeastOwn', WHERE WHAT IT READS IS OF BULK AT MOST 1048576: true; the input reads as it did. -/
def fnExactLeastOwnUptoRow : OpenClaim := { program := "ytcfbnadefdcjaaa", sum := "b42b5ee4a2e540bd864183ad9457e232c0705839e9eaeef04dd327abefbb1012", func := "loop.example/g01159/laws.FnExactLeastOwn", spec := "fnExactLeastOwn", unfollowed := true, recurses := true, plainKeys := false, apart := false, narrowed := true }
def FnExactLeastOwnUptoSaid : Prop := fnExactLeastOwnUptoRow.holds Try.pinned (OpenSpec.upto fnExactLeastOwnSpec)

/-- 'laws.FnExactPairSteps', WHERE WHAT IT READS IS OF BULK AT MOST 1048576: true; the input reads as it did. -/
def fnExactPairStepsUptoRow : OpenClaim := { program := "ytcfbnadefdcjaaa", sum := "b42b5ee4a2e540bd864183ad9457e232c0705839e9eaeef04dd327abefbb1012", func := "loop.example/g01159/laws.FnExactPairSteps", spec := "fnExactPairSteps", unfollowed := true, recurses := true, plainKeys := false, apart := false, narrowed := true }
def FnExactPairStepsUptoSaid : Prop := fnExactPairStepsUptoRow.holds Try.pinned (OpenSpec.upto fnExactPairStepsSpec)

/-- 'laws.FnExactHardestItem', WHERE WHAT IT READS IS OF BULK AT MOST 1048576: true; the input reads as it did. -/
def fnExactHardestItemUptoRow : OpenClaim := { program := "ytcfbnadefdcjaaa", sum := "b42b5ee4a2e540bd864183ad9457e232c0705839e9eaeef04dd327abefbb1012", func := "loop.example/g01159/laws.FnExactHardestItem", spec := "fnExactHardestItem", unfollowed := true, recurses := true, plainKeys := false, apart := false, narrowed := true }
def FnExactHardestItemUptoSaid : Prop := fnExactHardestItemUptoRow.holds Try.pinned (OpenSpec.upto fnExactHardestItemSpec)

/-- 'laws.FnStages', WHERE WHAT IT READS IS OF BULK AT MOST 1048576: true; the input reads as it did. -/
def fnStagesUptoRow : OpenClaim := { program := "ytcfbnadefdcjaaa", sum := "b42b5ee4a2e540bd864183ad9457e232c0705839e9eaeef04dd327abefbb1012", func := "loop.example/g01159/laws.FnStages", spec := "fnStages", unfollowed := true, recurses := true, plainKeys := false, apart := false, narrowed := true }
def FnStagesUptoSaid : Prop := fnStagesUptoRow.holds Try.pinned (OpenSpec.upto fnStagesSpec)

/-- 'laws.FnRafts', WHERE WHAT IT READS IS OF BULK AT MOST 1048576: true; the input reads as it did. -/
def fnRaftsUptoRow : OpenClaim := { program := "ytcfbnadefdcjaaa", sum := "b42b5ee4a2e540bd864183ad9457e232c0705839e9eaeef04dd327abefbb1012", func := "loop.example/g01159/laws.FnRafts", spec := "fnRafts", unfollowed := true, recurses := true, plainKeys := false, apart := false, narrowed := true }
def FnRaftsUptoSaid : Prop := fnRaftsUptoRow.holds Try.pinned (OpenSpec.upto fnRaftsSpec)

/-- 'laws.FnExactStackBodies', WHERE WHAT IT READS IS OF BULK AT MOST 1048576: true; the input reads as it did. -/
def fnExactStackBodiesUptoRow : OpenClaim := { program := "ytcfbnadefdcjaaa", sum := "b42b5ee4a2e540bd864183ad9457e232c0705839e9eaeef04dd327abefbb1012", func := "loop.example/g01159/laws.FnExactStackBodies", spec := "fnExactStackBodies", unfollowed := true, recurses := true, plainKeys := false, apart := false, narrowed := true }
def FnExactStackBodiesUptoSaid : Prop := fnExactStackBodiesUptoRow.holds Try.pinned (OpenSpec.upto fnExactStackBodiesSpec)

/-- 'laws.FnExactFirstEven', WHERE WHAT IT READS IS OF BULK AT MOST 1048576: true; the input reads as it did. -/
def fnExactFirstEvenUptoRow : OpenClaim := { program := "ytcfbnadefdcjaaa", sum := "b42b5ee4a2e540bd864183ad9457e232c0705839e9eaeef04dd327abefbb1012", func := "loop.example/g01159/laws.FnExactFirstEven", spec := "fnExactFirstEven", unfollowed := true, recurses := true, plainKeys := false, apart := false, narrowed := true }
def FnExactFirstEvenUptoSaid : Prop := fnExactFirstEvenUptoRow.holds Try.pinned (OpenSpec.upto fnExactFirstEvenSpec)

/-- 'laws.FnExactCountEven', WHERE WHAT IT READS IS OF BULK AT MOST 1048576: true; the input reads as it did. -/
def fnExactCountEvenUptoRow : OpenClaim := { program := "ytcfbnadefdcjaaa", sum := "b42b5ee4a2e540bd864183ad9457e232c0705839e9eaeef04dd327abefbb1012", func := "loop.example/g01159/laws.FnExactCountEven", spec := "fnExactCountEven", unfollowed := true, recurses := true, plainKeys := false, apart := false, narrowed := true }
def FnExactCountEvenUptoSaid : Prop := fnExactCountEvenUptoRow.holds Try.pinned (OpenSpec.upto fnExactCountEvenSpec)

end Rows
end Go.Proofs.Ytcfbnadefdcjaaa
