/-
  No cell of these rows narrows 'for every input' (looked for: loops, veiled, ifaces, maps, wideKeys, modest, calm, conditions, laid).
  DERIVED. THE GIVEN ROWS OF THIS SEAT. 18 by the template 'for every input the law returns true; each argument reads behind the call as it read before'; 0 by the template 'total and deterministic' (their statements: YtpklccpkgefniaaTotals.lean).
  GIVEN WITH THE SEED: the statements are not yours to turn. If you find one false, say at which input.
  Laid BY PROGRAM, IN A SANDBOX (cutbox-rows.mjs): the forced cells as the released guide's own fill.sh prints them over the translation c1328164ea5a662b… (all of the seat's roots in one cut). By AI agents, Wed Nov 11 2026. No macro, syntax, notation, axiom, sorry.
-/
import Derived.Test.YtpklccpkgefniaaChecked
import GoSem.Claim
import GoSem.ClaimJoined
import GoSem.ClaimMapViews
import Derived.JoinedTies
import Derived.KernelRfl
namespace Go.Proofs.Ytpklccpkgefniaa
/- THE CELL 'sum', in the pinned program and in every row, IS THE sha256 OF THE DUMP (.gsa) THAT YtpklccpkgefniaaProg.lean LOADS. Nothing in Lean hashes anything: it is a label: what it is worth is what the hold of that sum in a sandbox is worth. -/
noncomputable def Try.pinned : Pinned := { name := "ytpklccpkgefniaa", sum := "c1328164ea5a662b44e18a8a4cb52f5aa850d6656ba81ff4d0662a75fd1890f8", checked := Try.checked }
namespace Rows
def none {H : Type} : Left H := { results := [], args := [] }

/-- 'laws.FnExactIsStage': WHATEVER THE INPUT: true; the input reads as it did. -/
def fnExactIsStageSpec : ChangeSpec := { name := "fnExactIsStage", fn := fun _ => fun
  | [d] => { results := [.lit (.bool true)], args := [d] }
  | _ => none }
def fnExactIsStageRow : OpenClaim := { program := "ytpklccpkgefniaa", sum := "c1328164ea5a662b44e18a8a4cb52f5aa850d6656ba81ff4d0662a75fd1890f8", func := "loop.example/g01159/laws.FnExactIsStage", spec := "fnExactIsStage", unfollowed := true, recurses := true, apart := false }
def FnExactIsStageSaid : Prop := fnExactIsStageRow.holds Try.pinned (OpenSpec.ofChange fnExactIsStageSpec)

/-- ITS FALSE NEIGHBOUR: 'it returns false'. Refute it at one input. -/
def fnExactIsStageWrong : ChangeSpec := { name := "fnExactIsStage", fn := fun _ => fun
  | [d] => { results := [.lit (.bool false)], args := [d] }
  | _ => none }
def FnExactIsStageWrongFalsely : Prop := fnExactIsStageRow.holds Try.pinned (OpenSpec.ofChange fnExactIsStageWrong)

/-- 'laws.FnExactStageGain': WHATEVER THE INPUT: true; the input reads as it did. -/
def fnExactStageGainSpec : ChangeSpec := { name := "fnExactStageGain", fn := fun _ => fun
  | [d] => { results := [.lit (.bool true)], args := [d] }
  | _ => none }
def fnExactStageGainRow : OpenClaim := { program := "ytpklccpkgefniaa", sum := "c1328164ea5a662b44e18a8a4cb52f5aa850d6656ba81ff4d0662a75fd1890f8", func := "loop.example/g01159/laws.FnExactStageGain", spec := "fnExactStageGain", unfollowed := true, recurses := true, apart := false }
def FnExactStageGainSaid : Prop := fnExactStageGainRow.holds Try.pinned (OpenSpec.ofChange fnExactStageGainSpec)

/-- ITS FALSE NEIGHBOUR: 'it returns false'. Refute it at one input. -/
def fnExactStageGainWrong : ChangeSpec := { name := "fnExactStageGain", fn := fun _ => fun
  | [d] => { results := [.lit (.bool false)], args := [d] }
  | _ => none }
def FnExactStageGainWrongFalsely : Prop := fnExactStageGainRow.holds Try.pinned (OpenSpec.ofChange fnExactStageGainWrong)

/-- 'laws.FnExactChainGain': WHATEVER THE INPUT: true; the input reads as it did. -/
def fnExactChainGainSpec : ChangeSpec := { name := "fnExactChainGain", fn := fun _ => fun
  | [d] => { results := [.lit (.bool true)], args := [d] }
  | _ => none }
def fnExactChainGainRow : OpenClaim := { program := "ytpklccpkgefniaa", sum := "c1328164ea5a662b44e18a8a4cb52f5aa850d6656ba81ff4d0662a75fd1890f8", func := "loop.example/g01159/laws.FnExactChainGain", spec := "fnExactChainGain", unfollowed := true, recurses := true, apart := false }
def FnExactChainGainSaid : Prop := fnExactChainGainRow.holds Try.pinned (OpenSpec.ofChange fnExactChainGainSpec)

/-- ITS FALSE NEIGHBOUR: 'it returns false'. Refute it at one input. -/
def fnExactChainGainWrong : ChangeSpec := { name := "fnExactChainGain", fn := fun _ => fun
  | [d] => { results := [.lit (.bool false)], args := [d] }
  | _ => none }
def FnExactChainGainWrongFalsely : Prop := fnExactChainGainRow.holds Try.pinned (OpenSpec.ofChange fnExactChainGainWrong)

/-- 'laws.FnExactPullFor': WHATEVER THE INPUT: true; the input reads as it did. -/
def fnExactPullForSpec : ChangeSpec := { name := "fnExactPullFor", fn := fun _ => fun
  | [d1, d2] => { results := [.lit (.bool true)], args := [d1, d2] }
  | _ => none }
def fnExactPullForRow : OpenClaim := { program := "ytpklccpkgefniaa", sum := "c1328164ea5a662b44e18a8a4cb52f5aa850d6656ba81ff4d0662a75fd1890f8", func := "loop.example/g01159/laws.FnExactPullFor", spec := "fnExactPullFor", unfollowed := true, recurses := true, apart := false }
def FnExactPullForSaid : Prop := fnExactPullForRow.holds Try.pinned (OpenSpec.ofChange fnExactPullForSpec)

/-- ITS FALSE NEIGHBOUR: 'it returns false'. Refute it at one input. -/
def fnExactPullForWrong : ChangeSpec := { name := "fnExactPullFor", fn := fun _ => fun
  | [d1, d2] => { results := [.lit (.bool false)], args := [d1, d2] }
  | _ => none }
def FnExactPullForWrongFalsely : Prop := fnExactPullForRow.holds Try.pinned (OpenSpec.ofChange fnExactPullForWrong)

/-- 'laws.FnExactLeastPull': WHATEVER THE INPUT: true; the input reads as it did. -/
def fnExactLeastPullSpec : ChangeSpec := { name := "fnExactLeastPull", fn := fun _ => fun
  | [d1, d2] => { results := [.lit (.bool true)], args := [d1, d2] }
  | _ => none }
def fnExactLeastPullRow : OpenClaim := { program := "ytpklccpkgefniaa", sum := "c1328164ea5a662b44e18a8a4cb52f5aa850d6656ba81ff4d0662a75fd1890f8", func := "loop.example/g01159/laws.FnExactLeastPull", spec := "fnExactLeastPull", unfollowed := true, recurses := true, apart := false }
def FnExactLeastPullSaid : Prop := fnExactLeastPullRow.holds Try.pinned (OpenSpec.ofChange fnExactLeastPullSpec)

/-- ITS FALSE NEIGHBOUR: 'it returns false'. Refute it at one input. -/
def fnExactLeastPullWrong : ChangeSpec := { name := "fnExactLeastPull", fn := fun _ => fun
  | [d1, d2] => { results := [.lit (.bool false)], args := [d1, d2] }
  | _ => none }
def FnExactLeastPullWrongFalsely : Prop := fnExactLeastPullRow.holds Try.pinned (OpenSpec.ofChange fnExactLeastPullWrong)

/-- 'laws.FnExactMostLoad': WHATEVER THE INPUT: true; the input reads as it did. -/
def fnExactMostLoadSpec : ChangeSpec := { name := "fnExactMostLoad", fn := fun _ => fun
  | [d1, d2] => { results := [.lit (.bool true)], args := [d1, d2] }
  | _ => none }
def fnExactMostLoadRow : OpenClaim := { program := "ytpklccpkgefniaa", sum := "c1328164ea5a662b44e18a8a4cb52f5aa850d6656ba81ff4d0662a75fd1890f8", func := "loop.example/g01159/laws.FnExactMostLoad", spec := "fnExactMostLoad", unfollowed := true, recurses := true, apart := false }
def FnExactMostLoadSaid : Prop := fnExactMostLoadRow.holds Try.pinned (OpenSpec.ofChange fnExactMostLoadSpec)

/-- ITS FALSE NEIGHBOUR: 'it returns false'. Refute it at one input. -/
def fnExactMostLoadWrong : ChangeSpec := { name := "fnExactMostLoad", fn := fun _ => fun
  | [d1, d2] => { results := [.lit (.bool false)], args := [d1, d2] }
  | _ => none }
def FnExactMostLoadWrongFalsely : Prop := fnExactMostLoadRow.holds Try.pinned (OpenSpec.ofChange fnExactMostLoadWrong)

/-- 'laws.FnExactHaulFor': WHATEVER THE INPUT: true; the input reads as it did. -/
def fnExactHaulForSpec : ChangeSpec := { name := "fnExactHaulFor", fn := fun _ => fun
  | [d1, d2] => { results := [.lit (.bool true)], args := [d1, d2] }
  | _ => none }
def fnExactHaulForRow : OpenClaim := { program := "ytpklccpkgefniaa", sum := "c1328164ea5a662b44e18a8a4cb52f5aa850d6656ba81ff4d0662a75fd1890f8", func := "loop.example/g01159/laws.FnExactHaulFor", spec := "fnExactHaulFor", unfollowed := true, recurses := true, apart := false }
def FnExactHaulForSaid : Prop := fnExactHaulForRow.holds Try.pinned (OpenSpec.ofChange fnExactHaulForSpec)

/-- ITS FALSE NEIGHBOUR: 'it returns false'. Refute it at one input. -/
def fnExactHaulForWrong : ChangeSpec := { name := "fnExactHaulFor", fn := fun _ => fun
  | [d1, d2] => { results := [.lit (.bool false)], args := [d1, d2] }
  | _ => none }
def FnExactHaulForWrongFalsely : Prop := fnExactHaulForRow.holds Try.pinned (OpenSpec.ofChange fnExactHaulForWrong)

/-- 'laws.FnExactLeverRow': WHATEVER THE INPUT: true; the input reads as it did. -/
def fnExactLeverRowSpec : ChangeSpec := { name := "fnExactLeverRow", fn := fun _ => fun
  | [d1, d2, d3] => { results := [.lit (.bool true)], args := [d1, d2, d3] }
  | _ => none }
def fnExactLeverRowRow : OpenClaim := { program := "ytpklccpkgefniaa", sum := "c1328164ea5a662b44e18a8a4cb52f5aa850d6656ba81ff4d0662a75fd1890f8", func := "loop.example/g01159/laws.FnExactLeverRow", spec := "fnExactLeverRow", unfollowed := true, recurses := true, apart := false }
def FnExactLeverRowSaid : Prop := fnExactLeverRowRow.holds Try.pinned (OpenSpec.ofChange fnExactLeverRowSpec)

/-- ITS FALSE NEIGHBOUR: 'it returns false'. Refute it at one input. -/
def fnExactLeverRowWrong : ChangeSpec := { name := "fnExactLeverRow", fn := fun _ => fun
  | [d1, d2, d3] => { results := [.lit (.bool false)], args := [d1, d2, d3] }
  | _ => none }
def FnExactLeverRowWrongFalsely : Prop := fnExactLeverRowRow.holds Try.pinned (OpenSpec.ofChange fnExactLeverRowWrong)

/-- 'laws.FnExactTurnStage': WHATEVER THE INPUT: true; the input reads as it did. -/
def fnExactTurnStageSpec : ChangeSpec := { name := "fnExactTurnStage", fn := fun _ => fun
  | [d] => { results := [.lit (.bool true)], args := [d] }
  | _ => none }
def fnExactTurnStageRow : OpenClaim := { program := "ytpklccpkgefniaa", sum := "c1328164ea5a662b44e18a8a4cb52f5aa850d6656ba81ff4d0662a75fd1890f8", func := "loop.example/g01159/laws.FnExactTurnStage", spec := "fnExactTurnStage", unfollowed := true, recurses := true, apart := false }
def FnExactTurnStageSaid : Prop := fnExactTurnStageRow.holds Try.pinned (OpenSpec.ofChange fnExactTurnStageSpec)

/-- ITS FALSE NEIGHBOUR: 'it returns false'. Refute it at one input. -/
def fnExactTurnStageWrong : ChangeSpec := { name := "fnExactTurnStage", fn := fun _ => fun
  | [d] => { results := [.lit (.bool false)], args := [d] }
  | _ => none }
def FnExactTurnStageWrongFalsely : Prop := fnExactTurnStageRow.holds Try.pinned (OpenSpec.ofChange fnExactTurnStageWrong)

/-- 'laws.FnExactReachGain': WHATEVER THE INPUT: true; the input reads as it did. -/
def fnExactReachGainSpec : ChangeSpec := { name := "fnExactReachGain", fn := fun _ => fun
  | [d1, d2] => { results := [.lit (.bool true)], args := [d1, d2] }
  | _ => none }
def fnExactReachGainRow : OpenClaim := { program := "ytpklccpkgefniaa", sum := "c1328164ea5a662b44e18a8a4cb52f5aa850d6656ba81ff4d0662a75fd1890f8", func := "loop.example/g01159/laws.FnExactReachGain", spec := "fnExactReachGain", unfollowed := true, recurses := true, apart := false }
def FnExactReachGainSaid : Prop := fnExactReachGainRow.holds Try.pinned (OpenSpec.ofChange fnExactReachGainSpec)

/-- ITS FALSE NEIGHBOUR: 'it returns false'. Refute it at one input. -/
def fnExactReachGainWrong : ChangeSpec := { name := "fnExactReachGain", fn := fun _ => fun
  | [d1, d2] => { results := [.lit (.bool false)], args := [d1, d2] }
  | _ => none }
def FnExactReachGainWrongFalsely : Prop := fnExactReachGainRow.holds Try.pinned (OpenSpec.ofChange fnExactReachGainWrong)

/-- 'laws.FnExactExactGain': WHATEVER THE INPUT: true; the input reads as it did. -/
def fnExactExactGainSpec : ChangeSpec := { name := "fnExactExactGain", fn := fun _ => fun
  | [d1, d2] => { results := [.lit (.bool true)], args := [d1, d2] }
  | _ => none }
def fnExactExactGainRow : OpenClaim := { program := "ytpklccpkgefniaa", sum := "c1328164ea5a662b44e18a8a4cb52f5aa850d6656ba81ff4d0662a75fd1890f8", func := "loop.example/g01159/laws.FnExactExactGain", spec := "fnExactExactGain", unfollowed := true, recurses := true, apart := false }
def FnExactExactGainSaid : Prop := fnExactExactGainRow.holds Try.pinned (OpenSpec.ofChange fnExactExactGainSpec)

/-- ITS FALSE NEIGHBOUR: 'it returns false'. Refute it at one input. -/
def fnExactExactGainWrong : ChangeSpec := { name := "fnExactExactGain", fn := fun _ => fun
  | [d1, d2] => { results := [.lit (.bool false)], args := [d1, d2] }
  | _ => none }
def FnExactExactGainWrongFalsely : Prop := fnExactExactGainRow.holds Try.pinned (OpenSpec.ofChange fnExactExactGainWrong)

/-- 'laws.FnExactStepPulls': WHATEVER THE INPUT: true; the input reads as it did. -/
def fnExactStepPullsSpec : ChangeSpec := { name := "fnExactStepPulls", fn := fun _ => fun
  | [d1, d2] => { results := [.lit (.bool true)], args := [d1, d2] }
  | _ => none }
def fnExactStepPullsRow : OpenClaim := { program := "ytpklccpkgefniaa", sum := "c1328164ea5a662b44e18a8a4cb52f5aa850d6656ba81ff4d0662a75fd1890f8", func := "loop.example/g01159/laws.FnExactStepPulls", spec := "fnExactStepPulls", unfollowed := true, recurses := true, apart := false }
def FnExactStepPullsSaid : Prop := fnExactStepPullsRow.holds Try.pinned (OpenSpec.ofChange fnExactStepPullsSpec)

/-- ITS FALSE NEIGHBOUR: 'it returns false'. Refute it at one input. -/
def fnExactStepPullsWrong : ChangeSpec := { name := "fnExactStepPulls", fn := fun _ => fun
  | [d1, d2] => { results := [.lit (.bool false)], args := [d1, d2] }
  | _ => none }
def FnExactStepPullsWrongFalsely : Prop := fnExactStepPullsRow.holds Try.pinned (OpenSpec.ofChange fnExactStepPullsWrong)

/-- 'laws.FnChains': WHATEVER THE INPUT: true; the input reads as it did. -/
def fnChainsSpec : ChangeSpec := { name := "fnChains", fn := fun _ => fun
  | [d] => { results := [.lit (.bool true)], args := [d] }
  | _ => none }
def fnChainsRow : OpenClaim := { program := "ytpklccpkgefniaa", sum := "c1328164ea5a662b44e18a8a4cb52f5aa850d6656ba81ff4d0662a75fd1890f8", func := "loop.example/g01159/laws.FnChains", spec := "fnChains", unfollowed := true, recurses := true, apart := false }
def FnChainsSaid : Prop := fnChainsRow.holds Try.pinned (OpenSpec.ofChange fnChainsSpec)

/-- ITS FALSE NEIGHBOUR: 'it returns false'. Refute it at one input. -/
def fnChainsWrong : ChangeSpec := { name := "fnChains", fn := fun _ => fun
  | [d] => { results := [.lit (.bool false)], args := [d] }
  | _ => none }
def FnChainsWrongFalsely : Prop := fnChainsRow.holds Try.pinned (OpenSpec.ofChange fnChainsWrong)

/-- 'laws.FnStages': WHATEVER THE INPUT: true; the input reads as it did. -/
def fnStagesSpec : ChangeSpec := { name := "fnStages", fn := fun _ => fun
  | [d] => { results := [.lit (.bool true)], args := [d] }
  | _ => none }
def fnStagesRow : OpenClaim := { program := "ytpklccpkgefniaa", sum := "c1328164ea5a662b44e18a8a4cb52f5aa850d6656ba81ff4d0662a75fd1890f8", func := "loop.example/g01159/laws.FnStages", spec := "fnStages", unfollowed := true, recurses := true, apart := false }
def FnStagesSaid : Prop := fnStagesRow.holds Try.pinned (OpenSpec.ofChange fnStagesSpec)

/-- ITS FALSE NEIGHBOUR: 'it returns false'. Refute it at one input. -/
def fnStagesWrong : ChangeSpec := { name := "fnStages", fn := fun _ => fun
  | [d] => { results := [.lit (.bool false)], args := [d] }
  | _ => none }
def FnStagesWrongFalsely : Prop := fnStagesRow.holds Try.pinned (OpenSpec.ofChange fnStagesWrong)

/-- 'laws.FnBeams': WHATEVER THE INPUT: true; the input reads as it did. -/
def fnBeamsSpec : ChangeSpec := { name := "fnBeams", fn := fun _ => fun
  | [d] => { results := [.lit (.bool true)], args := [d] }
  | _ => none }
def fnBeamsRow : OpenClaim := { program := "ytpklccpkgefniaa", sum := "c1328164ea5a662b44e18a8a4cb52f5aa850d6656ba81ff4d0662a75fd1890f8", func := "loop.example/g01159/laws.FnBeams", spec := "fnBeams", unfollowed := true, recurses := true, apart := false }
def FnBeamsSaid : Prop := fnBeamsRow.holds Try.pinned (OpenSpec.ofChange fnBeamsSpec)

/-- ITS FALSE NEIGHBOUR: 'it returns false'. Refute it at one input. -/
def fnBeamsWrong : ChangeSpec := { name := "fnBeams", fn := fun _ => fun
  | [d] => { results := [.lit (.bool false)], args := [d] }
  | _ => none }
def FnBeamsWrongFalsely : Prop := fnBeamsRow.holds Try.pinned (OpenSpec.ofChange fnBeamsWrong)

/-- 'laws.FnConvoys': WHATEVER THE INPUT: true; the input reads as it did. -/
def fnConvoysSpec : ChangeSpec := { name := "fnConvoys", fn := fun _ => fun
  | [d] => { results := [.lit (.bool true)], args := [d] }
  | _ => none }
def fnConvoysRow : OpenClaim := { program := "ytpklccpkgefniaa", sum := "c1328164ea5a662b44e18a8a4cb52f5aa850d6656ba81ff4d0662a75fd1890f8", func := "loop.example/g01159/laws.FnConvoys", spec := "fnConvoys", unfollowed := true, recurses := true, apart := false }
def FnConvoysSaid : Prop := fnConvoysRow.holds Try.pinned (OpenSpec.ofChange fnConvoysSpec)

/-- ITS FALSE NEIGHBOUR: 'it returns false'. Refute it at one input. -/
def fnConvoysWrong : ChangeSpec := { name := "fnConvoys", fn := fun _ => fun
  | [d] => { results := [.lit (.bool false)], args := [d] }
  | _ => none }
def FnConvoysWrongFalsely : Prop := fnConvoysRow.holds Try.pinned (OpenSpec.ofChange fnConvoysWrong)

/-- 'laws.FnExactGreatestOverhang': WHATEVER THE INPUT: true; the input reads as it did. -/
def fnExactGreatestOverhangSpec : ChangeSpec := { name := "fnExactGreatestOverhang", fn := fun _ => fun
  | [d1, d2] => { results := [.lit (.bool true)], args := [d1, d2] }
  | _ => none }
def fnExactGreatestOverhangRow : OpenClaim := { program := "ytpklccpkgefniaa", sum := "c1328164ea5a662b44e18a8a4cb52f5aa850d6656ba81ff4d0662a75fd1890f8", func := "loop.example/g01159/laws.FnExactGreatestOverhang", spec := "fnExactGreatestOverhang", apart := false }
def FnExactGreatestOverhangSaid : Prop := fnExactGreatestOverhangRow.holds Try.pinned (OpenSpec.ofChange fnExactGreatestOverhangSpec)

/-- ITS FALSE NEIGHBOUR: 'it returns false'. Refute it at one input. -/
def fnExactGreatestOverhangWrong : ChangeSpec := { name := "fnExactGreatestOverhang", fn := fun _ => fun
  | [d1, d2] => { results := [.lit (.bool false)], args := [d1, d2] }
  | _ => none }
def FnExactGreatestOverhangWrongFalsely : Prop := fnExactGreatestOverhangRow.holds Try.pinned (OpenSpec.ofChange fnExactGreatestOverhangWrong)

/-- 'laws.FnExactEdgePile': WHATEVER THE INPUT: true; the input reads as it did. -/
def fnExactEdgePileSpec : ChangeSpec := { name := "fnExactEdgePile", fn := fun _ => fun
  | [d1, d2] => { results := [.lit (.bool true)], args := [d1, d2] }
  | _ => none }
def fnExactEdgePileRow : OpenClaim := { program := "ytpklccpkgefniaa", sum := "c1328164ea5a662b44e18a8a4cb52f5aa850d6656ba81ff4d0662a75fd1890f8", func := "loop.example/g01159/laws.FnExactEdgePile", spec := "fnExactEdgePile", unfollowed := true, recurses := true, apart := false }
def FnExactEdgePileSaid : Prop := fnExactEdgePileRow.holds Try.pinned (OpenSpec.ofChange fnExactEdgePileSpec)

/-- ITS FALSE NEIGHBOUR: 'it returns false'. Refute it at one input. -/
def fnExactEdgePileWrong : ChangeSpec := { name := "fnExactEdgePile", fn := fun _ => fun
  | [d1, d2] => { results := [.lit (.bool false)], args := [d1, d2] }
  | _ => none }
def FnExactEdgePileWrongFalsely : Prop := fnExactEdgePileRow.holds Try.pinned (OpenSpec.ofChange fnExactEdgePileWrong)

/- THE SECOND FORM. 'bulk': how many values and letters a reading holds, each counted each time it is reached (what is shared counts as often as it is met; a slice's spare places count too). A statement '..UptoSaid' is the law's where the arguments, and the package variables that the reading takes, are together of bulk at most 1048576: NARROWER than '..Said'. Prove '..Said' where nothing that the law and all that it calls make is longer than what came in: it says more and counts as full. Else prove '..UptoSaid'. A law counts once. -/
mutual
def uptoBulk {H : Type} : DataW H → Nat
  | .lit (.string bytes) => bytes.length + 1
  | .lit _ => 1
  | .nil => 1
  | .ptr d => uptoBulk d + 1
  | .slice elems spare => uptoBulkAll elems + uptoBulkAll spare + 1
  | .agg parts => uptoBulkAll parts + 1
  | .iface _ d => uptoBulk d + 1
  | .map entries => uptoBulkEntries entries + 1
  | .held _ => 1
def uptoBulkAll {H : Type} : List (DataW H) → Nat
  | [] => 0
  | d :: r => uptoBulk d + uptoBulkAll r
def uptoBulkEntries {H : Type} : List (Lit × DataW H) → Nat
  | [] => 0
  | x :: r => uptoBulkEntry x + uptoBulkEntries r
def uptoBulkEntry {H : Type} : Lit × DataW H → Nat
  | (.string bytes, d) => bytes.length + uptoBulk d + 1
  | (_, d) => uptoBulk d + 1
 end
def uptoSmall : (H : Type) → List (DataW H) → Bool := fun _ ds => decide (uptoBulkAll ds ≤ 1048576)
def OpenSpec.upto (s : _root_.Go.ChangeSpec) : _root_.Go.OpenSpec := { _root_.Go.OpenSpec.ofChange s with cond := some uptoSmall }

/-- 'laws.FnExactIsStage', WHERE WHAT IT READS IS OF BULK AT MOST 1048576: true; the input reads as it did. -/
def fnExactIsStageUptoRow : OpenClaim := { program := "ytpklccpkgefniaa", sum := "c1328164ea5a662b44e18a8a4cb52f5aa850d6656ba81ff4d0662a75fd1890f8", func := "loop.example/g01159/laws.FnExactIsStage", spec := "fnExactIsStage", unfollowed := true, recurses := true, apart := false, narrowed := true }
def FnExactIsStageUptoSaid : Prop := fnExactIsStageUptoRow.holds Try.pinned (OpenSpec.upto fnExactIsStageSpec)

/-- 'laws.FnExactStageGain', WHERE WHAT IT READS IS OF BULK AT MOST 1048576: true; the input reads as it did. -/
def fnExactStageGainUptoRow : OpenClaim := { program := "ytpklccpkgefniaa", sum := "c1328164ea5a662b44e18a8a4cb52f5aa850d6656ba81ff4d0662a75fd1890f8", func := "loop.example/g01159/laws.FnExactStageGain", spec := "fnExactStageGain", unfollowed := true, recurses := true, apart := false, narrowed := true }
def FnExactStageGainUptoSaid : Prop := fnExactStageGainUptoRow.holds Try.pinned (OpenSpec.upto fnExactStageGainSpec)

/-- 'laws.FnExactChainGain', WHERE WHAT IT READS IS OF BULK AT MOST 1048576: true; the input reads as it did. -/
def fnExactChainGainUptoRow : OpenClaim := { program := "ytpklccpkgefniaa", sum := "c1328164ea5a662b44e18a8a4cb52f5aa850d6656ba81ff4d0662a75fd1890f8", func := "loop.example/g01159/laws.FnExactChainGain", spec := "fnExactChainGain", unfollowed := true, recurses := true, apart := false, narrowed := true }
def FnExactChainGainUptoSaid : Prop := fnExactChainGainUptoRow.holds Try.pinned (OpenSpec.upto fnExactChainGainSpec)

/-- 'laws.FnExactPullFor', WHERE WHAT IT READS IS OF BULK AT MOST 1048576: true; the input reads as it did. -/
def fnExactPullForUptoRow : OpenClaim := { program := "ytpklccpkgefniaa", sum := "c1328164ea5a662b44e18a8a4cb52f5aa850d6656ba81ff4d0662a75fd1890f8", func := "loop.example/g01159/laws.FnExactPullFor", spec := "fnExactPullFor", unfollowed := true, recurses := true, apart := false, narrowed := true }
def FnExactPullForUptoSaid : Prop := fnExactPullForUptoRow.holds Try.pinned (OpenSpec.upto fnExactPullForSpec)

/-- 'laws.FnExactLeastPull', WHERE WHAT IT READS IS OF BULK AT MOST 1048576: true; the input reads as it did. -/
def fnExactLeastPullUptoRow : OpenClaim := { program := "ytpklccpkgefniaa", sum := "c1328164ea5a662b44e18a8a4cb52f5aa850d6656ba81ff4d0662a75fd1890f8", func := "loop.example/g01159/laws.FnExactLeastPull", spec := "fnExactLeastPull", unfollowed := true, recurses := true, apart := false, narrowed := true }
def FnExactLeastPullUptoSaid : Prop := fnExactLeastPullUptoRow.holds Try.pinned (OpenSpec.upto fnExactLeastPullSpec)

/-- 'laws.FnExactMostLoad', WHERE WHAT IT READS IS OF BULK AT MOST 1048576: true; the input reads as it did. -/
def fnExactMostLoadUptoRow : OpenClaim := { program := "ytpklccpkgefniaa", sum := "c1328164ea5a662b44e18a8a4cb52f5aa850d6656ba81ff4d0662a75fd1890f8", func := "loop.example/g01159/laws.FnExactMostLoad", spec := "fnExactMostLoad", unfollowed := true, recurses := true, apart := false, narrowed := true }
def FnExactMostLoadUptoSaid : Prop := fnExactMostLoadUptoRow.holds Try.pinned (OpenSpec.upto fnExactMostLoadSpec)

/-- 'laws.FnExactHaulFor', WHERE WHAT IT READS IS OF BULK AT MOST 1048576: true; the input reads as it did. -/
def fnExactHaulForUptoRow : OpenClaim := { program := "ytpklccpkgefniaa", sum := "c1328164ea5a662b44e18a8a4cb52f5aa850d6656ba81ff4d0662a75fd1890f8", func := "loop.example/g01159/laws.FnExactHaulFor", spec := "fnExactHaulFor", unfollowed := true, recurses := true, apart := false, narrowed := true }
def FnExactHaulForUptoSaid : Prop := fnExactHaulForUptoRow.holds Try.pinned (OpenSpec.upto fnExactHaulForSpec)

/-- 'laws.FnExactLeverRow', WHERE WHAT IT READS IS OF BULK AT MOST 1048576: true; the input reads as it did. -/
def fnExactLeverRowUptoRow : OpenClaim := { program := "ytpklccpkgefniaa", sum := "c1328164ea5a662b44e18a8a4cb52f5aa850d6656ba81ff4d0662a75fd1890f8", func := "loop.example/g01159/laws.FnExactLeverRow", spec := "fnExactLeverRow", unfollowed := true, recurses := true, apart := false, narrowed := true }
def FnExactLeverRowUptoSaid : Prop := fnExactLeverRowUptoRow.holds Try.pinned (OpenSpec.upto fnExactLeverRowSpec)

/-- 'laws.FnExactTurnStage', WHERE WHAT IT READS IS OF BULK AT MOST 1048576: true; the input reads as it did. -/
def fnExactTurnStageUptoRow : OpenClaim := { program := "ytpklccpkgefniaa", sum := "c1328164ea5a662b44e18a8a4cb52f5aa850d6656ba81ff4d0662a75fd1890f8", func := "loop.example/g01159/laws.FnExactTurnStage", spec := "fnExactTurnStage", unfollowed := true, recurses := true, apart := false, narrowed := true }
def FnExactTurnStageUptoSaid : Prop := fnExactTurnStageUptoRow.holds Try.pinned (OpenSpec.upto fnExactTurnStageSpec)

/-- 'laws.FnExactReachGain', WHERE WHAT IT READS IS OF BULK AT MOST 1048576: true; the input reads as it did. -/
def fnExactReachGainUptoRow : OpenClaim := { program := "ytpklccpkgefniaa", sum := "c1328164ea5a662b44e18a8a4cb52f5aa850d6656ba81ff4d0662a75fd1890f8", func := "loop.example/g01159/laws.FnExactReachGain", spec := "fnExactReachGain", unfollowed := true, recurses := true, apart := false, narrowed := true }
def FnExactReachGainUptoSaid : Prop := fnExactReachGainUptoRow.holds Try.pinned (OpenSpec.upto fnExactReachGainSpec)

/-- 'laws.FnExactExactGain', WHERE WHAT IT READS IS OF BULK AT MOST 1048576: true; the input reads as it did. -/
def fnExactExactGainUptoRow : OpenClaim := { program := "ytpklccpkgefniaa", sum := "c1328164ea5a662b44e18a8a4cb52f5aa850d6656ba81ff4d0662a75fd1890f8", func := "loop.example/g01159/laws.FnExactExactGain", spec := "fnExactExactGain", unfollowed := true, recurses := true, apart := false, narrowed := true }
def FnExactExactGainUptoSaid : Prop := fnExactExactGainUptoRow.holds Try.pinned (OpenSpec.upto fnExactExactGainSpec)

/-- 'laws.FnExactStepPulls', WHERE WHAT IT READS IS OF BULK AT MOST 1048576: true; the input reads as it did. -/
def fnExactStepPullsUptoRow : OpenClaim := { program := "ytpklccpkgefniaa", sum := "c1328164ea5a662b44e18a8a4cb52f5aa850d6656ba81ff4d0662a75fd1890f8", func := "loop.example/g01159/laws.FnExactStepPulls", spec := "fnExactStepPulls", unfollowed := true, recurses := true, apart := false, narrowed := true }
def FnExactStepPullsUptoSaid : Prop := fnExactStepPullsUptoRow.holds Try.pinned (OpenSpec.upto fnExactStepPullsSpec)

/-- 'laws.FnChains', WHERE WHAT IT READS IS OF BULK AT MOST 1048576: true; the input reads as it did. -/
def fnChainsUptoRow : OpenClaim := { program := "ytpklccpkgefniaa", sum := "c1328164ea5a662b44e18a8a4cb52f5aa850d6656ba81ff4d0662a75fd1890f8", func := "loop.example/g01159/laws.FnChains", spec := "fnChains", unfollowed := true, recurses := true, apart := false, narrowed := true }
def FnChainsUptoSaid : Prop := fnChainsUptoRow.holds Try.pinned (OpenSpec.upto fnChainsSpec)

/-- 'laws.FnStages', WHERE WHAT IT READS IS OF BULK AT MOST 1048576: true; the input reads as it did. -/
def fnStagesUptoRow : OpenClaim := { program := "ytpklccpkgefniaa", sum := "c1328164ea5a662b44e18a8a4cb52f5aa850d6656ba81ff4d0662a75fd1890f8", func := "loop.example/g01159/laws.FnStages", spec := "fnStages", unfollowed := true, recurses := true, apart := false, narrowed := true }
def FnStagesUptoSaid : Prop := fnStagesUptoRow.holds Try.pinned (OpenSpec.upto fnStagesSpec)

/-- 'laws.FnBeams', WHERE WHAT IT READS IS OF BULK AT MOST 1048576: true; the input reads as it did. -/
def fnBeamsUptoRow : OpenClaim := { program := "ytpklccpkgefniaa", sum := "c1328164ea5a662b44e18a8a4cb52f5aa850d6656ba81ff4d0662a75fd1890f8", func := "loop.example/g01159/laws.FnBeams", spec := "fnBeams", unfollowed := true, recurses := true, apart := false, narrowed := true }
def FnBeamsUptoSaid : Prop := fnBeamsUptoRow.holds Try.pinned (OpenSpec.upto fnBeamsSpec)

/-- 'laws.FnConvoys', WHERE WHAT IT READS IS OF BULK AT MOST 1048576: true; the input reads as it did. -/
def fnConvoysUptoRow : OpenClaim := { program := "ytpklccpkgefniaa", sum := "c1328164ea5a662b44e18a8a4cb52f5aa850d6656ba81ff4d0662a75fd1890f8", func := "loop.example/g01159/laws.FnConvoys", spec := "fnConvoys", unfollowed := true, recurses := true, apart := false, narrowed := true }
def FnConvoysUptoSaid : Prop := fnConvoysUptoRow.holds Try.pinned (OpenSpec.upto fnConvoysSpec)

/-- 'laws.FnExactGreatestOverhang', WHERE WHAT IT READS IS OF BULK AT MOST 1048576: true; the input reads as it did. -/
def fnExactGreatestOverhangUptoRow : OpenClaim := { program := "ytpklccpkgefniaa", sum := "c1328164ea5a662b44e18a8a4cb52f5aa850d6656ba81ff4d0662a75fd1890f8", func := "loop.example/g01159/laws.FnExactGreatestOverhang", spec := "fnExactGreatestOverhang", apart := false, narrowed := true }
def FnExactGreatestOverhangUptoSaid : Prop := fnExactGreatestOverhangUptoRow.holds Try.pinned (OpenSpec.upto fnExactGreatestOverhangSpec)

/-- 'laws.FnExactEdgePile', WHERE WHAT IT READS IS OF BULK AT MOST 1048576: true; the input reads as it did. -/
def fnExactEdgePileUptoRow : OpenClaim := { program := "ytpklccpkgefniaa", sum := "c1328164ea5a662b44e18a8a4cb52f5aa850d6656ba81ff4d0662a75fd1890f8", func := "loop.example/g01159/laws.FnExactEdgePile", spec := "fnExactEdgePile", unfollowed := true, recurses := true, apart := false, narrowed := true }
def FnExactEdgePileUptoSaid : Prop := fnExactEdgePileUptoRow.holds Try.pinned (OpenSpec.upto fnExactEdgePileSpec)

end Rows
end Go.Proofs.Ytpklccpkgefniaa
