/-
  No cell of these rows narrows 'for every input' (looked for: loops, veiled, ifaces, maps, wideKeys, modest, calm, conditions, laid).
  DERIVED. THE GIVEN ROWS OF THIS SEAT. 16 by the template 'for every input the law returns true; each argument reads behind the call as it read before'; 0 by the template 'total and deterministic' (their statements: YtmcjichpeijiaaaTotals.lean).
  GIVEN WITH THE SEED: the statements are not yours to turn. If you find one false, say at which input.
  Laid BY PROGRAM, IN A SANDBOX (cutbox-rows.mjs): the forced cells as the released guide's own fill.sh prints them over the translation 932c8b870c0918ed… (all of the seat's roots in one cut). By AI agents, Wed Nov 11 2026. No macro, syntax, notation, axiom, sorry.
-/
import Derived.Test.YtmcjichpeijiaaaChecked
import GoSem.Claim
import GoSem.ClaimJoined
import GoSem.ClaimMapViews
import Derived.JoinedTies
import Derived.KernelRfl
namespace Go.Proofs.Ytmcjichpeijiaaa
/- THE CELL 'sum', in the pinned program and in every row, IS THE sha256 OF THE DUMP (.gsa) THAT YtmcjichpeijiaaaProg.lean LOADS. Nothing in Lean hashes anything: it is a label: what it is worth is what the hold of that sum in a sandbox is worth. -/
noncomputable def Try.pinned : Pinned := { name := "ytmcjichpeijiaaa", sum := "932c8b870c0918ed85bead3a023e4114a85f86acd5e59754e5dfdc2659585e49", checked := Try.checked }
namespace Rows
def none {H : Type} : Left H := { results := [], args := [] }

/-- 'laws.FnExactIsBody': WHATEVER THE INPUT: true; the input reads as it did. -/
def fnExactIsBodySpec : ChangeSpec := { name := "fnExactIsBody", fn := fun _ => fun
  | [d] => { results := [.lit (.bool true)], args := [d] }
  | _ => none }
def fnExactIsBodyRow : OpenClaim := { program := "ytmcjichpeijiaaa", sum := "932c8b870c0918ed85bead3a023e4114a85f86acd5e59754e5dfdc2659585e49", func := "loop.example/g01159/laws.FnExactIsBody", spec := "fnExactIsBody", unfollowed := true, recurses := true, plainKeys := false, apart := false }
def FnExactIsBodySaid : Prop := fnExactIsBodyRow.holds Try.pinned (OpenSpec.ofChange fnExactIsBodySpec)

/-- ITS FALSE NEIGHBOUR: 'it returns false'. Refute it at one input. -/
def fnExactIsBodyWrong : ChangeSpec := { name := "fnExactIsBody", fn := fun _ => fun
  | [d] => { results := [.lit (.bool false)], args := [d] }
  | _ => none }
def FnExactIsBodyWrongFalsely : Prop := fnExactIsBodyRow.holds Try.pinned (OpenSpec.ofChange fnExactIsBodyWrong)

/-- 'laws.FnExactPutDown': WHATEVER THE INPUT: true; the input reads as it did. -/
def fnExactPutDownSpec : ChangeSpec := { name := "fnExactPutDown", fn := fun _ => fun
  | [d] => { results := [.lit (.bool true)], args := [d] }
  | _ => none }
def fnExactPutDownRow : OpenClaim := { program := "ytmcjichpeijiaaa", sum := "932c8b870c0918ed85bead3a023e4114a85f86acd5e59754e5dfdc2659585e49", func := "loop.example/g01159/laws.FnExactPutDown", spec := "fnExactPutDown", unfollowed := true, recurses := true, plainKeys := false, apart := false }
def FnExactPutDownSaid : Prop := fnExactPutDownRow.holds Try.pinned (OpenSpec.ofChange fnExactPutDownSpec)

/-- ITS FALSE NEIGHBOUR: 'it returns false'. Refute it at one input. -/
def fnExactPutDownWrong : ChangeSpec := { name := "fnExactPutDown", fn := fun _ => fun
  | [d] => { results := [.lit (.bool false)], args := [d] }
  | _ => none }
def FnExactPutDownWrongFalsely : Prop := fnExactPutDownRow.holds Try.pinned (OpenSpec.ofChange fnExactPutDownWrong)

/-- 'laws.FnExactBodyCentre': WHATEVER THE INPUT: true; the input reads as it did. -/
def fnExactBodyCentreSpec : ChangeSpec := { name := "fnExactBodyCentre", fn := fun _ => fun
  | [d] => { results := [.lit (.bool true)], args := [d] }
  | _ => none }
def fnExactBodyCentreRow : OpenClaim := { program := "ytmcjichpeijiaaa", sum := "932c8b870c0918ed85bead3a023e4114a85f86acd5e59754e5dfdc2659585e49", func := "loop.example/g01159/laws.FnExactBodyCentre", spec := "fnExactBodyCentre", unfollowed := true, recurses := true, plainKeys := false, apart := false }
def FnExactBodyCentreSaid : Prop := fnExactBodyCentreRow.holds Try.pinned (OpenSpec.ofChange fnExactBodyCentreSpec)

/-- ITS FALSE NEIGHBOUR: 'it returns false'. Refute it at one input. -/
def fnExactBodyCentreWrong : ChangeSpec := { name := "fnExactBodyCentre", fn := fun _ => fun
  | [d] => { results := [.lit (.bool false)], args := [d] }
  | _ => none }
def FnExactBodyCentreWrongFalsely : Prop := fnExactBodyCentreRow.holds Try.pinned (OpenSpec.ofChange fnExactBodyCentreWrong)

/-- 'laws.FnExactGroundOf': WHATEVER THE INPUT: true; the input reads as it did. -/
def fnExactGroundOfSpec : ChangeSpec := { name := "fnExactGroundOf", fn := fun _ => fun
  | [d] => { results := [.lit (.bool true)], args := [d] }
  | _ => none }
def fnExactGroundOfRow : OpenClaim := { program := "ytmcjichpeijiaaa", sum := "932c8b870c0918ed85bead3a023e4114a85f86acd5e59754e5dfdc2659585e49", func := "loop.example/g01159/laws.FnExactGroundOf", spec := "fnExactGroundOf", unfollowed := true, recurses := true, plainKeys := false, apart := false }
def FnExactGroundOfSaid : Prop := fnExactGroundOfRow.holds Try.pinned (OpenSpec.ofChange fnExactGroundOfSpec)

/-- ITS FALSE NEIGHBOUR: 'it returns false'. Refute it at one input. -/
def fnExactGroundOfWrong : ChangeSpec := { name := "fnExactGroundOf", fn := fun _ => fun
  | [d] => { results := [.lit (.bool false)], args := [d] }
  | _ => none }
def FnExactGroundOfWrongFalsely : Prop := fnExactGroundOfRow.holds Try.pinned (OpenSpec.ofChange fnExactGroundOfWrong)

/-- 'laws.FnExactBodySide': WHATEVER THE INPUT: true; the input reads as it did. -/
def fnExactBodySideSpec : ChangeSpec := { name := "fnExactBodySide", fn := fun _ => fun
  | [d] => { results := [.lit (.bool true)], args := [d] }
  | _ => none }
def fnExactBodySideRow : OpenClaim := { program := "ytmcjichpeijiaaa", sum := "932c8b870c0918ed85bead3a023e4114a85f86acd5e59754e5dfdc2659585e49", func := "loop.example/g01159/laws.FnExactBodySide", spec := "fnExactBodySide", unfollowed := true, recurses := true, plainKeys := false, apart := false }
def FnExactBodySideSaid : Prop := fnExactBodySideRow.holds Try.pinned (OpenSpec.ofChange fnExactBodySideSpec)

/-- ITS FALSE NEIGHBOUR: 'it returns false'. Refute it at one input. -/
def fnExactBodySideWrong : ChangeSpec := { name := "fnExactBodySide", fn := fun _ => fun
  | [d] => { results := [.lit (.bool false)], args := [d] }
  | _ => none }
def FnExactBodySideWrongFalsely : Prop := fnExactBodySideRow.holds Try.pinned (OpenSpec.ofChange fnExactBodySideWrong)

/-- 'laws.FnExactTurnBody': WHATEVER THE INPUT: true; the input reads as it did. -/
def fnExactTurnBodySpec : ChangeSpec := { name := "fnExactTurnBody", fn := fun _ => fun
  | [d1, d2] => { results := [.lit (.bool true)], args := [d1, d2] }
  | _ => none }
def fnExactTurnBodyRow : OpenClaim := { program := "ytmcjichpeijiaaa", sum := "932c8b870c0918ed85bead3a023e4114a85f86acd5e59754e5dfdc2659585e49", func := "loop.example/g01159/laws.FnExactTurnBody", spec := "fnExactTurnBody", unfollowed := true, recurses := true, plainKeys := false, apart := false }
def FnExactTurnBodySaid : Prop := fnExactTurnBodyRow.holds Try.pinned (OpenSpec.ofChange fnExactTurnBodySpec)

/-- ITS FALSE NEIGHBOUR: 'it returns false'. Refute it at one input. -/
def fnExactTurnBodyWrong : ChangeSpec := { name := "fnExactTurnBody", fn := fun _ => fun
  | [d1, d2] => { results := [.lit (.bool false)], args := [d1, d2] }
  | _ => none }
def FnExactTurnBodyWrongFalsely : Prop := fnExactTurnBodyRow.holds Try.pinned (OpenSpec.ofChange fnExactTurnBodyWrong)

/-- 'laws.FnExactMirrorBody': WHATEVER THE INPUT: true; the input reads as it did. -/
def fnExactMirrorBodySpec : ChangeSpec := { name := "fnExactMirrorBody", fn := fun _ => fun
  | [d] => { results := [.lit (.bool true)], args := [d] }
  | _ => none }
def fnExactMirrorBodyRow : OpenClaim := { program := "ytmcjichpeijiaaa", sum := "932c8b870c0918ed85bead3a023e4114a85f86acd5e59754e5dfdc2659585e49", func := "loop.example/g01159/laws.FnExactMirrorBody", spec := "fnExactMirrorBody", unfollowed := true, recurses := true, plainKeys := false, apart := false }
def FnExactMirrorBodySaid : Prop := fnExactMirrorBodyRow.holds Try.pinned (OpenSpec.ofChange fnExactMirrorBodySpec)

/-- ITS FALSE NEIGHBOUR: 'it returns false'. Refute it at one input. -/
def fnExactMirrorBodyWrong : ChangeSpec := { name := "fnExactMirrorBody", fn := fun _ => fun
  | [d] => { results := [.lit (.bool false)], args := [d] }
  | _ => none }
def FnExactMirrorBodyWrongFalsely : Prop := fnExactMirrorBodyRow.holds Try.pinned (OpenSpec.ofChange fnExactMirrorBodyWrong)

/-- 'laws.FnExactTumbleBody': WHATEVER THE INPUT: true; the input reads as it did. -/
def fnExactTumbleBodySpec : ChangeSpec := { name := "fnExactTumbleBody", fn := fun _ => fun
  | [d] => { results := [.lit (.bool true)], args := [d] }
  | _ => none }
def fnExactTumbleBodyRow : OpenClaim := { program := "ytmcjichpeijiaaa", sum := "932c8b870c0918ed85bead3a023e4114a85f86acd5e59754e5dfdc2659585e49", func := "loop.example/g01159/laws.FnExactTumbleBody", spec := "fnExactTumbleBody", unfollowed := true, recurses := true, plainKeys := false, apart := false }
def FnExactTumbleBodySaid : Prop := fnExactTumbleBodyRow.holds Try.pinned (OpenSpec.ofChange fnExactTumbleBodySpec)

/-- ITS FALSE NEIGHBOUR: 'it returns false'. Refute it at one input. -/
def fnExactTumbleBodyWrong : ChangeSpec := { name := "fnExactTumbleBody", fn := fun _ => fun
  | [d] => { results := [.lit (.bool false)], args := [d] }
  | _ => none }
def FnExactTumbleBodyWrongFalsely : Prop := fnExactTumbleBodyRow.holds Try.pinned (OpenSpec.ofChange fnExactTumbleBodyWrong)

/-- 'laws.FnExactStandingTurns': WHATEVER THE INPUT: true; the input reads as it did. -/
def fnExactStandingTurnsSpec : ChangeSpec := { name := "fnExactStandingTurns", fn := fun _ => fun
  | [d] => { results := [.lit (.bool true)], args := [d] }
  | _ => none }
def fnExactStandingTurnsRow : OpenClaim := { program := "ytmcjichpeijiaaa", sum := "932c8b870c0918ed85bead3a023e4114a85f86acd5e59754e5dfdc2659585e49", func := "loop.example/g01159/laws.FnExactStandingTurns", spec := "fnExactStandingTurns", unfollowed := true, recurses := true, plainKeys := false, apart := false }
def FnExactStandingTurnsSaid : Prop := fnExactStandingTurnsRow.holds Try.pinned (OpenSpec.ofChange fnExactStandingTurnsSpec)

/-- ITS FALSE NEIGHBOUR: 'it returns false'. Refute it at one input. -/
def fnExactStandingTurnsWrong : ChangeSpec := { name := "fnExactStandingTurns", fn := fun _ => fun
  | [d] => { results := [.lit (.bool false)], args := [d] }
  | _ => none }
def FnExactStandingTurnsWrongFalsely : Prop := fnExactStandingTurnsRow.holds Try.pinned (OpenSpec.ofChange fnExactStandingTurnsWrong)

/-- 'laws.FnExactLooseCells': WHATEVER THE INPUT: true; the input reads as it did. -/
def fnExactLooseCellsSpec : ChangeSpec := { name := "fnExactLooseCells", fn := fun _ => fun
  | [d] => { results := [.lit (.bool true)], args := [d] }
  | _ => none }
def fnExactLooseCellsRow : OpenClaim := { program := "ytmcjichpeijiaaa", sum := "932c8b870c0918ed85bead3a023e4114a85f86acd5e59754e5dfdc2659585e49", func := "loop.example/g01159/laws.FnExactLooseCells", spec := "fnExactLooseCells", unfollowed := true, recurses := true, plainKeys := false, apart := false }
def FnExactLooseCellsSaid : Prop := fnExactLooseCellsRow.holds Try.pinned (OpenSpec.ofChange fnExactLooseCellsSpec)

/-- ITS FALSE NEIGHBOUR: 'it returns false'. Refute it at one input. -/
def fnExactLooseCellsWrong : ChangeSpec := { name := "fnExactLooseCells", fn := fun _ => fun
  | [d] => { results := [.lit (.bool false)], args := [d] }
  | _ => none }
def FnExactLooseCellsWrongFalsely : Prop := fnExactLooseCellsRow.holds Try.pinned (OpenSpec.ofChange fnExactLooseCellsWrong)

/-- 'laws.FnExactStandLoose': WHATEVER THE INPUT: true; the input reads as it did. -/
def fnExactStandLooseSpec : ChangeSpec := { name := "fnExactStandLoose", fn := fun _ => fun
  | [d] => { results := [.lit (.bool true)], args := [d] }
  | _ => none }
def fnExactStandLooseRow : OpenClaim := { program := "ytmcjichpeijiaaa", sum := "932c8b870c0918ed85bead3a023e4114a85f86acd5e59754e5dfdc2659585e49", func := "loop.example/g01159/laws.FnExactStandLoose", spec := "fnExactStandLoose", unfollowed := true, recurses := true, plainKeys := false, apart := false }
def FnExactStandLooseSaid : Prop := fnExactStandLooseRow.holds Try.pinned (OpenSpec.ofChange fnExactStandLooseSpec)

/-- ITS FALSE NEIGHBOUR: 'it returns false'. Refute it at one input. -/
def fnExactStandLooseWrong : ChangeSpec := { name := "fnExactStandLoose", fn := fun _ => fun
  | [d] => { results := [.lit (.bool false)], args := [d] }
  | _ => none }
def FnExactStandLooseWrongFalsely : Prop := fnExactStandLooseRow.holds Try.pinned (OpenSpec.ofChange fnExactStandLooseWrong)

/-- 'laws.FnExactCellsToStand': WHATEVER THE INPUT: true; the input reads as it did. -/
def fnExactCellsToStandSpec : ChangeSpec := { name := "fnExactCellsToStand", fn := fun _ => fun
  | [d] => { results := [.lit (.bool true)], args := [d] }
  | _ => none }
def fnExactCellsToStandRow : OpenClaim := { program := "ytmcjichpeijiaaa", sum := "932c8b870c0918ed85bead3a023e4114a85f86acd5e59754e5dfdc2659585e49", func := "loop.example/g01159/laws.FnExactCellsToStand", spec := "fnExactCellsToStand", unfollowed := true, recurses := true, plainKeys := false, apart := false }
def FnExactCellsToStandSaid : Prop := fnExactCellsToStandRow.holds Try.pinned (OpenSpec.ofChange fnExactCellsToStandSpec)

/-- ITS FALSE NEIGHBOUR: 'it returns false'. Refute it at one input. -/
def fnExactCellsToStandWrong : ChangeSpec := { name := "fnExactCellsToStand", fn := fun _ => fun
  | [d] => { results := [.lit (.bool false)], args := [d] }
  | _ => none }
def FnExactCellsToStandWrongFalsely : Prop := fnExactCellsToStandRow.holds Try.pinned (OpenSpec.ofChange fnExactCellsToStandWrong)

/-- 'laws.FnExactStackBodies': WHATEVER THE INPUT: true; the input reads as it did. -/
def fnExactStackBodiesSpec : ChangeSpec := { name := "fnExactStackBodies", fn := fun _ => fun
  | [d1, d2, d3] => { results := [.lit (.bool true)], args := [d1, d2, d3] }
  | _ => none }
def fnExactStackBodiesRow : OpenClaim := { program := "ytmcjichpeijiaaa", sum := "932c8b870c0918ed85bead3a023e4114a85f86acd5e59754e5dfdc2659585e49", func := "loop.example/g01159/laws.FnExactStackBodies", spec := "fnExactStackBodies", unfollowed := true, recurses := true, plainKeys := false, apart := false }
def FnExactStackBodiesSaid : Prop := fnExactStackBodiesRow.holds Try.pinned (OpenSpec.ofChange fnExactStackBodiesSpec)

/-- ITS FALSE NEIGHBOUR: 'it returns false'. Refute it at one input. -/
def fnExactStackBodiesWrong : ChangeSpec := { name := "fnExactStackBodies", fn := fun _ => fun
  | [d1, d2, d3] => { results := [.lit (.bool false)], args := [d1, d2, d3] }
  | _ => none }
def FnExactStackBodiesWrongFalsely : Prop := fnExactStackBodiesRow.holds Try.pinned (OpenSpec.ofChange fnExactStackBodiesWrong)

/-- 'laws.FnExactCountBodies': WHATEVER THE INPUT: true; the input reads as it did. -/
def fnExactCountBodiesSpec : ChangeSpec := { name := "fnExactCountBodies", fn := fun _ => fun
  | [d] => { results := [.lit (.bool true)], args := [d] }
  | _ => none }
def fnExactCountBodiesRow : OpenClaim := { program := "ytmcjichpeijiaaa", sum := "932c8b870c0918ed85bead3a023e4114a85f86acd5e59754e5dfdc2659585e49", func := "loop.example/g01159/laws.FnExactCountBodies", spec := "fnExactCountBodies", unfollowed := true, recurses := true, plainKeys := false, apart := false }
def FnExactCountBodiesSaid : Prop := fnExactCountBodiesRow.holds Try.pinned (OpenSpec.ofChange fnExactCountBodiesSpec)

/-- ITS FALSE NEIGHBOUR: 'it returns false'. Refute it at one input. -/
def fnExactCountBodiesWrong : ChangeSpec := { name := "fnExactCountBodies", fn := fun _ => fun
  | [d] => { results := [.lit (.bool false)], args := [d] }
  | _ => none }
def FnExactCountBodiesWrongFalsely : Prop := fnExactCountBodiesRow.holds Try.pinned (OpenSpec.ofChange fnExactCountBodiesWrong)

/-- 'laws.FnStages': WHATEVER THE INPUT: true; the input reads as it did. -/
def fnStagesSpec : ChangeSpec := { name := "fnStages", fn := fun _ => fun
  | [d] => { results := [.lit (.bool true)], args := [d] }
  | _ => none }
def fnStagesRow : OpenClaim := { program := "ytmcjichpeijiaaa", sum := "932c8b870c0918ed85bead3a023e4114a85f86acd5e59754e5dfdc2659585e49", func := "loop.example/g01159/laws.FnStages", spec := "fnStages", unfollowed := true, recurses := true, plainKeys := false, apart := false }
def FnStagesSaid : Prop := fnStagesRow.holds Try.pinned (OpenSpec.ofChange fnStagesSpec)

/-- ITS FALSE NEIGHBOUR: 'it returns false'. Refute it at one input. -/
def fnStagesWrong : ChangeSpec := { name := "fnStages", fn := fun _ => fun
  | [d] => { results := [.lit (.bool false)], args := [d] }
  | _ => none }
def FnStagesWrongFalsely : Prop := fnStagesRow.holds Try.pinned (OpenSpec.ofChange fnStagesWrong)

/-- 'laws.FnStacks': WHATEVER THE INPUT: true; the input reads as it did. -/
def fnStacksSpec : ChangeSpec := { name := "fnStacks", fn := fun _ => fun
  | [d] => { results := [.lit (.bool true)], args := [d] }
  | _ => none }
def fnStacksRow : OpenClaim := { program := "ytmcjichpeijiaaa", sum := "932c8b870c0918ed85bead3a023e4114a85f86acd5e59754e5dfdc2659585e49", func := "loop.example/g01159/laws.FnStacks", spec := "fnStacks", unfollowed := true, recurses := true, plainKeys := false, apart := false }
def FnStacksSaid : Prop := fnStacksRow.holds Try.pinned (OpenSpec.ofChange fnStacksSpec)

/-- ITS FALSE NEIGHBOUR: 'it returns false'. Refute it at one input. -/
def fnStacksWrong : ChangeSpec := { name := "fnStacks", fn := fun _ => fun
  | [d] => { results := [.lit (.bool false)], args := [d] }
  | _ => none }
def FnStacksWrongFalsely : Prop := fnStacksRow.holds Try.pinned (OpenSpec.ofChange fnStacksWrong)

/- THE SECOND FORM. 'bulk': how many values and letters a reading holds, each counted each time it is reached (what is shared counts as often as it is met; a slice's spare places count too). A statement '..UptoSaid' is the law's where the arguments, and the package variables that the reading takes, are together of bulk at most 1048576: NARROWER than '..Said'. Prove '..Said' where nothing that the law and all that it calls make is longer than what came in: it says more and counts as full. Else prove '..UptoSaid'. A law counts once. -/
mutual
def uptoBulk {H : Type} : DataW H → Nat
  | .lit (.string bytes) => bytes.length + 1
  | .lit _ => 1
  | .nil => 1
  | .ptr d => uptoBulk d + 1
  | .slice elems spare => uptoBulkAll elems + uptoBulkAll spare + 1
  | .agg parts => uptoBulkAll parts + 1
  | .iface _ d => uptoBulk d + 1
  | .map entries => uptoBulkEntries entries + 1
  | .held _ => 1
def uptoBulkAll {H : Type} : List (DataW H) → Nat
  | [] => 0
  | d :: r => uptoBulk d + uptoBulkAll r
def uptoBulkEntries {H : Type} : List (Lit × DataW H) → Nat
  | [] => 0
  | x :: r => uptoBulkEntry x + uptoBulkEntries r
def uptoBulkEntry {H : Type} : Lit × DataW H → Nat
  | (.string bytes, d) => bytes.length + uptoBulk d + 1
  | (_, d) => uptoBulk d + 1
 end
def uptoSmall : (H : Type) → List (DataW H) → Bool := fun _ ds => decide (uptoBulkAll ds ≤ 1048576)
def OpenSpec.upto (s : _root_.Go.ChangeSpec) : _root_.Go.OpenSpec := { _root_.Go.OpenSpec.ofChange s with cond := some uptoSmall }

/-- 'laws.FnExactIsBody', WHERE WHAT IT READS IS OF BULK AT MOST 1048576: true; the input reads as it did. -/
def fnExactIsBodyUptoRow : OpenClaim := { program := "ytmcjichpeijiaaa", sum := "932c8b870c0918ed85bead3a023e4114a85f86acd5e59754e5dfdc2659585e49", func := "loop.example/g01159/laws.FnExactIsBody", spec := "fnExactIsBody", unfollowed := true, recurses := true, plainKeys := false, apart := false, narrowed := true }
def FnExactIsBodyUptoSaid : Prop := fnExactIsBodyUptoRow.holds Try.pinned (OpenSpec.upto fnExactIsBodySpec)

/-- 'laws.FnExactPutDown', WHERE WHAT IT READS IS OF BULK AT MOST 1048576: true; the input reads as it did. -/
def fnExactPutDownUptoRow : OpenClaim := { program := "ytmcjichpeijiaaa", sum := "932c8b870c0918ed85bead3a023e4114a85f86acd5e59754e5dfdc2659585e49", func := "loop.example/g01159/laws.FnExactPutDown", spec := "fnExactPutDown", unfollowed := true, recurses := true, plainKeys := false, apart := false, narrowed := true }
def FnExactPutDownUptoSaid : Prop := fnExactPutDownUptoRow.holds Try.pinned (OpenSpec.upto fnExactPutDownSpec)

/-- 'laws.FnExactBodyCentre', WHERE WHAT IT READS IS OF BULK AT MOST 1048576: true; the input reads as it did. -/
def fnExactBodyCentreUptoRow : OpenClaim := { program := "ytmcjichpeijiaaa", sum := "932c8b870c0918ed85bead3a023e4114a85f86acd5e59754e5dfdc2659585e49", func := "loop.example/g01159/laws.FnExactBodyCentre", spec := "fnExactBodyCentre", unfollowed := true, recurses := true, plainKeys := false, apart := false, narrowed := true }
def FnExactBodyCentreUptoSaid : Prop := fnExactBodyCentreUptoRow.holds Try.pinned (OpenSpec.upto fnExactBodyCentreSpec)

/-- 'laws.FnExactGroundOf', WHERE WHAT IT READS IS OF BULK AT MOST 1048576: true; the input reads as it did. -/
def fnExactGroundOfUptoRow : OpenClaim := { program := "ytmcjichpeijiaaa", sum := "932c8b870c0918ed85bead3a023e4114a85f86acd5e59754e5dfdc2659585e49", func := "loop.example/g01159/laws.FnExactGroundOf", spec := "fnExactGroundOf", unfollowed := true, recurses := true, plainKeys := false, apart := false, narrowed := true }
def FnExactGroundOfUptoSaid : Prop := fnExactGroundOfUptoRow.holds Try.pinned (OpenSpec.upto fnExactGroundOfSpec)

/-- 'laws.FnExactBodySide', WHERE WHAT IT READS IS OF BULK AT MOST 1048576: true; the input reads as it did. -/
def fnExactBodySideUptoRow : OpenClaim := { program := "ytmcjichpeijiaaa", sum := "932c8b870c0918ed85bead3a023e4114a85f86acd5e59754e5dfdc2659585e49", func := "loop.example/g01159/laws.FnExactBodySide", spec := "fnExactBodySide", unfollowed := true, recurses := true, plainKeys := false, apart := false, narrowed := true }
def FnExactBodySideUptoSaid : Prop := fnExactBodySideUptoRow.holds Try.pinned (OpenSpec.upto fnExactBodySideSpec)

/-- 'laws.FnExactTurnBody', WHERE WHAT IT READS IS OF BULK AT MOST 1048576: true; the input reads as it did. -/
def fnExactTurnBodyUptoRow : OpenClaim := { program := "ytmcjichpeijiaaa", sum := "932c8b870c0918ed85bead3a023e4114a85f86acd5e59754e5dfdc2659585e49", func := "loop.example/g01159/laws.FnExactTurnBody", spec := "fnExactTurnBody", unfollowed := true, recurses := true, plainKeys := false, apart := false, narrowed := true }
def FnExactTurnBodyUptoSaid : Prop := fnExactTurnBodyUptoRow.holds Try.pinned (OpenSpec.upto fnExactTurnBodySpec)

/-- 'laws.FnExactMirrorBody', WHERE WHAT IT READS IS OF BULK AT MOST 1048576: true; the input reads as it did. -/
def fnExactMirrorBodyUptoRow : OpenClaim := { program := "ytmcjichpeijiaaa", sum := "932c8b870c0918ed85bead3a023e4114a85f86acd5e59754e5dfdc2659585e49", func := "loop.example/g01159/laws.FnExactMirrorBody", spec := "fnExactMirrorBody", unfollowed := true, recurses := true, plainKeys := false, apart := false, narrowed := true }
def FnExactMirrorBodyUptoSaid : Prop := fnExactMirrorBodyUptoRow.holds Try.pinned (OpenSpec.upto fnExactMirrorBodySpec)

/-- 'laws.FnExactTumbleBody', WHERE WHAT IT READS IS OF BULK AT MOST 1048576: true; the input reads as it did. -/
def fnExactTumbleBodyUptoRow : OpenClaim := { program := "ytmcjichpeijiaaa", sum := "932c8b870c0918ed85bead3a023e4114a85f86acd5e59754e5dfdc2659585e49", func := "loop.example/g01159/laws.FnExactTumbleBody", spec := "fnExactTumbleBody", unfollowed := true, recurses := true, plainKeys := false, apart := false, narrowed := true }
def FnExactTumbleBodyUptoSaid : Prop := fnExactTumbleBodyUptoRow.holds Try.pinned (OpenSpec.upto fnExactTumbleBodySpec)

/-- 'laws.FnExactStandingTurns', WHERE WHAT IT READS IS OF BULK AT MOST 1048576: true; the input reads as it did. -/
def fnExactStandingTurnsUptoRow : OpenClaim := { program := "ytmcjichpeijiaaa", sum := "932c8b870c0918ed85bead3a023e4114a85f86acd5e59754e5dfdc2659585e49", func := "loop.example/g01159/laws.FnExactStandingTurns", spec := "fnExactStandingTurns", unfollowed := true, recurses := true, plainKeys := false, apart := false, narrowed := true }
def FnExactStandingTurnsUptoSaid : Prop := fnExactStandingTurnsUptoRow.holds Try.pinned (OpenSpec.upto fnExactStandingTurnsSpec)

/-- 'laws.FnExactLooseCells', WHERE WHAT IT READS IS OF BULK AT MOST 1048576: true; the input reads as it did. -/
def fnExactLooseCellsUptoRow : OpenClaim := { program := "ytmcjichpeijiaaa", sum := "932c8b870c0918ed85bead3a023e4114a85f86acd5e59754e5dfdc2659585e49", func := "loop.example/g01159/laws.FnExactLooseCells", spec := "fnExactLooseCells", unfollowed := true, recurses := true, plainKeys := false, apart := false, narrowed := true }
def FnExactLooseCellsUptoSaid : Prop := fnExactLooseCellsUptoRow.holds Try.pinned (OpenSpec.upto fnExactLooseCellsSpec)

/-- 'laws.FnExactStandLoose', WHERE WHAT IT READS IS OF BULK AT MOST 1048576: true; the input reads as it did. -/
def fnExactStandLooseUptoRow : OpenClaim := { program := "ytmcjichpeijiaaa", sum := "932c8b870c0918ed85bead3a023e4114a85f86acd5e59754e5dfdc2659585e49", func := "loop.example/g01159/laws.FnExactStandLoose", spec := "fnExactStandLoose", unfollowed := true, recurses := true, plainKeys := false, apart := false, narrowed := true }
def FnExactStandLooseUptoSaid : Prop := fnExactStandLooseUptoRow.holds Try.pinned (OpenSpec.upto fnExactStandLooseSpec)

/-- 'laws.FnExactCellsToStand', WHERE WHAT IT READS IS OF BULK AT MOST 1048576: true; the input reads as it did. -/
def fnExactCellsToStandUptoRow : OpenClaim := { program := "ytmcjichpeijiaaa", sum := "932c8b870c0918ed85bead3a023e4114a85f86acd5e59754e5dfdc2659585e49", func := "loop.example/g01159/laws.FnExactCellsToStand", spec := "fnExactCellsToStand", unfollowed := true, recurses := true, plainKeys := false, apart := false, narrowed := true }
def FnExactCellsToStandUptoSaid : Prop := fnExactCellsToStandUptoRow.holds Try.pinned (OpenSpec.upto fnExactCellsToStandSpec)

/-- 'laws.FnExactStackBodies', WHERE WHAT IT READS IS OF BULK AT MOST 1048576: true; the input reads as it did. -/
def fnExactStackBodiesUptoRow : OpenClaim := { program := "ytmcjichpeijiaaa", sum := "932c8b870c0918ed85bead3a023e4114a85f86acd5e59754e5dfdc2659585e49", func := "loop.example/g01159/laws.FnExactStackBodies", spec := "fnExactStackBodies", unfollowed := true, recurses := true, plainKeys := false, apart := false, narrowed := true }
def FnExactStackBodiesUptoSaid : Prop := fnExactStackBodiesUptoRow.holds Try.pinned (OpenSpec.upto fnExactStackBodiesSpec)

/-- 'laws.FnExactCountBodies', WHERE WHAT IT READS IS OF BULK AT MOST 1048576: true; the input reads as it did. -/
def fnExactCountBodiesUptoRow : OpenClaim := { program := "ytmcjichpeijiaaa", sum := "932c8b870c0918ed85bead3a023e4114a85f86acd5e59754e5dfdc2659585e49", func := "loop.example/g01159/laws.FnExactCountBodies", spec := "fnExactCountBodies", unfollowed := true, recurses := true, plainKeys := false, apart := false, narrowed := true }
def FnExactCountBodiesUptoSaid : Prop := fnExactCountBodiesUptoRow.holds Try.pinned (OpenSpec.upto fnExactCountBodiesSpec)

/-- 'laws.FnStages', WHERE WHAT IT READS IS OF BULK AT MOST 1048576: true; the input reads as it did. -/
def fnStagesUptoRow : OpenClaim := { program := "ytmcjichpeijiaaa", sum := "932c8b870c0918ed85bead3a023e4114a85f86acd5e59754e5dfdc2659585e49", func := "loop.example/g01159/laws.FnStages", spec := "fnStages", unfollowed := true, recurses := true, plainKeys := false, apart := false, narrowed := true }
def FnStagesUptoSaid : Prop := fnStagesUptoRow.holds Try.pinned (OpenSpec.upto fnStagesSpec)

/-- 'laws.FnStacks', WHERE WHAT IT READS IS OF BULK AT MOST 1048576: true; the input reads as it did. -/
def fnStacksUptoRow : OpenClaim := { program := "ytmcjichpeijiaaa", sum := "932c8b870c0918ed85bead3a023e4114a85f86acd5e59754e5dfdc2659585e49", func := "loop.example/g01159/laws.FnStacks", spec := "fnStacks", unfollowed := true, recurses := true, plainKeys := false, apart := false, narrowed := true }
def FnStacksUptoSaid : Prop := fnStacksUptoRow.holds Try.pinned (OpenSpec.upto fnStacksSpec)

end Rows
end Go.Proofs.Ytmcjichpeijiaaa
