/-
  No cell of these rows narrows 'for every input' (looked for: loops, veiled, ifaces, maps, wideKeys, modest, calm, conditions, laid).
  DERIVED. THE GIVEN ROWS OF THIS SEAT. 22 by the template 'for every input the law returns true; each argument reads behind the call as it read before'; 0 by the template 'total and deterministic' (their statements: YtgjchkcjlmklbaaTotals.lean).
  GIVEN WITH THE SEED: the statements are not yours to turn. If you find one false, say at which input.
  Laid BY PROGRAM, IN A SANDBOX (cutbox-rows.mjs): the forced cells as the released guide's own fill.sh prints them over the translation de9864b3a3ec7f76… (all of the seat's roots in one cut). By AI agents, Wed Nov 11 2026. No macro, syntax, notation, axiom, sorry.
-/
import Derived.Test.YtgjchkcjlmklbaaChecked
import GoSem.Claim
import GoSem.ClaimJoined
import GoSem.ClaimMapViews
import Derived.JoinedTies
import Derived.KernelRfl
namespace Go.Proofs.Ytgjchkcjlmklbaa
/- THE CELL 'sum', in the pinned program and in every row, IS THE sha256 OF THE DUMP (.gsa) THAT YtgjchkcjlmklbaaProg.lean LOADS. Nothing in Lean hashes anything: it is a label: what it is worth is what the hold of that sum in a sandbox is worth. -/
noncomputable def Try.pinned : Pinned := { name := "ytgjchkcjlmklbaa", sum := "de9864b3a3ec7f76f2d7b6c3f134908d2d79c5cc4a0554f5cb82ddb94fac5bf5", checked := Try.checked }
namespace Rows
def none {H : Type} : Left H := { results := [], args := [] }

/-- 'laws.FnExactIsSeating': WHATEVER THE INPUT: true; the input reads as it did. -/
def fnExactIsSeatingSpec : ChangeSpec := { name := "fnExactIsSeating", fn := fun _ => fun
  | [d1, d2, d3] => { results := [.lit (.bool true)], args := [d1, d2, d3] }
  | _ => none }
def fnExactIsSeatingRow : OpenClaim := { program := "ytgjchkcjlmklbaa", sum := "de9864b3a3ec7f76f2d7b6c3f134908d2d79c5cc4a0554f5cb82ddb94fac5bf5", func := "loop.example/g01159/laws.FnExactIsSeating", spec := "fnExactIsSeating", unfollowed := true, recurses := true, plainKeys := false, apart := false }
def FnExactIsSeatingSaid : Prop := fnExactIsSeatingRow.holds Try.pinned (OpenSpec.ofChange fnExactIsSeatingSpec)

/-- ITS FALSE NEIGHBOUR: 'it returns false'. Refute it at one input. -/
def fnExactIsSeatingWrong : ChangeSpec := { name := "fnExactIsSeating", fn := fun _ => fun
  | [d1, d2, d3] => { results := [.lit (.bool false)], args := [d1, d2, d3] }
  | _ => none }
def FnExactIsSeatingWrongFalsely : Prop := fnExactIsSeatingRow.holds Try.pinned (OpenSpec.ofChange fnExactIsSeatingWrong)

/-- 'laws.FnExactSeatRow': WHATEVER THE INPUT: true; the input reads as it did. -/
def fnExactSeatRowSpec : ChangeSpec := { name := "fnExactSeatRow", fn := fun _ => fun
  | [d1, d2, d3] => { results := [.lit (.bool true)], args := [d1, d2, d3] }
  | _ => none }
def fnExactSeatRowRow : OpenClaim := { program := "ytgjchkcjlmklbaa", sum := "de9864b3a3ec7f76f2d7b6c3f134908d2d79c5cc4a0554f5cb82ddb94fac5bf5", func := "loop.example/g01159/laws.FnExactSeatRow", spec := "fnExactSeatRow", unfollowed := true, recurses := true, plainKeys := false, apart := false }
def FnExactSeatRowSaid : Prop := fnExactSeatRowRow.holds Try.pinned (OpenSpec.ofChange fnExactSeatRowSpec)

/-- ITS FALSE NEIGHBOUR: 'it returns false'. Refute it at one input. -/
def fnExactSeatRowWrong : ChangeSpec := { name := "fnExactSeatRow", fn := fun _ => fun
  | [d1, d2, d3] => { results := [.lit (.bool false)], args := [d1, d2, d3] }
  | _ => none }
def FnExactSeatRowWrongFalsely : Prop := fnExactSeatRowRow.holds Try.pinned (OpenSpec.ofChange fnExactSeatRowWrong)

/-- 'laws.FnExactFirstEven': WHATEVER THE INPUT: true; the input reads as it did. -/
def fnExactFirstEvenSpec : ChangeSpec := { name := "fnExactFirstEven", fn := fun _ => fun
  | [d1, d2] => { results := [.lit (.bool true)], args := [d1, d2] }
  | _ => none }
def fnExactFirstEvenRow : OpenClaim := { program := "ytgjchkcjlmklbaa", sum := "de9864b3a3ec7f76f2d7b6c3f134908d2d79c5cc4a0554f5cb82ddb94fac5bf5", func := "loop.example/g01159/laws.FnExactFirstEven", spec := "fnExactFirstEven", unfollowed := true, recurses := true, plainKeys := false, apart := false }
def FnExactFirstEvenSaid : Prop := fnExactFirstEvenRow.holds Try.pinned (OpenSpec.ofChange fnExactFirstEvenSpec)

/-- ITS FALSE NEIGHBOUR: 'it returns false'. Refute it at one input. -/
def fnExactFirstEvenWrong : ChangeSpec := { name := "fnExactFirstEven", fn := fun _ => fun
  | [d1, d2] => { results := [.lit (.bool false)], args := [d1, d2] }
  | _ => none }
def FnExactFirstEvenWrongFalsely : Prop := fnExactFirstEvenRow.holds Try.pinned (OpenSpec.ofChange fnExactFirstEvenWrong)

/-- 'laws.FnExactCountEven': WHATEVER THE INPUT: true; the input reads as it did. -/
def fnExactCountEvenSpec : ChangeSpec := { name := "fnExactCountEven", fn := fun _ => fun
  | [d1, d2] => { results := [.lit (.bool true)], args := [d1, d2] }
  | _ => none }
def fnExactCountEvenRow : OpenClaim := { program := "ytgjchkcjlmklbaa", sum := "de9864b3a3ec7f76f2d7b6c3f134908d2d79c5cc4a0554f5cb82ddb94fac5bf5", func := "loop.example/g01159/laws.FnExactCountEven", spec := "fnExactCountEven", unfollowed := true, recurses := true, plainKeys := false, apart := false }
def FnExactCountEvenSaid : Prop := fnExactCountEvenRow.holds Try.pinned (OpenSpec.ofChange fnExactCountEvenSpec)

/-- ITS FALSE NEIGHBOUR: 'it returns false'. Refute it at one input. -/
def fnExactCountEvenWrong : ChangeSpec := { name := "fnExactCountEven", fn := fun _ => fun
  | [d1, d2] => { results := [.lit (.bool false)], args := [d1, d2] }
  | _ => none }
def FnExactCountEvenWrongFalsely : Prop := fnExactCountEvenRow.holds Try.pinned (OpenSpec.ofChange fnExactCountEvenWrong)

/-- 'laws.FnExactLeastTilt': WHATEVER THE INPUT: true; the input reads as it did. -/
def fnExactLeastTiltSpec : ChangeSpec := { name := "fnExactLeastTilt", fn := fun _ => fun
  | [d1, d2] => { results := [.lit (.bool true)], args := [d1, d2] }
  | _ => none }
def fnExactLeastTiltRow : OpenClaim := { program := "ytgjchkcjlmklbaa", sum := "de9864b3a3ec7f76f2d7b6c3f134908d2d79c5cc4a0554f5cb82ddb94fac5bf5", func := "loop.example/g01159/laws.FnExactLeastTilt", spec := "fnExactLeastTilt", unfollowed := true, recurses := true, plainKeys := false, apart := false }
def FnExactLeastTiltSaid : Prop := fnExactLeastTiltRow.holds Try.pinned (OpenSpec.ofChange fnExactLeastTiltSpec)

/-- ITS FALSE NEIGHBOUR: 'it returns false'. Refute it at one input. -/
def fnExactLeastTiltWrong : ChangeSpec := { name := "fnExactLeastTilt", fn := fun _ => fun
  | [d1, d2] => { results := [.lit (.bool false)], args := [d1, d2] }
  | _ => none }
def FnExactLeastTiltWrongFalsely : Prop := fnExactLeastTiltRow.holds Try.pinned (OpenSpec.ofChange fnExactLeastTiltWrong)

/-- 'laws.FnExactCountTilts': WHATEVER THE INPUT: true; the input reads as it did. -/
def fnExactCountTiltsSpec : ChangeSpec := { name := "fnExactCountTilts", fn := fun _ => fun
  | [d1, d2, d3] => { results := [.lit (.bool true)], args := [d1, d2, d3] }
  | _ => none }
def fnExactCountTiltsRow : OpenClaim := { program := "ytgjchkcjlmklbaa", sum := "de9864b3a3ec7f76f2d7b6c3f134908d2d79c5cc4a0554f5cb82ddb94fac5bf5", func := "loop.example/g01159/laws.FnExactCountTilts", spec := "fnExactCountTilts", unfollowed := true, recurses := true, plainKeys := false, apart := false }
def FnExactCountTiltsSaid : Prop := fnExactCountTiltsRow.holds Try.pinned (OpenSpec.ofChange fnExactCountTiltsSpec)

/-- ITS FALSE NEIGHBOUR: 'it returns false'. Refute it at one input. -/
def fnExactCountTiltsWrong : ChangeSpec := { name := "fnExactCountTilts", fn := fun _ => fun
  | [d1, d2, d3] => { results := [.lit (.bool false)], args := [d1, d2, d3] }
  | _ => none }
def FnExactCountTiltsWrongFalsely : Prop := fnExactCountTiltsRow.holds Try.pinned (OpenSpec.ofChange fnExactCountTiltsWrong)

/-- 'laws.FnExactTiltRow': WHATEVER THE INPUT: true; the input reads as it did. -/
def fnExactTiltRowSpec : ChangeSpec := { name := "fnExactTiltRow", fn := fun _ => fun
  | [d1, d2, d3] => { results := [.lit (.bool true)], args := [d1, d2, d3] }
  | _ => none }
def fnExactTiltRowRow : OpenClaim := { program := "ytgjchkcjlmklbaa", sum := "de9864b3a3ec7f76f2d7b6c3f134908d2d79c5cc4a0554f5cb82ddb94fac5bf5", func := "loop.example/g01159/laws.FnExactTiltRow", spec := "fnExactTiltRow", unfollowed := true, recurses := true, plainKeys := false, apart := false }
def FnExactTiltRowSaid : Prop := fnExactTiltRowRow.holds Try.pinned (OpenSpec.ofChange fnExactTiltRowSpec)

/-- ITS FALSE NEIGHBOUR: 'it returns false'. Refute it at one input. -/
def fnExactTiltRowWrong : ChangeSpec := { name := "fnExactTiltRow", fn := fun _ => fun
  | [d1, d2, d3] => { results := [.lit (.bool false)], args := [d1, d2, d3] }
  | _ => none }
def FnExactTiltRowWrongFalsely : Prop := fnExactTiltRowRow.holds Try.pinned (OpenSpec.ofChange fnExactTiltRowWrong)

/-- 'laws.FnExactZeroGroups': WHATEVER THE INPUT: true; the input reads as it did. -/
def fnExactZeroGroupsSpec : ChangeSpec := { name := "fnExactZeroGroups", fn := fun _ => fun
  | [d1, d2] => { results := [.lit (.bool true)], args := [d1, d2] }
  | _ => none }
def fnExactZeroGroupsRow : OpenClaim := { program := "ytgjchkcjlmklbaa", sum := "de9864b3a3ec7f76f2d7b6c3f134908d2d79c5cc4a0554f5cb82ddb94fac5bf5", func := "loop.example/g01159/laws.FnExactZeroGroups", spec := "fnExactZeroGroups", unfollowed := true, recurses := true, plainKeys := false, apart := false }
def FnExactZeroGroupsSaid : Prop := fnExactZeroGroupsRow.holds Try.pinned (OpenSpec.ofChange fnExactZeroGroupsSpec)

/-- ITS FALSE NEIGHBOUR: 'it returns false'. Refute it at one input. -/
def fnExactZeroGroupsWrong : ChangeSpec := { name := "fnExactZeroGroups", fn := fun _ => fun
  | [d1, d2] => { results := [.lit (.bool false)], args := [d1, d2] }
  | _ => none }
def FnExactZeroGroupsWrongFalsely : Prop := fnExactZeroGroupsRow.holds Try.pinned (OpenSpec.ofChange fnExactZeroGroupsWrong)

/-- 'laws.FnExactCountZero': WHATEVER THE INPUT: true; the input reads as it did. -/
def fnExactCountZeroSpec : ChangeSpec := { name := "fnExactCountZero", fn := fun _ => fun
  | [d1, d2] => { results := [.lit (.bool true)], args := [d1, d2] }
  | _ => none }
def fnExactCountZeroRow : OpenClaim := { program := "ytgjchkcjlmklbaa", sum := "de9864b3a3ec7f76f2d7b6c3f134908d2d79c5cc4a0554f5cb82ddb94fac5bf5", func := "loop.example/g01159/laws.FnExactCountZero", spec := "fnExactCountZero", unfollowed := true, recurses := true, plainKeys := false, apart := false }
def FnExactCountZeroSaid : Prop := fnExactCountZeroRow.holds Try.pinned (OpenSpec.ofChange fnExactCountZeroSpec)

/-- ITS FALSE NEIGHBOUR: 'it returns false'. Refute it at one input. -/
def fnExactCountZeroWrong : ChangeSpec := { name := "fnExactCountZero", fn := fun _ => fun
  | [d1, d2] => { results := [.lit (.bool false)], args := [d1, d2] }
  | _ => none }
def FnExactCountZeroWrongFalsely : Prop := fnExactCountZeroRow.holds Try.pinned (OpenSpec.ofChange fnExactCountZeroWrong)

/-- 'laws.FnExactSplitAlike': WHATEVER THE INPUT: true; the input reads as it did. -/
def fnExactSplitAlikeSpec : ChangeSpec := { name := "fnExactSplitAlike", fn := fun _ => fun
  | [d] => { results := [.lit (.bool true)], args := [d] }
  | _ => none }
def fnExactSplitAlikeRow : OpenClaim := { program := "ytgjchkcjlmklbaa", sum := "de9864b3a3ec7f76f2d7b6c3f134908d2d79c5cc4a0554f5cb82ddb94fac5bf5", func := "loop.example/g01159/laws.FnExactSplitAlike", spec := "fnExactSplitAlike", unfollowed := true, recurses := true, plainKeys := false, apart := false }
def FnExactSplitAlikeSaid : Prop := fnExactSplitAlikeRow.holds Try.pinned (OpenSpec.ofChange fnExactSplitAlikeSpec)

/-- ITS FALSE NEIGHBOUR: 'it returns false'. Refute it at one input. -/
def fnExactSplitAlikeWrong : ChangeSpec := { name := "fnExactSplitAlike", fn := fun _ => fun
  | [d] => { results := [.lit (.bool false)], args := [d] }
  | _ => none }
def FnExactSplitAlikeWrongFalsely : Prop := fnExactSplitAlikeRow.holds Try.pinned (OpenSpec.ofChange fnExactSplitAlikeWrong)

/-- 'laws.FnExactOneMove': WHATEVER THE INPUT: true; the input reads as it did. -/
def fnExactOneMoveSpec : ChangeSpec := { name := "fnExactOneMove", fn := fun _ => fun
  | [d1, d2] => { results := [.lit (.bool true)], args := [d1, d2] }
  | _ => none }
def fnExactOneMoveRow : OpenClaim := { program := "ytgjchkcjlmklbaa", sum := "de9864b3a3ec7f76f2d7b6c3f134908d2d79c5cc4a0554f5cb82ddb94fac5bf5", func := "loop.example/g01159/laws.FnExactOneMove", spec := "fnExactOneMove", plainKeys := false, apart := false }
def FnExactOneMoveSaid : Prop := fnExactOneMoveRow.holds Try.pinned (OpenSpec.ofChange fnExactOneMoveSpec)

/-- ITS FALSE NEIGHBOUR: 'it returns false'. Refute it at one input. -/
def fnExactOneMoveWrong : ChangeSpec := { name := "fnExactOneMove", fn := fun _ => fun
  | [d1, d2] => { results := [.lit (.bool false)], args := [d1, d2] }
  | _ => none }
def FnExactOneMoveWrongFalsely : Prop := fnExactOneMoveRow.holds Try.pinned (OpenSpec.ofChange fnExactOneMoveWrong)

/-- 'laws.FnExactOneSwap': WHATEVER THE INPUT: true; the input reads as it did. -/
def fnExactOneSwapSpec : ChangeSpec := { name := "fnExactOneSwap", fn := fun _ => fun
  | [d1, d2] => { results := [.lit (.bool true)], args := [d1, d2] }
  | _ => none }
def fnExactOneSwapRow : OpenClaim := { program := "ytgjchkcjlmklbaa", sum := "de9864b3a3ec7f76f2d7b6c3f134908d2d79c5cc4a0554f5cb82ddb94fac5bf5", func := "loop.example/g01159/laws.FnExactOneSwap", spec := "fnExactOneSwap", plainKeys := false, apart := false }
def FnExactOneSwapSaid : Prop := fnExactOneSwapRow.holds Try.pinned (OpenSpec.ofChange fnExactOneSwapSpec)

/-- ITS FALSE NEIGHBOUR: 'it returns false'. Refute it at one input. -/
def fnExactOneSwapWrong : ChangeSpec := { name := "fnExactOneSwap", fn := fun _ => fun
  | [d1, d2] => { results := [.lit (.bool false)], args := [d1, d2] }
  | _ => none }
def FnExactOneSwapWrongFalsely : Prop := fnExactOneSwapRow.holds Try.pinned (OpenSpec.ofChange fnExactOneSwapWrong)

/-- 'laws.FnExactReachGain': WHATEVER THE INPUT: true; the input reads as it did. -/
def fnExactReachGainSpec : ChangeSpec := { name := "fnExactReachGain", fn := fun _ => fun
  | [d1, d2] => { results := [.lit (.bool true)], args := [d1, d2] }
  | _ => none }
def fnExactReachGainRow : OpenClaim := { program := "ytgjchkcjlmklbaa", sum := "de9864b3a3ec7f76f2d7b6c3f134908d2d79c5cc4a0554f5cb82ddb94fac5bf5", func := "loop.example/g01159/laws.FnExactReachGain", spec := "fnExactReachGain", unfollowed := true, recurses := true, plainKeys := false, apart := false }
def FnExactReachGainSaid : Prop := fnExactReachGainRow.holds Try.pinned (OpenSpec.ofChange fnExactReachGainSpec)

/-- ITS FALSE NEIGHBOUR: 'it returns false'. Refute it at one input. -/
def fnExactReachGainWrong : ChangeSpec := { name := "fnExactReachGain", fn := fun _ => fun
  | [d1, d2] => { results := [.lit (.bool false)], args := [d1, d2] }
  | _ => none }
def FnExactReachGainWrongFalsely : Prop := fnExactReachGainRow.holds Try.pinned (OpenSpec.ofChange fnExactReachGainWrong)

/-- 'laws.FnExactExactGain': WHATEVER THE INPUT: true; the input reads as it did. -/
def fnExactExactGainSpec : ChangeSpec := { name := "fnExactExactGain", fn := fun _ => fun
  | [d1, d2] => { results := [.lit (.bool true)], args := [d1, d2] }
  | _ => none }
def fnExactExactGainRow : OpenClaim := { program := "ytgjchkcjlmklbaa", sum := "de9864b3a3ec7f76f2d7b6c3f134908d2d79c5cc4a0554f5cb82ddb94fac5bf5", func := "loop.example/g01159/laws.FnExactExactGain", spec := "fnExactExactGain", unfollowed := true, recurses := true, plainKeys := false, apart := false }
def FnExactExactGainSaid : Prop := fnExactExactGainRow.holds Try.pinned (OpenSpec.ofChange fnExactExactGainSpec)

/-- ITS FALSE NEIGHBOUR: 'it returns false'. Refute it at one input. -/
def fnExactExactGainWrong : ChangeSpec := { name := "fnExactExactGain", fn := fun _ => fun
  | [d1, d2] => { results := [.lit (.bool false)], args := [d1, d2] }
  | _ => none }
def FnExactExactGainWrongFalsely : Prop := fnExactExactGainRow.holds Try.pinned (OpenSpec.ofChange fnExactExactGainWrong)

/-- 'laws.FnExactStackBodies': WHATEVER THE INPUT: true; the input reads as it did. -/
def fnExactStackBodiesSpec : ChangeSpec := { name := "fnExactStackBodies", fn := fun _ => fun
  | [d1, d2, d3] => { results := [.lit (.bool true)], args := [d1, d2, d3] }
  | _ => none }
def fnExactStackBodiesRow : OpenClaim := { program := "ytgjchkcjlmklbaa", sum := "de9864b3a3ec7f76f2d7b6c3f134908d2d79c5cc4a0554f5cb82ddb94fac5bf5", func := "loop.example/g01159/laws.FnExactStackBodies", spec := "fnExactStackBodies", unfollowed := true, recurses := true, plainKeys := false, apart := false }
def FnExactStackBodiesSaid : Prop := fnExactStackBodiesRow.holds Try.pinned (OpenSpec.ofChange fnExactStackBodiesSpec)

/-- ITS FALSE NEIGHBOUR: 'it returns false'. Refute it at one input. -/
def fnExactStackBodiesWrong : ChangeSpec := { name := "fnExactStackBodies", fn := fun _ => fun
  | [d1, d2, d3] => { results := [.lit (.bool false)], args := [d1, d2, d3] }
  | _ => none }
def FnExactStackBodiesWrongFalsely : Prop := fnExactStackBodiesRow.holds Try.pinned (OpenSpec.ofChange fnExactStackBodiesWrong)

/-- 'laws.FnExactCellsToStand': WHATEVER THE INPUT: true; the input reads as it did. -/
def fnExactCellsToStandSpec : ChangeSpec := { name := "fnExactCellsToStand", fn := fun _ => fun
  | [d] => { results := [.lit (.bool true)], args := [d] }
  | _ => none }
def fnExactCellsToStandRow : OpenClaim := { program := "ytgjchkcjlmklbaa", sum := "de9864b3a3ec7f76f2d7b6c3f134908d2d79c5cc4a0554f5cb82ddb94fac5bf5", func := "loop.example/g01159/laws.FnExactCellsToStand", spec := "fnExactCellsToStand", unfollowed := true, recurses := true, plainKeys := false, apart := false }
def FnExactCellsToStandSaid : Prop := fnExactCellsToStandRow.holds Try.pinned (OpenSpec.ofChange fnExactCellsToStandSpec)

/-- ITS FALSE NEIGHBOUR: 'it returns false'. Refute it at one input. -/
def fnExactCellsToStandWrong : ChangeSpec := { name := "fnExactCellsToStand", fn := fun _ => fun
  | [d] => { results := [.lit (.bool false)], args := [d] }
  | _ => none }
def FnExactCellsToStandWrongFalsely : Prop := fnExactCellsToStandRow.holds Try.pinned (OpenSpec.ofChange fnExactCellsToStandWrong)

/-- 'laws.FnExactCountBodies': WHATEVER THE INPUT: true; the input reads as it did. -/
def fnExactCountBodiesSpec : ChangeSpec := { name := "fnExactCountBodies", fn := fun _ => fun
  | [d] => { results := [.lit (.bool true)], args := [d] }
  | _ => none }
def fnExactCountBodiesRow : OpenClaim := { program := "ytgjchkcjlmklbaa", sum := "de9864b3a3ec7f76f2d7b6c3f134908d2d79c5cc4a0554f5cb82ddb94fac5bf5", func := "loop.example/g01159/laws.FnExactCountBodies", spec := "fnExactCountBodies", unfollowed := true, recurses := true, plainKeys := false, apart := false }
def FnExactCountBodiesSaid : Prop := fnExactCountBodiesRow.holds Try.pinned (OpenSpec.ofChange fnExactCountBodiesSpec)

/-- ITS FALSE NEIGHBOUR: 'it returns false'. Refute it at one input. -/
def fnExactCountBodiesWrong : ChangeSpec := { name := "fnExactCountBodies", fn := fun _ => fun
  | [d] => { results := [.lit (.bool false)], args := [d] }
  | _ => none }
def FnExactCountBodiesWrongFalsely : Prop := fnExactCountBodiesRow.holds Try.pinned (OpenSpec.ofChange fnExactCountBodiesWrong)

/-- 'laws.FnMends': WHATEVER THE INPUT: true; the input reads as it did. -/
def fnMendsSpec : ChangeSpec := { name := "fnMends", fn := fun _ => fun
  | [d] => { results := [.lit (.bool true)], args := [d] }
  | _ => none }
def fnMendsRow : OpenClaim := { program := "ytgjchkcjlmklbaa", sum := "de9864b3a3ec7f76f2d7b6c3f134908d2d79c5cc4a0554f5cb82ddb94fac5bf5", func := "loop.example/g01159/laws.FnMends", spec := "fnMends", plainKeys := false, apart := false }
def FnMendsSaid : Prop := fnMendsRow.holds Try.pinned (OpenSpec.ofChange fnMendsSpec)

/-- ITS FALSE NEIGHBOUR: 'it returns false'. Refute it at one input. -/
def fnMendsWrong : ChangeSpec := { name := "fnMends", fn := fun _ => fun
  | [d] => { results := [.lit (.bool false)], args := [d] }
  | _ => none }
def FnMendsWrongFalsely : Prop := fnMendsRow.holds Try.pinned (OpenSpec.ofChange fnMendsWrong)

/-- 'laws.FnTilts': WHATEVER THE INPUT: true; the input reads as it did. -/
def fnTiltsSpec : ChangeSpec := { name := "fnTilts", fn := fun _ => fun
  | [d] => { results := [.lit (.bool true)], args := [d] }
  | _ => none }
def fnTiltsRow : OpenClaim := { program := "ytgjchkcjlmklbaa", sum := "de9864b3a3ec7f76f2d7b6c3f134908d2d79c5cc4a0554f5cb82ddb94fac5bf5", func := "loop.example/g01159/laws.FnTilts", spec := "fnTilts", unfollowed := true, recurses := true, plainKeys := false, apart := false }
def FnTiltsSaid : Prop := fnTiltsRow.holds Try.pinned (OpenSpec.ofChange fnTiltsSpec)

/-- ITS FALSE NEIGHBOUR: 'it returns false'. Refute it at one input. -/
def fnTiltsWrong : ChangeSpec := { name := "fnTilts", fn := fun _ => fun
  | [d] => { results := [.lit (.bool false)], args := [d] }
  | _ => none }
def FnTiltsWrongFalsely : Prop := fnTiltsRow.holds Try.pinned (OpenSpec.ofChange fnTiltsWrong)

/-- 'laws.FnGroups': WHATEVER THE INPUT: true; the input reads as it did. -/
def fnGroupsSpec : ChangeSpec := { name := "fnGroups", fn := fun _ => fun
  | [d] => { results := [.lit (.bool true)], args := [d] }
  | _ => none }
def fnGroupsRow : OpenClaim := { program := "ytgjchkcjlmklbaa", sum := "de9864b3a3ec7f76f2d7b6c3f134908d2d79c5cc4a0554f5cb82ddb94fac5bf5", func := "loop.example/g01159/laws.FnGroups", spec := "fnGroups", unfollowed := true, recurses := true, plainKeys := false, apart := false }
def FnGroupsSaid : Prop := fnGroupsRow.holds Try.pinned (OpenSpec.ofChange fnGroupsSpec)

/-- ITS FALSE NEIGHBOUR: 'it returns false'. Refute it at one input. -/
def fnGroupsWrong : ChangeSpec := { name := "fnGroups", fn := fun _ => fun
  | [d] => { results := [.lit (.bool false)], args := [d] }
  | _ => none }
def FnGroupsWrongFalsely : Prop := fnGroupsRow.holds Try.pinned (OpenSpec.ofChange fnGroupsWrong)

/-- 'laws.FnSeatings': WHATEVER THE INPUT: true; the input reads as it did. -/
def fnSeatingsSpec : ChangeSpec := { name := "fnSeatings", fn := fun _ => fun
  | [d] => { results := [.lit (.bool true)], args := [d] }
  | _ => none }
def fnSeatingsRow : OpenClaim := { program := "ytgjchkcjlmklbaa", sum := "de9864b3a3ec7f76f2d7b6c3f134908d2d79c5cc4a0554f5cb82ddb94fac5bf5", func := "loop.example/g01159/laws.FnSeatings", spec := "fnSeatings", unfollowed := true, recurses := true, plainKeys := false, apart := false }
def FnSeatingsSaid : Prop := fnSeatingsRow.holds Try.pinned (OpenSpec.ofChange fnSeatingsSpec)

/-- ITS FALSE NEIGHBOUR: 'it returns false'. Refute it at one input. -/
def fnSeatingsWrong : ChangeSpec := { name := "fnSeatings", fn := fun _ => fun
  | [d] => { results := [.lit (.bool false)], args := [d] }
  | _ => none }
def FnSeatingsWrongFalsely : Prop := fnSeatingsRow.holds Try.pinned (OpenSpec.ofChange fnSeatingsWrong)

/-- 'laws.FnStages': WHATEVER THE INPUT: true; the input reads as it did. -/
def fnStagesSpec : ChangeSpec := { name := "fnStages", fn := fun _ => fun
  | [d] => { results := [.lit (.bool true)], args := [d] }
  | _ => none }
def fnStagesRow : OpenClaim := { program := "ytgjchkcjlmklbaa", sum := "de9864b3a3ec7f76f2d7b6c3f134908d2d79c5cc4a0554f5cb82ddb94fac5bf5", func := "loop.example/g01159/laws.FnStages", spec := "fnStages", unfollowed := true, recurses := true, plainKeys := false, apart := false }
def FnStagesSaid : Prop := fnStagesRow.holds Try.pinned (OpenSpec.ofChange fnStagesSpec)

/-- ITS FALSE NEIGHBOUR: 'it returns false'. Refute it at one input. -/
def fnStagesWrong : ChangeSpec := { name := "fnStages", fn := fun _ => fun
  | [d] => { results := [.lit (.bool false)], args := [d] }
  | _ => none }
def FnStagesWrongFalsely : Prop := fnStagesRow.holds Try.pinned (OpenSpec.ofChange fnStagesWrong)

/- THE SECOND FORM. 'bulk': how many values and letters a reading holds, each counted each time it is reached (what is shared counts as often as it is met; a slice's spare places count too). A statement '..UptoSaid' is the law's where the arguments, and the package variables that the reading takes, are together of bulk at most 1048576: NARROWER than '..Said'. Prove '..Said' where nothing that the law and all that it calls make is longer than what came in: it says more and counts as full. Else prove '..UptoSaid'. A law counts once. -/
mutual
def uptoBulk {H : Type} : DataW H → Nat
  | .lit (.string bytes) => bytes.length + 1
  | .lit _ => 1
  | .nil => 1
  | .ptr d => uptoBulk d + 1
  | .slice elems spare => uptoBulkAll elems + uptoBulkAll spare + 1
  | .agg parts => uptoBulkAll parts + 1
  | .iface _ d => uptoBulk d + 1
  | .map entries => uptoBulkEntries entries + 1
  | .held _ => 1
def uptoBulkAll {H : Type} : List (DataW H) → Nat
  | [] => 0
  | d :: r => uptoBulk d + uptoBulkAll r
def uptoBulkEntries {H : Type} : List (Lit × DataW H) → Nat
  | [] => 0
  | x :: r => uptoBulkEntry x + uptoBulkEntries r
def uptoBulkEntry {H : Type} : Lit × DataW H → Nat
  | (.string bytes, d) => bytes.length + uptoBulk d + 1
  | (_, d) => uptoBulk d + 1
 end
def uptoSmall : (H : Type) → List (DataW H) → Bool := fun _ ds => decide (uptoBulkAll ds ≤ 1048576)
def OpenSpec.upto (s : _root_.Go.ChangeSpec) : _root_.Go.OpenSpec := { _root_.Go.OpenSpec.ofChange s with cond := some uptoSmall }

/-- 'laws.FnExactIsSeating', WHERE WHAT IT READS IS OF BULK AT MOST 1048576: true; the input reads as it did. -/
def fnExactIsSeatingUptoRow : OpenClaim := { program := "ytgjchkcjlmklbaa", sum := "de9864b3a3ec7f76f2d7b6c3f134908d2d79c5cc4a0554f5cb82ddb94fac5bf5", func := "loop.example/g01159/laws.FnExactIsSeating", spec := "fnExactIsSeating", unfollowed := true, recurses := true, plainKeys := false, apart := false, narrowed := true }
def FnExactIsSeatingUptoSaid : Prop := fnExactIsSeatingUptoRow.holds Try.pinned (OpenSpec.upto fnExactIsSeatingSpec)

/-- 'laws.FnExactSeatRow', WHERE WHAT IT READS IS OF BULK AT MOST 1048576: true; the input reads as it did. -/
def fnExactSeatRowUptoRow : OpenClaim := { program := "ytgjchkcjlmklbaa", sum := "de9864b3a3ec7f76f2d7b6c3f134908d2d79c5cc4a0554f5cb82ddb94fac5bf5", func := "loop.example/g01159/laws.FnExactSeatRow", spec := "fnExactSeatRow", unfollowed := true, recurses := true, plainKeys := false, apart := false, narrowed := true }
def FnExactSeatRowUptoSaid : Prop := fnExactSeatRowUptoRow.holds Try.pinned (OpenSpec.upto fnExactSeatRowSpec)

/-- 'laws.FnExactFirstEven', WHERE WHAT IT READS IS OF BULK AT MOST 1048576: true; the input reads as it did. -/
def fnExactFirstEvenUptoRow : OpenClaim := { program := "ytgjchkcjlmklbaa", sum := "de9864b3a3ec7f76f2d7b6c3f134908d2d79c5cc4a0554f5cb82ddb94fac5bf5", func := "loop.example/g01159/laws.FnExactFirstEven", spec := "fnExactFirstEven", unfollowed := true, recurses := true, plainKeys := false, apart := false, narrowed := true }
def FnExactFirstEvenUptoSaid : Prop := fnExactFirstEvenUptoRow.holds Try.pinned (OpenSpec.upto fnExactFirstEvenSpec)

/-- 'laws.FnExactCountEven', WHERE WHAT IT READS IS OF BULK AT MOST 1048576: true; the input reads as it did. -/
def fnExactCountEvenUptoRow : OpenClaim := { program := "ytgjchkcjlmklbaa", sum := "de9864b3a3ec7f76f2d7b6c3f134908d2d79c5cc4a0554f5cb82ddb94fac5bf5", func := "loop.example/g01159/laws.FnExactCountEven", spec := "fnExactCountEven", unfollowed := true, recurses := true, plainKeys := false, apart := false, narrowed := true }
def FnExactCountEvenUptoSaid : Prop := fnExactCountEvenUptoRow.holds Try.pinned (OpenSpec.upto fnExactCountEvenSpec)

/-- 'laws.FnExactLeastTilt', WHERE WHAT IT READS IS OF BULK AT MOST 1048576: true; the input reads as it did. -/
def fnExactLeastTiltUptoRow : OpenClaim := { program := "ytgjchkcjlmklbaa", sum := "de9864b3a3ec7f76f2d7b6c3f134908d2d79c5cc4a0554f5cb82ddb94fac5bf5", func := "loop.example/g01159/laws.FnExactLeastTilt", spec := "fnExactLeastTilt", unfollowed := true, recurses := true, plainKeys := false, apart := false, narrowed := true }
def FnExactLeastTiltUptoSaid : Prop := fnExactLeastTiltUptoRow.holds Try.pinned (OpenSpec.upto fnExactLeastTiltSpec)

/-- 'laws.FnExactCountTilts', WHERE WHAT IT READS IS OF BULK AT MOST 1048576: true; the input reads as it did. -/
def fnExactCountTiltsUptoRow : OpenClaim := { program := "ytgjchkcjlmklbaa", sum := "de9864b3a3ec7f76f2d7b6c3f134908d2d79c5cc4a0554f5cb82ddb94fac5bf5", func := "loop.example/g01159/laws.FnExactCountTilts", spec := "fnExactCountTilts", unfollowed := true, recurses := true, plainKeys := false, apart := false, narrowed := true }
def FnExactCountTiltsUptoSaid : Prop := fnExactCountTiltsUptoRow.holds Try.pinned (OpenSpec.upto fnExactCountTiltsSpec)

/-- 'laws.FnExactTiltRow', WHERE WHAT IT READS IS OF BULK AT MOST 1048576: true; the input reads as it did. -/
def fnExactTiltRowUptoRow : OpenClaim := { program := "ytgjchkcjlmklbaa", sum := "de9864b3a3ec7f76f2d7b6c3f134908d2d79c5cc4a0554f5cb82ddb94fac5bf5", func := "loop.example/g01159/laws.FnExactTiltRow", spec := "fnExactTiltRow", unfollowed := true, recurses := true, plainKeys := false, apart := false, narrowed := true }
def FnExactTiltRowUptoSaid : Prop := fnExactTiltRowUptoRow.holds Try.pinned (OpenSpec.upto fnExactTiltRowSpec)

/-- 'laws.FnExactZeroGroups', WHERE WHAT IT READS IS OF BULK AT MOST 1048576: true; the input reads as it did. -/
def fnExactZeroGroupsUptoRow : OpenClaim := { program := "ytgjchkcjlmklbaa", sum := "de9864b3a3ec7f76f2d7b6c3f134908d2d79c5cc4a0554f5cb82ddb94fac5bf5", func := "loop.example/g01159/laws.FnExactZeroGroups", spec := "fnExactZeroGroups", unfollowed := true, recurses := true, plainKeys := false, apart := false, narrowed := true }
def FnExactZeroGroupsUptoSaid : Prop := fnExactZeroGroupsUptoRow.holds Try.pinned (OpenSpec.upto fnExactZeroGroupsSpec)

/-- 'laws.FnExactCountZero', WHERE WHAT IT READS IS OF BULK AT MOST 1048576: true; the input reads as it did. -/
def fnExactCountZeroUptoRow : OpenClaim := { program := "ytgjchkcjlmklbaa", sum := "de9864b3a3ec7f76f2d7b6c3f134908d2d79c5cc4a0554f5cb82ddb94fac5bf5", func := "loop.example/g01159/laws.FnExactCountZero", spec := "fnExactCountZero", unfollowed := true, recurses := true, plainKeys := false, apart := false, narrowed := true }
def FnExactCountZeroUptoSaid : Prop := fnExactCountZeroUptoRow.holds Try.pinned (OpenSpec.upto fnExactCountZeroSpec)

/-- 'laws.FnExactSplitAlike', WHERE WHAT IT READS IS OF BULK AT MOST 1048576: true; the input reads as it did. -/
def fnExactSplitAlikeUptoRow : OpenClaim := { program := "ytgjchkcjlmklbaa", sum := "de9864b3a3ec7f76f2d7b6c3f134908d2d79c5cc4a0554f5cb82ddb94fac5bf5", func := "loop.example/g01159/laws.FnExactSplitAlike", spec := "fnExactSplitAlike", unfollowed := true, recurses := true, plainKeys := false, apart := false, narrowed := true }
def FnExactSplitAlikeUptoSaid : Prop := fnExactSplitAlikeUptoRow.holds Try.pinned (OpenSpec.upto fnExactSplitAlikeSpec)

/-- 'laws.FnExactOneMove', WHERE WHAT IT READS IS OF BULK AT MOST 1048576: true; the input reads as it did. -/
def fnExactOneMoveUptoRow : OpenClaim := { program := "ytgjchkcjlmklbaa", sum := "de9864b3a3ec7f76f2d7b6c3f134908d2d79c5cc4a0554f5cb82ddb94fac5bf5", func := "loop.example/g01159/laws.FnExactOneMove", spec := "fnExactOneMove", plainKeys := false, apart := false, narrowed := true }
def FnExactOneMoveUptoSaid : Prop := fnExactOneMoveUptoRow.holds Try.pinned (OpenSpec.upto fnExactOneMoveSpec)

/-- 'laws.FnExactOneSwap', WHERE WHAT IT READS IS OF BULK AT MOST 1048576: true; the input reads as it did. -/
def fnExactOneSwapUptoRow : OpenClaim := { program := "ytgjchkcjlmklbaa", sum := "de9864b3a3ec7f76f2d7b6c3f134908d2d79c5cc4a0554f5cb82ddb94fac5bf5", func := "loop.example/g01159/laws.FnExactOneSwap", spec := "fnExactOneSwap", plainKeys := false, apart := false, narrowed := true }
def FnExactOneSwapUptoSaid : Prop := fnExactOneSwapUptoRow.holds Try.pinned (OpenSpec.upto fnExactOneSwapSpec)

/-- 'laws.FnExactReachGain', WHERE WHAT IT READS IS OF BULK AT MOST 1048576: true; the input reads as it did. -/
def fnExactReachGainUptoRow : OpenClaim := { program := "ytgjchkcjlmklbaa", sum := "de9864b3a3ec7f76f2d7b6c3f134908d2d79c5cc4a0554f5cb82ddb94fac5bf5", func := "loop.example/g01159/laws.FnExactReachGain", spec := "fnExactReachGain", unfollowed := true, recurses := true, plainKeys := false, apart := false, narrowed := true }
def FnExactReachGainUptoSaid : Prop := fnExactReachGainUptoRow.holds Try.pinned (OpenSpec.upto fnExactReachGainSpec)

/-- 'laws.FnExactExactGain', WHERE WHAT IT READS IS OF BULK AT MOST 1048576: true; the input reads as it did. -/
def fnExactExactGainUptoRow : OpenClaim := { program := "ytgjchkcjlmklbaa", sum := "de9864b3a3ec7f76f2d7b6c3f134908d2d79c5cc4a0554f5cb82ddb94fac5bf5", func := "loop.example/g01159/laws.FnExactExactGain", spec := "fnExactExactGain", unfollowed := true, recurses := true, plainKeys := false, apart := false, narrowed := true }
def FnExactExactGainUptoSaid : Prop := fnExactExactGainUptoRow.holds Try.pinned (OpenSpec.upto fnExactExactGainSpec)

/-- 'laws.FnExactStackBodies', WHERE WHAT IT READS IS OF BULK AT MOST 1048576: true; the input reads as it did. -/
def fnExactStackBodiesUptoRow : OpenClaim := { program := "ytgjchkcjlmklbaa", sum := "de9864b3a3ec7f76f2d7b6c3f134908d2d79c5cc4a0554f5cb82ddb94fac5bf5", func := "loop.example/g01159/laws.FnExactStackBodies", spec := "fnExactStackBodies", unfollowed := true, recurses := true, plainKeys := false, apart := false, narrowed := true }
def FnExactStackBodiesUptoSaid : Prop := fnExactStackBodiesUptoRow.holds Try.pinned (OpenSpec.upto fnExactStackBodiesSpec)

/-- 'laws.FnExactCellsToStand', WHERE WHAT IT READS IS OF BULK AT MOST 1048576: true; the input reads as it did. -/
def fnExactCellsToStandUptoRow : OpenClaim := { program := "ytgjchkcjlmklbaa", sum := "de9864b3a3ec7f76f2d7b6c3f134908d2d79c5cc4a0554f5cb82ddb94fac5bf5", func := "loop.example/g01159/laws.FnExactCellsToStand", spec := "fnExactCellsToStand", unfollowed := true, recurses := true, plainKeys := false, apart := false, narrowed := true }
def FnExactCellsToStandUptoSaid : Prop := fnExactCellsToStandUptoRow.holds Try.pinned (OpenSpec.upto fnExactCellsToStandSpec)

/-- 'laws.FnExactCountBodies', WHERE WHAT IT READS IS OF BULK AT MOST 1048576: true; the input reads as it did. -/
def fnExactCountBodiesUptoRow : OpenClaim := { program := "ytgjchkcjlmklbaa", sum := "de9864b3a3ec7f76f2d7b6c3f134908d2d79c5cc4a0554f5cb82ddb94fac5bf5", func := "loop.example/g01159/laws.FnExactCountBodies", spec := "fnExactCountBodies", unfollowed := true, recurses := true, plainKeys := false, apart := false, narrowed := true }
def FnExactCountBodiesUptoSaid : Prop := fnExactCountBodiesUptoRow.holds Try.pinned (OpenSpec.upto fnExactCountBodiesSpec)

/-- 'laws.FnMends', WHERE WHAT IT READS IS OF BULK AT MOST 1048576: true; the input reads as it did. -/
def fnMendsUptoRow : OpenClaim := { program := "ytgjchkcjlmklbaa", sum := "de9864b3a3ec7f76f2d7b6c3f134908d2d79c5cc4a0554f5cb82ddb94fac5bf5", func := "loop.example/g01159/laws.FnMends", spec := "fnMends", plainKeys := false, apart := false, narrowed := true }
def FnMendsUptoSaid : Prop := fnMendsUptoRow.holds Try.pinned (OpenSpec.upto fnMendsSpec)

/-- 'laws.FnTilts', WHERE WHAT IT READS IS OF BULK AT MOST 1048576: true; the input reads as it did. -/
def fnTiltsUptoRow : OpenClaim := { program := "ytgjchkcjlmklbaa", sum := "de9864b3a3ec7f76f2d7b6c3f134908d2d79c5cc4a0554f5cb82ddb94fac5bf5", func := "loop.example/g01159/laws.FnTilts", spec := "fnTilts", unfollowed := true, recurses := true, plainKeys := false, apart := false, narrowed := true }
def FnTiltsUptoSaid : Prop := fnTiltsUptoRow.holds Try.pinned (OpenSpec.upto fnTiltsSpec)

/-- 'laws.FnGroups', WHERE WHAT IT READS IS OF BULK AT MOST 1048576: true; the input reads as it did. -/
def fnGroupsUptoRow : OpenClaim := { program := "ytgjchkcjlmklbaa", sum := "de9864b3a3ec7f76f2d7b6c3f134908d2d79c5cc4a0554f5cb82ddb94fac5bf5", func := "loop.example/g01159/laws.FnGroups", spec := "fnGroups", unfollowed := true, recurses := true, plainKeys := false, apart := false, narrowed := true }
def FnGroupsUptoSaid : Prop := fnGroupsUptoRow.holds Try.pinned (OpenSpec.upto fnGroupsSpec)

/-- 'laws.FnSeatings', WHERE WHAT IT READS IS OF BULK AT MOST 1048576: true; the input reads as it did. -/
def fnSeatingsUptoRow : OpenClaim := { program := "ytgjchkcjlmklbaa", sum := "de9864b3a3ec7f76f2d7b6c3f134908d2d79c5cc4a0554f5cb82ddb94fac5bf5", func := "loop.example/g01159/laws.FnSeatings", spec := "fnSeatings", unfollowed := true, recurses := true, plainKeys := false, apart := false, narrowed := true }
def FnSeatingsUptoSaid : Prop := fnSeatingsUptoRow.holds Try.pinned (OpenSpec.upto fnSeatingsSpec)

/-- 'laws.FnStages', WHERE WHAT IT READS IS OF BULK AT MOST 1048576: true; the input reads as it did. -/
def fnStagesUptoRow : OpenClaim := { program := "ytgjchkcjlmklbaa", sum := "de9864b3a3ec7f76f2d7b6c3f134908d2d79c5cc4a0554f5cb82ddb94fac5bf5", func := "loop.example/g01159/laws.FnStages", spec := "fnStages", unfollowed := true, recurses := true, plainKeys := false, apart := false, narrowed := true }
def FnStagesUptoSaid : Prop := fnStagesUptoRow.holds Try.pinned (OpenSpec.upto fnStagesSpec)

end Rows
end Go.Proofs.Ytgjchkcjlmklbaa
