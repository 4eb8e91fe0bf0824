/-
  No cell of these rows narrows 'for every input' (looked for: loops, veiled, ifaces, maps, wideKeys, modest, calm, conditions, laid).
  DERIVED. THE GIVEN ROWS OF THIS SEAT. 18 by the template 'for every input the law returns true; each argument reads behind the call as it read before'; 0 by the template 'total and deterministic' (their statements: YtghpacgbkknhbaaTotals.lean).
  GIVEN WITH THE SEED: the statements are not yours to turn. If you find one false, say at which input.
  Laid BY PROGRAM, IN A SANDBOX (cutbox-rows.mjs): the forced cells as the released guide's own fill.sh prints them over the translation 9f0a02ad55c2338d… (all of the seat's roots in one cut). By AI agents, Wed Nov 11 2026. No macro, syntax, notation, axiom, sorry.
-/
import Derived.Test.YtghpacgbkknhbaaChecked
import GoSem.Claim
import GoSem.ClaimJoined
import GoSem.ClaimMapViews
import Derived.JoinedTies
import Derived.KernelRfl
namespace Go.Proofs.Ytghpacgbkknhbaa
/- THE CELL 'sum', in the pinned program and in every row, IS THE sha256 OF THE DUMP (.gsa) THAT YtghpacgbkknhbaaProg.lean LOADS. Nothing in Lean hashes anything: it is a label: what it is worth is what the hold of that sum in a sandbox is worth. -/
noncomputable def Try.pinned : Pinned := { name := "ytghpacgbkknhbaa", sum := "9f0a02ad55c2338d94d457b219464de08213677969fde9e966d7a295c916875f", checked := Try.checked }
namespace Rows
def none {H : Type} : Left H := { results := [], args := [] }

/-- 'laws.FnKits': WHATEVER THE INPUT: true; the input reads as it did. -/
def fnKitsSpec : ChangeSpec := { name := "fnKits", fn := fun _ => fun
  | [d] => { results := [.lit (.bool true)], args := [d] }
  | _ => none }
def fnKitsRow : OpenClaim := { program := "ytghpacgbkknhbaa", sum := "9f0a02ad55c2338d94d457b219464de08213677969fde9e966d7a295c916875f", func := "loop.example/g01159/laws.FnKits", spec := "fnKits", unfollowed := true, recurses := true, plainKeys := false, apart := false }
def FnKitsSaid : Prop := fnKitsRow.holds Try.pinned (OpenSpec.ofChange fnKitsSpec)

/-- ITS FALSE NEIGHBOUR: 'it returns false'. Refute it at one input. -/
def fnKitsWrong : ChangeSpec := { name := "fnKits", fn := fun _ => fun
  | [d] => { results := [.lit (.bool false)], args := [d] }
  | _ => none }
def FnKitsWrongFalsely : Prop := fnKitsRow.holds Try.pinned (OpenSpec.ofChange fnKitsWrong)

/-- 'laws.FnCoins': WHATEVER THE INPUT: true; the input reads as it did. -/
def fnCoinsSpec : ChangeSpec := { name := "fnCoins", fn := fun _ => fun
  | [d] => { results := [.lit (.bool true)], args := [d] }
  | _ => none }
def fnCoinsRow : OpenClaim := { program := "ytghpacgbkknhbaa", sum := "9f0a02ad55c2338d94d457b219464de08213677969fde9e966d7a295c916875f", func := "loop.example/g01159/laws.FnCoins", spec := "fnCoins", unfollowed := true, recurses := true, plainKeys := false, apart := false }
def FnCoinsSaid : Prop := fnCoinsRow.holds Try.pinned (OpenSpec.ofChange fnCoinsSpec)

/-- ITS FALSE NEIGHBOUR: 'it returns false'. Refute it at one input. -/
def fnCoinsWrong : ChangeSpec := { name := "fnCoins", fn := fun _ => fun
  | [d] => { results := [.lit (.bool false)], args := [d] }
  | _ => none }
def FnCoinsWrongFalsely : Prop := fnCoinsRow.holds Try.pinned (OpenSpec.ofChange fnCoinsWrong)

/-- 'laws.FnCentres': WHATEVER THE INPUT: true; the input reads as it did. -/
def fnCentresSpec : ChangeSpec := { name := "fnCentres", fn := fun _ => fun
  | [d] => { results := [.lit (.bool true)], args := [d] }
  | _ => none }
def fnCentresRow : OpenClaim := { program := "ytghpacgbkknhbaa", sum := "9f0a02ad55c2338d94d457b219464de08213677969fde9e966d7a295c916875f", func := "loop.example/g01159/laws.FnCentres", spec := "fnCentres", unfollowed := true, recurses := true, plainKeys := false, apart := false }
def FnCentresSaid : Prop := fnCentresRow.holds Try.pinned (OpenSpec.ofChange fnCentresSpec)

/-- ITS FALSE NEIGHBOUR: 'it returns false'. Refute it at one input. -/
def fnCentresWrong : ChangeSpec := { name := "fnCentres", fn := fun _ => fun
  | [d] => { results := [.lit (.bool false)], args := [d] }
  | _ => none }
def FnCentresWrongFalsely : Prop := fnCentresRow.holds Try.pinned (OpenSpec.ofChange fnCentresWrong)

/-- 'laws.FnExactIsKit': WHATEVER THE INPUT: true; the input reads as it did. -/
def fnExactIsKitSpec : ChangeSpec := { name := "fnExactIsKit", fn := fun _ => fun
  | [d] => { results := [.lit (.bool true)], args := [d] }
  | _ => none }
def fnExactIsKitRow : OpenClaim := { program := "ytghpacgbkknhbaa", sum := "9f0a02ad55c2338d94d457b219464de08213677969fde9e966d7a295c916875f", func := "loop.example/g01159/laws.FnExactIsKit", spec := "fnExactIsKit", plainKeys := false, apart := false }
def FnExactIsKitSaid : Prop := fnExactIsKitRow.holds Try.pinned (OpenSpec.ofChange fnExactIsKitSpec)

/-- ITS FALSE NEIGHBOUR: 'it returns false'. Refute it at one input. -/
def fnExactIsKitWrong : ChangeSpec := { name := "fnExactIsKit", fn := fun _ => fun
  | [d] => { results := [.lit (.bool false)], args := [d] }
  | _ => none }
def FnExactIsKitWrongFalsely : Prop := fnExactIsKitRow.holds Try.pinned (OpenSpec.ofChange fnExactIsKitWrong)

/-- 'laws.FnExactWeighOne': WHATEVER THE INPUT: true; the input reads as it did. -/
def fnExactWeighOneSpec : ChangeSpec := { name := "fnExactWeighOne", fn := fun _ => fun
  | [d] => { results := [.lit (.bool true)], args := [d] }
  | _ => none }
def fnExactWeighOneRow : OpenClaim := { program := "ytghpacgbkknhbaa", sum := "9f0a02ad55c2338d94d457b219464de08213677969fde9e966d7a295c916875f", func := "loop.example/g01159/laws.FnExactWeighOne", spec := "fnExactWeighOne", recurses := true, plainKeys := false, apart := false }
def FnExactWeighOneSaid : Prop := fnExactWeighOneRow.holds Try.pinned (OpenSpec.ofChange fnExactWeighOneSpec)

/-- ITS FALSE NEIGHBOUR: 'it returns false'. Refute it at one input. -/
def fnExactWeighOneWrong : ChangeSpec := { name := "fnExactWeighOne", fn := fun _ => fun
  | [d] => { results := [.lit (.bool false)], args := [d] }
  | _ => none }
def FnExactWeighOneWrongFalsely : Prop := fnExactWeighOneRow.holds Try.pinned (OpenSpec.ofChange fnExactWeighOneWrong)

/-- 'laws.FnExactWeighTwo': WHATEVER THE INPUT: true; the input reads as it did. -/
def fnExactWeighTwoSpec : ChangeSpec := { name := "fnExactWeighTwo", fn := fun _ => fun
  | [d] => { results := [.lit (.bool true)], args := [d] }
  | _ => none }
def fnExactWeighTwoRow : OpenClaim := { program := "ytghpacgbkknhbaa", sum := "9f0a02ad55c2338d94d457b219464de08213677969fde9e966d7a295c916875f", func := "loop.example/g01159/laws.FnExactWeighTwo", spec := "fnExactWeighTwo", recurses := true, plainKeys := false, apart := false }
def FnExactWeighTwoSaid : Prop := fnExactWeighTwoRow.holds Try.pinned (OpenSpec.ofChange fnExactWeighTwoSpec)

/-- ITS FALSE NEIGHBOUR: 'it returns false'. Refute it at one input. -/
def fnExactWeighTwoWrong : ChangeSpec := { name := "fnExactWeighTwo", fn := fun _ => fun
  | [d] => { results := [.lit (.bool false)], args := [d] }
  | _ => none }
def FnExactWeighTwoWrongFalsely : Prop := fnExactWeighTwoRow.holds Try.pinned (OpenSpec.ofChange fnExactWeighTwoWrong)

/-- 'laws.FnExactHowToWeigh': WHATEVER THE INPUT: true; the input reads as it did. -/
def fnExactHowToWeighSpec : ChangeSpec := { name := "fnExactHowToWeigh", fn := fun _ => fun
  | [d1, d2] => { results := [.lit (.bool true)], args := [d1, d2] }
  | _ => none }
def fnExactHowToWeighRow : OpenClaim := { program := "ytghpacgbkknhbaa", sum := "9f0a02ad55c2338d94d457b219464de08213677969fde9e966d7a295c916875f", func := "loop.example/g01159/laws.FnExactHowToWeigh", spec := "fnExactHowToWeigh", plainKeys := false, apart := false }
def FnExactHowToWeighSaid : Prop := fnExactHowToWeighRow.holds Try.pinned (OpenSpec.ofChange fnExactHowToWeighSpec)

/-- ITS FALSE NEIGHBOUR: 'it returns false'. Refute it at one input. -/
def fnExactHowToWeighWrong : ChangeSpec := { name := "fnExactHowToWeigh", fn := fun _ => fun
  | [d1, d2] => { results := [.lit (.bool false)], args := [d1, d2] }
  | _ => none }
def FnExactHowToWeighWrongFalsely : Prop := fnExactHowToWeighRow.holds Try.pinned (OpenSpec.ofChange fnExactHowToWeighWrong)

/-- 'laws.FnExactKitRange': WHATEVER THE INPUT: true; the input reads as it did. -/
def fnExactKitRangeSpec : ChangeSpec := { name := "fnExactKitRange", fn := fun _ => fun
  | [d1, d2] => { results := [.lit (.bool true)], args := [d1, d2] }
  | _ => none }
def fnExactKitRangeRow : OpenClaim := { program := "ytghpacgbkknhbaa", sum := "9f0a02ad55c2338d94d457b219464de08213677969fde9e966d7a295c916875f", func := "loop.example/g01159/laws.FnExactKitRange", spec := "fnExactKitRange", recurses := true, plainKeys := false, apart := false }
def FnExactKitRangeSaid : Prop := fnExactKitRangeRow.holds Try.pinned (OpenSpec.ofChange fnExactKitRangeSpec)

/-- ITS FALSE NEIGHBOUR: 'it returns false'. Refute it at one input. -/
def fnExactKitRangeWrong : ChangeSpec := { name := "fnExactKitRange", fn := fun _ => fun
  | [d1, d2] => { results := [.lit (.bool false)], args := [d1, d2] }
  | _ => none }
def FnExactKitRangeWrongFalsely : Prop := fnExactKitRangeRow.holds Try.pinned (OpenSpec.ofChange fnExactKitRangeWrong)

/-- 'laws.FnExactThreesKit': WHATEVER THE INPUT: true; the input reads as it did. -/
def fnExactThreesKitSpec : ChangeSpec := { name := "fnExactThreesKit", fn := fun _ => fun
  | [d] => { results := [.lit (.bool true)], args := [d] }
  | _ => none }
def fnExactThreesKitRow : OpenClaim := { program := "ytghpacgbkknhbaa", sum := "9f0a02ad55c2338d94d457b219464de08213677969fde9e966d7a295c916875f", func := "loop.example/g01159/laws.FnExactThreesKit", spec := "fnExactThreesKit", plainKeys := false, apart := false }
def FnExactThreesKitSaid : Prop := fnExactThreesKitRow.holds Try.pinned (OpenSpec.ofChange fnExactThreesKitSpec)

/-- ITS FALSE NEIGHBOUR: 'it returns false'. Refute it at one input. -/
def fnExactThreesKitWrong : ChangeSpec := { name := "fnExactThreesKit", fn := fun _ => fun
  | [d] => { results := [.lit (.bool false)], args := [d] }
  | _ => none }
def FnExactThreesKitWrongFalsely : Prop := fnExactThreesKitRow.holds Try.pinned (OpenSpec.ofChange fnExactThreesKitWrong)

/-- 'laws.FnExactTwosKit': WHATEVER THE INPUT: true; the input reads as it did. -/
def fnExactTwosKitSpec : ChangeSpec := { name := "fnExactTwosKit", fn := fun _ => fun
  | [d] => { results := [.lit (.bool true)], args := [d] }
  | _ => none }
def fnExactTwosKitRow : OpenClaim := { program := "ytghpacgbkknhbaa", sum := "9f0a02ad55c2338d94d457b219464de08213677969fde9e966d7a295c916875f", func := "loop.example/g01159/laws.FnExactTwosKit", spec := "fnExactTwosKit", plainKeys := false, apart := false }
def FnExactTwosKitSaid : Prop := fnExactTwosKitRow.holds Try.pinned (OpenSpec.ofChange fnExactTwosKitSpec)

/-- ITS FALSE NEIGHBOUR: 'it returns false'. Refute it at one input. -/
def fnExactTwosKitWrong : ChangeSpec := { name := "fnExactTwosKit", fn := fun _ => fun
  | [d] => { results := [.lit (.bool false)], args := [d] }
  | _ => none }
def FnExactTwosKitWrongFalsely : Prop := fnExactTwosKitRow.holds Try.pinned (OpenSpec.ofChange fnExactTwosKitWrong)

/-- 'laws.FnExactPanRow': WHATEVER THE INPUT: true; the input reads as it did. -/
def fnExactPanRowSpec : ChangeSpec := { name := "fnExactPanRow", fn := fun _ => fun
  | [d1, d2, d3] => { results := [.lit (.bool true)], args := [d1, d2, d3] }
  | _ => none }
def fnExactPanRowRow : OpenClaim := { program := "ytghpacgbkknhbaa", sum := "9f0a02ad55c2338d94d457b219464de08213677969fde9e966d7a295c916875f", func := "loop.example/g01159/laws.FnExactPanRow", spec := "fnExactPanRow", unfollowed := true, recurses := true, plainKeys := false, apart := false }
def FnExactPanRowSaid : Prop := fnExactPanRowRow.holds Try.pinned (OpenSpec.ofChange fnExactPanRowSpec)

/-- ITS FALSE NEIGHBOUR: 'it returns false'. Refute it at one input. -/
def fnExactPanRowWrong : ChangeSpec := { name := "fnExactPanRow", fn := fun _ => fun
  | [d1, d2, d3] => { results := [.lit (.bool false)], args := [d1, d2, d3] }
  | _ => none }
def FnExactPanRowWrongFalsely : Prop := fnExactPanRowRow.holds Try.pinned (OpenSpec.ofChange fnExactPanRowWrong)

/-- 'laws.FnExactIsCoinPlan': WHATEVER THE INPUT: true; the input reads as it did. -/
def fnExactIsCoinPlanSpec : ChangeSpec := { name := "fnExactIsCoinPlan", fn := fun _ => fun
  | [d1, d2] => { results := [.lit (.bool true)], args := [d1, d2] }
  | _ => none }
def fnExactIsCoinPlanRow : OpenClaim := { program := "ytghpacgbkknhbaa", sum := "9f0a02ad55c2338d94d457b219464de08213677969fde9e966d7a295c916875f", func := "loop.example/g01159/laws.FnExactIsCoinPlan", spec := "fnExactIsCoinPlan", unfollowed := true, recurses := true, plainKeys := false, apart := false }
def FnExactIsCoinPlanSaid : Prop := fnExactIsCoinPlanRow.holds Try.pinned (OpenSpec.ofChange fnExactIsCoinPlanSpec)

/-- ITS FALSE NEIGHBOUR: 'it returns false'. Refute it at one input. -/
def fnExactIsCoinPlanWrong : ChangeSpec := { name := "fnExactIsCoinPlan", fn := fun _ => fun
  | [d1, d2] => { results := [.lit (.bool false)], args := [d1, d2] }
  | _ => none }
def FnExactIsCoinPlanWrongFalsely : Prop := fnExactIsCoinPlanRow.holds Try.pinned (OpenSpec.ofChange fnExactIsCoinPlanWrong)

/-- 'laws.FnExactCoinOutcome': WHATEVER THE INPUT: true; the input reads as it did. -/
def fnExactCoinOutcomeSpec : ChangeSpec := { name := "fnExactCoinOutcome", fn := fun _ => fun
  | [d1, d2, d3, d4] => { results := [.lit (.bool true)], args := [d1, d2, d3, d4] }
  | _ => none }
def fnExactCoinOutcomeRow : OpenClaim := { program := "ytghpacgbkknhbaa", sum := "9f0a02ad55c2338d94d457b219464de08213677969fde9e966d7a295c916875f", func := "loop.example/g01159/laws.FnExactCoinOutcome", spec := "fnExactCoinOutcome", unfollowed := true, recurses := true, plainKeys := false, apart := false }
def FnExactCoinOutcomeSaid : Prop := fnExactCoinOutcomeRow.holds Try.pinned (OpenSpec.ofChange fnExactCoinOutcomeSpec)

/-- ITS FALSE NEIGHBOUR: 'it returns false'. Refute it at one input. -/
def fnExactCoinOutcomeWrong : ChangeSpec := { name := "fnExactCoinOutcome", fn := fun _ => fun
  | [d1, d2, d3, d4] => { results := [.lit (.bool false)], args := [d1, d2, d3, d4] }
  | _ => none }
def FnExactCoinOutcomeWrongFalsely : Prop := fnExactCoinOutcomeRow.holds Try.pinned (OpenSpec.ofChange fnExactCoinOutcomeWrong)

/-- 'laws.FnExactCoinsWith': WHATEVER THE INPUT: true; the input reads as it did. -/
def fnExactCoinsWithSpec : ChangeSpec := { name := "fnExactCoinsWith", fn := fun _ => fun
  | [d1, d2, d3] => { results := [.lit (.bool true)], args := [d1, d2, d3] }
  | _ => none }
def fnExactCoinsWithRow : OpenClaim := { program := "ytghpacgbkknhbaa", sum := "9f0a02ad55c2338d94d457b219464de08213677969fde9e966d7a295c916875f", func := "loop.example/g01159/laws.FnExactCoinsWith", spec := "fnExactCoinsWith", unfollowed := true, recurses := true, plainKeys := false, apart := false }
def FnExactCoinsWithSaid : Prop := fnExactCoinsWithRow.holds Try.pinned (OpenSpec.ofChange fnExactCoinsWithSpec)

/-- ITS FALSE NEIGHBOUR: 'it returns false'. Refute it at one input. -/
def fnExactCoinsWithWrong : ChangeSpec := { name := "fnExactCoinsWith", fn := fun _ => fun
  | [d1, d2, d3] => { results := [.lit (.bool false)], args := [d1, d2, d3] }
  | _ => none }
def FnExactCoinsWithWrongFalsely : Prop := fnExactCoinsWithRow.holds Try.pinned (OpenSpec.ofChange fnExactCoinsWithWrong)

/-- 'laws.FnExactTellsHeavy': WHATEVER THE INPUT: true; the input reads as it did. -/
def fnExactTellsHeavySpec : ChangeSpec := { name := "fnExactTellsHeavy", fn := fun _ => fun
  | [d1, d2] => { results := [.lit (.bool true)], args := [d1, d2] }
  | _ => none }
def fnExactTellsHeavyRow : OpenClaim := { program := "ytghpacgbkknhbaa", sum := "9f0a02ad55c2338d94d457b219464de08213677969fde9e966d7a295c916875f", func := "loop.example/g01159/laws.FnExactTellsHeavy", spec := "fnExactTellsHeavy", unfollowed := true, recurses := true, plainKeys := false, apart := false }
def FnExactTellsHeavySaid : Prop := fnExactTellsHeavyRow.holds Try.pinned (OpenSpec.ofChange fnExactTellsHeavySpec)

/-- ITS FALSE NEIGHBOUR: 'it returns false'. Refute it at one input. -/
def fnExactTellsHeavyWrong : ChangeSpec := { name := "fnExactTellsHeavy", fn := fun _ => fun
  | [d1, d2] => { results := [.lit (.bool false)], args := [d1, d2] }
  | _ => none }
def FnExactTellsHeavyWrongFalsely : Prop := fnExactTellsHeavyRow.holds Try.pinned (OpenSpec.ofChange fnExactTellsHeavyWrong)

/-- 'laws.FnExactTellsBoth': WHATEVER THE INPUT: true; the input reads as it did. -/
def fnExactTellsBothSpec : ChangeSpec := { name := "fnExactTellsBoth", fn := fun _ => fun
  | [d1, d2] => { results := [.lit (.bool true)], args := [d1, d2] }
  | _ => none }
def fnExactTellsBothRow : OpenClaim := { program := "ytghpacgbkknhbaa", sum := "9f0a02ad55c2338d94d457b219464de08213677969fde9e966d7a295c916875f", func := "loop.example/g01159/laws.FnExactTellsBoth", spec := "fnExactTellsBoth", unfollowed := true, recurses := true, plainKeys := false, apart := false }
def FnExactTellsBothSaid : Prop := fnExactTellsBothRow.holds Try.pinned (OpenSpec.ofChange fnExactTellsBothSpec)

/-- ITS FALSE NEIGHBOUR: 'it returns false'. Refute it at one input. -/
def fnExactTellsBothWrong : ChangeSpec := { name := "fnExactTellsBoth", fn := fun _ => fun
  | [d1, d2] => { results := [.lit (.bool false)], args := [d1, d2] }
  | _ => none }
def FnExactTellsBothWrongFalsely : Prop := fnExactTellsBothRow.holds Try.pinned (OpenSpec.ofChange fnExactTellsBothWrong)

/-- 'laws.FnExactHeavyPlan': WHATEVER THE INPUT: true; the input reads as it did. -/
def fnExactHeavyPlanSpec : ChangeSpec := { name := "fnExactHeavyPlan", fn := fun _ => fun
  | [d] => { results := [.lit (.bool true)], args := [d] }
  | _ => none }
def fnExactHeavyPlanRow : OpenClaim := { program := "ytghpacgbkknhbaa", sum := "9f0a02ad55c2338d94d457b219464de08213677969fde9e966d7a295c916875f", func := "loop.example/g01159/laws.FnExactHeavyPlan", spec := "fnExactHeavyPlan", plainKeys := false, apart := false }
def FnExactHeavyPlanSaid : Prop := fnExactHeavyPlanRow.holds Try.pinned (OpenSpec.ofChange fnExactHeavyPlanSpec)

/-- ITS FALSE NEIGHBOUR: 'it returns false'. Refute it at one input. -/
def fnExactHeavyPlanWrong : ChangeSpec := { name := "fnExactHeavyPlan", fn := fun _ => fun
  | [d] => { results := [.lit (.bool false)], args := [d] }
  | _ => none }
def FnExactHeavyPlanWrongFalsely : Prop := fnExactHeavyPlanRow.holds Try.pinned (OpenSpec.ofChange fnExactHeavyPlanWrong)

/-- 'laws.FnExactWeighingsNeeded': WHATEVER THE INPUT: true; the input reads as it did. -/
def fnExactWeighingsNeededSpec : ChangeSpec := { name := "fnExactWeighingsNeeded", fn := fun _ => fun
  | [d] => { results := [.lit (.bool true)], args := [d] }
  | _ => none }
def fnExactWeighingsNeededRow : OpenClaim := { program := "ytghpacgbkknhbaa", sum := "9f0a02ad55c2338d94d457b219464de08213677969fde9e966d7a295c916875f", func := "loop.example/g01159/laws.FnExactWeighingsNeeded", spec := "fnExactWeighingsNeeded", plainKeys := false, apart := false }
def FnExactWeighingsNeededSaid : Prop := fnExactWeighingsNeededRow.holds Try.pinned (OpenSpec.ofChange fnExactWeighingsNeededSpec)

/-- ITS FALSE NEIGHBOUR: 'it returns false'. Refute it at one input. -/
def fnExactWeighingsNeededWrong : ChangeSpec := { name := "fnExactWeighingsNeeded", fn := fun _ => fun
  | [d] => { results := [.lit (.bool false)], args := [d] }
  | _ => none }
def FnExactWeighingsNeededWrongFalsely : Prop := fnExactWeighingsNeededRow.holds Try.pinned (OpenSpec.ofChange fnExactWeighingsNeededWrong)

/- THE SECOND FORM. 'bulk': how many values and letters a reading holds, each counted each time it is reached (what is shared counts as often as it is met; a slice's spare places count too). A statement '..UptoSaid' is the law's where the arguments, and the package variables that the reading takes, are together of bulk at most 1048576: NARROWER than '..Said'. Prove '..Said' where nothing that the law and all that it calls make is longer than what came in: it says more and counts as full. Else prove '..UptoSaid'. A law counts once. -/
mutual
def uptoBulk {H : Type} : DataW H → Nat
  | .lit (.string bytes) => bytes.length + 1
  | .lit _ => 1
  | .nil => 1
  | .ptr d => uptoBulk d + 1
  | .slice elems spare => uptoBulkAll elems + uptoBulkAll spare + 1
  | .agg parts => uptoBulkAll parts + 1
  | .iface _ d => uptoBulk d + 1
  | .map entries => uptoBulkEntries entries + 1
  | .held _ => 1
def uptoBulkAll {H : Type} : List (DataW H) → Nat
  | [] => 0
  | d :: r => uptoBulk d + uptoBulkAll r
def uptoBulkEntries {H : Type} : List (Lit × DataW H) → Nat
  | [] => 0
  | x :: r => uptoBulkEntry x + uptoBulkEntries r
def uptoBulkEntry {H : Type} : Lit × DataW H → Nat
  | (.string bytes, d) => bytes.length + uptoBulk d + 1
  | (_, d) => uptoBulk d + 1
 end
def uptoSmall : (H : Type) → List (DataW H) → Bool := fun _ ds => decide (uptoBulkAll ds ≤ 1048576)
def OpenSpec.upto (s : _root_.Go.ChangeSpec) : _root_.Go.OpenSpec := { _root_.Go.OpenSpec.ofChange s with cond := some uptoSmall }

/-- 'laws.FnKits', WHERE WHAT IT READS IS OF BULK AT MOST 1048576: true; the input reads as it did. -/
def fnKitsUptoRow : OpenClaim := { program := "ytghpacgbkknhbaa", sum := "9f0a02ad55c2338d94d457b219464de08213677969fde9e966d7a295c916875f", func := "loop.example/g01159/laws.FnKits", spec := "fnKits", unfollowed := true, recurses := true, plainKeys := false, apart := false, narrowed := true }
def FnKitsUptoSaid : Prop := fnKitsUptoRow.holds Try.pinned (OpenSpec.upto fnKitsSpec)

/-- 'laws.FnCoins', WHERE WHAT IT READS IS OF BULK AT MOST 1048576: true; the input reads as it did. -/
def fnCoinsUptoRow : OpenClaim := { program := "ytghpacgbkknhbaa", sum := "9f0a02ad55c2338d94d457b219464de08213677969fde9e966d7a295c916875f", func := "loop.example/g01159/laws.FnCoins", spec := "fnCoins", unfollowed := true, recurses := true, plainKeys := false, apart := false, narrowed := true }
def FnCoinsUptoSaid : Prop := fnCoinsUptoRow.holds Try.pinned (OpenSpec.upto fnCoinsSpec)

/-- 'laws.FnCentres', WHERE WHAT IT READS IS OF BULK AT MOST 1048576: true; the input reads as it did. -/
def fnCentresUptoRow : OpenClaim := { program := "ytghpacgbkknhbaa", sum := "9f0a02ad55c2338d94d457b219464de08213677969fde9e966d7a295c916875f", func := "loop.example/g01159/laws.FnCentres", spec := "fnCentres", unfollowed := true, recurses := true, plainKeys := false, apart := false, narrowed := true }
def FnCentresUptoSaid : Prop := fnCentresUptoRow.holds Try.pinned (OpenSpec.upto fnCentresSpec)

/-- 'laws.FnExactIsKit', WHERE WHAT IT READS IS OF BULK AT MOST 1048576: true; the input reads as it did. -/
def fnExactIsKitUptoRow : OpenClaim := { program := "ytghpacgbkknhbaa", sum := "9f0a02ad55c2338d94d457b219464de08213677969fde9e966d7a295c916875f", func := "loop.example/g01159/laws.FnExactIsKit", spec := "fnExactIsKit", plainKeys := false, apart := false, narrowed := true }
def FnExactIsKitUptoSaid : Prop := fnExactIsKitUptoRow.holds Try.pinned (OpenSpec.upto fnExactIsKitSpec)

/-- 'laws.FnExactWeighOne', WHERE WHAT IT READS IS OF BULK AT MOST 1048576: true; the input reads as it did. -/
def fnExactWeighOneUptoRow : OpenClaim := { program := "ytghpacgbkknhbaa", sum := "9f0a02ad55c2338d94d457b219464de08213677969fde9e966d7a295c916875f", func := "loop.example/g01159/laws.FnExactWeighOne", spec := "fnExactWeighOne", recurses := true, plainKeys := false, apart := false, narrowed := true }
def FnExactWeighOneUptoSaid : Prop := fnExactWeighOneUptoRow.holds Try.pinned (OpenSpec.upto fnExactWeighOneSpec)

/-- 'laws.FnExactWeighTwo', WHERE WHAT IT READS IS OF BULK AT MOST 1048576: true; the input reads as it did. -/
def fnExactWeighTwoUptoRow : OpenClaim := { program := "ytghpacgbkknhbaa", sum := "9f0a02ad55c2338d94d457b219464de08213677969fde9e966d7a295c916875f", func := "loop.example/g01159/laws.FnExactWeighTwo", spec := "fnExactWeighTwo", recurses := true, plainKeys := false, apart := false, narrowed := true }
def FnExactWeighTwoUptoSaid : Prop := fnExactWeighTwoUptoRow.holds Try.pinned (OpenSpec.upto fnExactWeighTwoSpec)

/-- 'laws.FnExactHowToWeigh', WHERE WHAT IT READS IS OF BULK AT MOST 1048576: true; the input reads as it did. -/
def fnExactHowToWeighUptoRow : OpenClaim := { program := "ytghpacgbkknhbaa", sum := "9f0a02ad55c2338d94d457b219464de08213677969fde9e966d7a295c916875f", func := "loop.example/g01159/laws.FnExactHowToWeigh", spec := "fnExactHowToWeigh", plainKeys := false, apart := false, narrowed := true }
def FnExactHowToWeighUptoSaid : Prop := fnExactHowToWeighUptoRow.holds Try.pinned (OpenSpec.upto fnExactHowToWeighSpec)

/-- 'laws.FnExactKitRange', WHERE WHAT IT READS IS OF BULK AT MOST 1048576: true; the input reads as it did. -/
def fnExactKitRangeUptoRow : OpenClaim := { program := "ytghpacgbkknhbaa", sum := "9f0a02ad55c2338d94d457b219464de08213677969fde9e966d7a295c916875f", func := "loop.example/g01159/laws.FnExactKitRange", spec := "fnExactKitRange", recurses := true, plainKeys := false, apart := false, narrowed := true }
def FnExactKitRangeUptoSaid : Prop := fnExactKitRangeUptoRow.holds Try.pinned (OpenSpec.upto fnExactKitRangeSpec)

/-- 'laws.FnExactThreesKit', WHERE WHAT IT READS IS OF BULK AT MOST 1048576: true; the input reads as it did. -/
def fnExactThreesKitUptoRow : OpenClaim := { program := "ytghpacgbkknhbaa", sum := "9f0a02ad55c2338d94d457b219464de08213677969fde9e966d7a295c916875f", func := "loop.example/g01159/laws.FnExactThreesKit", spec := "fnExactThreesKit", plainKeys := false, apart := false, narrowed := true }
def FnExactThreesKitUptoSaid : Prop := fnExactThreesKitUptoRow.holds Try.pinned (OpenSpec.upto fnExactThreesKitSpec)

/-- 'laws.FnExactTwosKit', WHERE WHAT IT READS IS OF BULK AT MOST 1048576: true; the input reads as it did. -/
def fnExactTwosKitUptoRow : OpenClaim := { program := "ytghpacgbkknhbaa", sum := "9f0a02ad55c2338d94d457b219464de08213677969fde9e966d7a295c916875f", func := "loop.example/g01159/laws.FnExactTwosKit", spec := "fnExactTwosKit", plainKeys := false, apart := false, narrowed := true }
def FnExactTwosKitUptoSaid : Prop := fnExactTwosKitUptoRow.holds Try.pinned (OpenSpec.upto fnExactTwosKitSpec)

/-- 'laws.FnExactPanRow', WHERE WHAT IT READS IS OF BULK AT MOST 1048576: true; the input reads as it did. -/
def fnExactPanRowUptoRow : OpenClaim := { program := "ytghpacgbkknhbaa", sum := "9f0a02ad55c2338d94d457b219464de08213677969fde9e966d7a295c916875f", func := "loop.example/g01159/laws.FnExactPanRow", spec := "fnExactPanRow", unfollowed := true, recurses := true, plainKeys := false, apart := false, narrowed := true }
def FnExactPanRowUptoSaid : Prop := fnExactPanRowUptoRow.holds Try.pinned (OpenSpec.upto fnExactPanRowSpec)

/-- 'laws.FnExactIsCoinPlan', WHERE WHAT IT READS IS OF BULK AT MOST 1048576: true; the input reads as it did. -/
def fnExactIsCoinPlanUptoRow : OpenClaim := { program := "ytghpacgbkknhbaa", sum := "9f0a02ad55c2338d94d457b219464de08213677969fde9e966d7a295c916875f", func := "loop.example/g01159/laws.FnExactIsCoinPlan", spec := "fnExactIsCoinPlan", unfollowed := true, recurses := true, plainKeys := false, apart := false, narrowed := true }
def FnExactIsCoinPlanUptoSaid : Prop := fnExactIsCoinPlanUptoRow.holds Try.pinned (OpenSpec.upto fnExactIsCoinPlanSpec)

/-- 'laws.FnExactCoinOutcome', WHERE WHAT IT READS IS OF BULK AT MOST 1048576: true; the input reads as it did. -/
def fnExactCoinOutcomeUptoRow : OpenClaim := { program := "ytghpacgbkknhbaa", sum := "9f0a02ad55c2338d94d457b219464de08213677969fde9e966d7a295c916875f", func := "loop.example/g01159/laws.FnExactCoinOutcome", spec := "fnExactCoinOutcome", unfollowed := true, recurses := true, plainKeys := false, apart := false, narrowed := true }
def FnExactCoinOutcomeUptoSaid : Prop := fnExactCoinOutcomeUptoRow.holds Try.pinned (OpenSpec.upto fnExactCoinOutcomeSpec)

/-- 'laws.FnExactCoinsWith', WHERE WHAT IT READS IS OF BULK AT MOST 1048576: true; the input reads as it did. -/
def fnExactCoinsWithUptoRow : OpenClaim := { program := "ytghpacgbkknhbaa", sum := "9f0a02ad55c2338d94d457b219464de08213677969fde9e966d7a295c916875f", func := "loop.example/g01159/laws.FnExactCoinsWith", spec := "fnExactCoinsWith", unfollowed := true, recurses := true, plainKeys := false, apart := false, narrowed := true }
def FnExactCoinsWithUptoSaid : Prop := fnExactCoinsWithUptoRow.holds Try.pinned (OpenSpec.upto fnExactCoinsWithSpec)

/-- 'laws.FnExactTellsHeavy', WHERE WHAT IT READS IS OF BULK AT MOST 1048576: true; the input reads as it did. -/
def fnExactTellsHeavyUptoRow : OpenClaim := { program := "ytghpacgbkknhbaa", sum := "9f0a02ad55c2338d94d457b219464de08213677969fde9e966d7a295c916875f", func := "loop.example/g01159/laws.FnExactTellsHeavy", spec := "fnExactTellsHeavy", unfollowed := true, recurses := true, plainKeys := false, apart := false, narrowed := true }
def FnExactTellsHeavyUptoSaid : Prop := fnExactTellsHeavyUptoRow.holds Try.pinned (OpenSpec.upto fnExactTellsHeavySpec)

/-- 'laws.FnExactTellsBoth', WHERE WHAT IT READS IS OF BULK AT MOST 1048576: true; the input reads as it did. -/
def fnExactTellsBothUptoRow : OpenClaim := { program := "ytghpacgbkknhbaa", sum := "9f0a02ad55c2338d94d457b219464de08213677969fde9e966d7a295c916875f", func := "loop.example/g01159/laws.FnExactTellsBoth", spec := "fnExactTellsBoth", unfollowed := true, recurses := true, plainKeys := false, apart := false, narrowed := true }
def FnExactTellsBothUptoSaid : Prop := fnExactTellsBothUptoRow.holds Try.pinned (OpenSpec.upto fnExactTellsBothSpec)

/-- 'laws.FnExactHeavyPlan', WHERE WHAT IT READS IS OF BULK AT MOST 1048576: true; the input reads as it did. -/
def fnExactHeavyPlanUptoRow : OpenClaim := { program := "ytghpacgbkknhbaa", sum := "9f0a02ad55c2338d94d457b219464de08213677969fde9e966d7a295c916875f", func := "loop.example/g01159/laws.FnExactHeavyPlan", spec := "fnExactHeavyPlan", plainKeys := false, apart := false, narrowed := true }
def FnExactHeavyPlanUptoSaid : Prop := fnExactHeavyPlanUptoRow.holds Try.pinned (OpenSpec.upto fnExactHeavyPlanSpec)

/-- 'laws.FnExactWeighingsNeeded', WHERE WHAT IT READS IS OF BULK AT MOST 1048576: true; the input reads as it did. -/
def fnExactWeighingsNeededUptoRow : OpenClaim := { program := "ytghpacgbkknhbaa", sum := "9f0a02ad55c2338d94d457b219464de08213677969fde9e966d7a295c916875f", func := "loop.example/g01159/laws.FnExactWeighingsNeeded", spec := "fnExactWeighingsNeeded", plainKeys := false, apart := false, narrowed := true }
def FnExactWeighingsNeededUptoSaid : Prop := fnExactWeighingsNeededUptoRow.holds Try.pinned (OpenSpec.upto fnExactWeighingsNeededSpec)

end Rows
end Go.Proofs.Ytghpacgbkknhbaa
