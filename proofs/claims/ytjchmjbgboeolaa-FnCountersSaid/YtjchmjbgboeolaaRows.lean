/-
  No cell of these rows narrows 'for every input' (looked for: loops, veiled, ifaces, maps, wideKeys, modest, calm, conditions, laid).
  DERIVED. THE GIVEN ROWS OF THIS SEAT. 8 by the template 'for every input the law returns true; each argument reads behind the call as it read before'; 0 by the template 'total and deterministic' (their statements: YtjchmjbgboeolaaTotals.lean).
  GIVEN WITH THE SEED: the statements are not yours to turn. If you find one false, say at which input.
  Laid BY PROGRAM, IN A SANDBOX (cutbox-rows.mjs): the forced cells as the released guide's own fill.sh prints them over the translation 61676528f9e15044… (all of the seat's roots in one cut). By AI agents, Wed Nov 11 2026. No macro, syntax, notation, axiom, sorry.
-/
import Derived.Test.YtjchmjbgboeolaaChecked
import GoSem.Claim
import GoSem.ClaimJoined
import GoSem.ClaimMapViews
import Derived.JoinedTies
import Derived.KernelRfl
namespace Go.Proofs.Ytjchmjbgboeolaa
/- THE CELL 'sum', in the pinned program and in every row, IS THE sha256 OF THE DUMP (.gsa) THAT YtjchmjbgboeolaaProg.lean LOADS. Nothing in Lean hashes anything: it is a label: what it is worth is what the hold of that sum in a sandbox is worth. -/
noncomputable def Try.pinned : Pinned := { name := "ytjchmjbgboeolaa", sum := "61676528f9e1504491b9ce732fa4b85c34354fc676259ccd20da1952e9f03a66", checked := Try.checked }
namespace Rows
def none {H : Type} : Left H := { results := [], args := [] }

/-- 'laws.FnExactMergeRow': WHATEVER THE INPUT: true; the input reads as it did. -/
def fnExactMergeRowSpec : ChangeSpec := { name := "fnExactMergeRow", fn := fun _ => fun
  | [d] => { results := [.lit (.bool true)], args := [d] }
  | _ => none }
def fnExactMergeRowRow : OpenClaim := { program := "ytjchmjbgboeolaa", sum := "61676528f9e1504491b9ce732fa4b85c34354fc676259ccd20da1952e9f03a66", func := "loop.example/g01159/laws.FnExactMergeRow", spec := "fnExactMergeRow", unfollowed := true, recurses := true, apart := false }
def FnExactMergeRowSaid : Prop := fnExactMergeRowRow.holds Try.pinned (OpenSpec.ofChange fnExactMergeRowSpec)

/-- ITS FALSE NEIGHBOUR: 'it returns false'. Refute it at one input. -/
def fnExactMergeRowWrong : ChangeSpec := { name := "fnExactMergeRow", fn := fun _ => fun
  | [d] => { results := [.lit (.bool false)], args := [d] }
  | _ => none }
def FnExactMergeRowWrongFalsely : Prop := fnExactMergeRowRow.holds Try.pinned (OpenSpec.ofChange fnExactMergeRowWrong)

/-- 'laws.FnExactJoinRows': WHATEVER THE INPUT: true; the input reads as it did. -/
def fnExactJoinRowsSpec : ChangeSpec := { name := "fnExactJoinRows", fn := fun _ => fun
  | [d1, d2] => { results := [.lit (.bool true)], args := [d1, d2] }
  | _ => none }
def fnExactJoinRowsRow : OpenClaim := { program := "ytjchmjbgboeolaa", sum := "61676528f9e1504491b9ce732fa4b85c34354fc676259ccd20da1952e9f03a66", func := "loop.example/g01159/laws.FnExactJoinRows", spec := "fnExactJoinRows", unfollowed := true, recurses := true, apart := false }
def FnExactJoinRowsSaid : Prop := fnExactJoinRowsRow.holds Try.pinned (OpenSpec.ofChange fnExactJoinRowsSpec)

/-- ITS FALSE NEIGHBOUR: 'it returns false'. Refute it at one input. -/
def fnExactJoinRowsWrong : ChangeSpec := { name := "fnExactJoinRows", fn := fun _ => fun
  | [d1, d2] => { results := [.lit (.bool false)], args := [d1, d2] }
  | _ => none }
def FnExactJoinRowsWrongFalsely : Prop := fnExactJoinRowsRow.holds Try.pinned (OpenSpec.ofChange fnExactJoinRowsWrong)

/-- 'laws.FnExactShiftRow': WHATEVER THE INPUT: true; the input reads as it did. -/
def fnExactShiftRowSpec : ChangeSpec := { name := "fnExactShiftRow", fn := fun _ => fun
  | [d1, d2] => { results := [.lit (.bool true)], args := [d1, d2] }
  | _ => none }
def fnExactShiftRowRow : OpenClaim := { program := "ytjchmjbgboeolaa", sum := "61676528f9e1504491b9ce732fa4b85c34354fc676259ccd20da1952e9f03a66", func := "loop.example/g01159/laws.FnExactShiftRow", spec := "fnExactShiftRow", unfollowed := true, recurses := true, apart := false }
def FnExactShiftRowSaid : Prop := fnExactShiftRowRow.holds Try.pinned (OpenSpec.ofChange fnExactShiftRowSpec)

/-- ITS FALSE NEIGHBOUR: 'it returns false'. Refute it at one input. -/
def fnExactShiftRowWrong : ChangeSpec := { name := "fnExactShiftRow", fn := fun _ => fun
  | [d1, d2] => { results := [.lit (.bool false)], args := [d1, d2] }
  | _ => none }
def FnExactShiftRowWrongFalsely : Prop := fnExactShiftRowRow.holds Try.pinned (OpenSpec.ofChange fnExactShiftRowWrong)

/-- 'laws.FnExactMirrorRow': WHATEVER THE INPUT: true; the input reads as it did. -/
def fnExactMirrorRowSpec : ChangeSpec := { name := "fnExactMirrorRow", fn := fun _ => fun
  | [d] => { results := [.lit (.bool true)], args := [d] }
  | _ => none }
def fnExactMirrorRowRow : OpenClaim := { program := "ytjchmjbgboeolaa", sum := "61676528f9e1504491b9ce732fa4b85c34354fc676259ccd20da1952e9f03a66", func := "loop.example/g01159/laws.FnExactMirrorRow", spec := "fnExactMirrorRow", unfollowed := true, recurses := true, apart := false }
def FnExactMirrorRowSaid : Prop := fnExactMirrorRowRow.holds Try.pinned (OpenSpec.ofChange fnExactMirrorRowSpec)

/-- ITS FALSE NEIGHBOUR: 'it returns false'. Refute it at one input. -/
def fnExactMirrorRowWrong : ChangeSpec := { name := "fnExactMirrorRow", fn := fun _ => fun
  | [d] => { results := [.lit (.bool false)], args := [d] }
  | _ => none }
def FnExactMirrorRowWrongFalsely : Prop := fnExactMirrorRowRow.holds Try.pinned (OpenSpec.ofChange fnExactMirrorRowWrong)

/-- 'laws.FnExactStandPlaces': WHATEVER THE INPUT: true; the input reads as it did. -/
def fnExactStandPlacesSpec : ChangeSpec := { name := "fnExactStandPlaces", fn := fun _ => fun
  | [d1, d2, d3, d4] => { results := [.lit (.bool true)], args := [d1, d2, d3, d4] }
  | _ => none }
def fnExactStandPlacesRow : OpenClaim := { program := "ytjchmjbgboeolaa", sum := "61676528f9e1504491b9ce732fa4b85c34354fc676259ccd20da1952e9f03a66", func := "loop.example/g01159/laws.FnExactStandPlaces", spec := "fnExactStandPlaces", unfollowed := true, recurses := true, apart := false }
def FnExactStandPlacesSaid : Prop := fnExactStandPlacesRow.holds Try.pinned (OpenSpec.ofChange fnExactStandPlacesSpec)

/-- ITS FALSE NEIGHBOUR: 'it returns false'. Refute it at one input. -/
def fnExactStandPlacesWrong : ChangeSpec := { name := "fnExactStandPlaces", fn := fun _ => fun
  | [d1, d2, d3, d4] => { results := [.lit (.bool false)], args := [d1, d2, d3, d4] }
  | _ => none }
def FnExactStandPlacesWrongFalsely : Prop := fnExactStandPlacesRow.holds Try.pinned (OpenSpec.ofChange fnExactStandPlacesWrong)

/-- 'laws.FnExactLeastCounter': WHATEVER THE INPUT: true; the input reads as it did. -/
def fnExactLeastCounterSpec : ChangeSpec := { name := "fnExactLeastCounter", fn := fun _ => fun
  | [d1, d2, d3, d4] => { results := [.lit (.bool true)], args := [d1, d2, d3, d4] }
  | _ => none }
def fnExactLeastCounterRow : OpenClaim := { program := "ytjchmjbgboeolaa", sum := "61676528f9e1504491b9ce732fa4b85c34354fc676259ccd20da1952e9f03a66", func := "loop.example/g01159/laws.FnExactLeastCounter", spec := "fnExactLeastCounter", unfollowed := true, recurses := true, apart := false }
def FnExactLeastCounterSaid : Prop := fnExactLeastCounterRow.holds Try.pinned (OpenSpec.ofChange fnExactLeastCounterSpec)

/-- ITS FALSE NEIGHBOUR: 'it returns false'. Refute it at one input. -/
def fnExactLeastCounterWrong : ChangeSpec := { name := "fnExactLeastCounter", fn := fun _ => fun
  | [d1, d2, d3, d4] => { results := [.lit (.bool false)], args := [d1, d2, d3, d4] }
  | _ => none }
def FnExactLeastCounterWrongFalsely : Prop := fnExactLeastCounterRow.holds Try.pinned (OpenSpec.ofChange fnExactLeastCounterWrong)

/-- 'laws.FnExactMostExtra': WHATEVER THE INPUT: true; the input reads as it did. -/
def fnExactMostExtraSpec : ChangeSpec := { name := "fnExactMostExtra", fn := fun _ => fun
  | [d1, d2, d3, d4] => { results := [.lit (.bool true)], args := [d1, d2, d3, d4] }
  | _ => none }
def fnExactMostExtraRow : OpenClaim := { program := "ytjchmjbgboeolaa", sum := "61676528f9e1504491b9ce732fa4b85c34354fc676259ccd20da1952e9f03a66", func := "loop.example/g01159/laws.FnExactMostExtra", spec := "fnExactMostExtra", unfollowed := true, recurses := true, apart := false }
def FnExactMostExtraSaid : Prop := fnExactMostExtraRow.holds Try.pinned (OpenSpec.ofChange fnExactMostExtraSpec)

/-- ITS FALSE NEIGHBOUR: 'it returns false'. Refute it at one input. -/
def fnExactMostExtraWrong : ChangeSpec := { name := "fnExactMostExtra", fn := fun _ => fun
  | [d1, d2, d3, d4] => { results := [.lit (.bool false)], args := [d1, d2, d3, d4] }
  | _ => none }
def FnExactMostExtraWrongFalsely : Prop := fnExactMostExtraRow.holds Try.pinned (OpenSpec.ofChange fnExactMostExtraWrong)

/-- 'laws.FnCounters': WHATEVER THE INPUT: true; the input reads as it did. -/
def fnCountersSpec : ChangeSpec := { name := "fnCounters", fn := fun _ => fun
  | [d] => { results := [.lit (.bool true)], args := [d] }
  | _ => none }
def fnCountersRow : OpenClaim := { program := "ytjchmjbgboeolaa", sum := "61676528f9e1504491b9ce732fa4b85c34354fc676259ccd20da1952e9f03a66", func := "loop.example/g01159/laws.FnCounters", spec := "fnCounters", unfollowed := true, recurses := true, apart := false }
def FnCountersSaid : Prop := fnCountersRow.holds Try.pinned (OpenSpec.ofChange fnCountersSpec)

/-- ITS FALSE NEIGHBOUR: 'it returns false'. Refute it at one input. -/
def fnCountersWrong : ChangeSpec := { name := "fnCounters", fn := fun _ => fun
  | [d] => { results := [.lit (.bool false)], args := [d] }
  | _ => none }
def FnCountersWrongFalsely : Prop := fnCountersRow.holds Try.pinned (OpenSpec.ofChange fnCountersWrong)

/- THE SECOND FORM. 'bulk': how many values and letters a reading holds, each counted each time it is reached (what is shared counts as often as it is met; a slice's spare places count too). A statement '..UptoSaid' is the law's where the arguments, and the package variables that the reading takes, are together of bulk at most 1048576: NARROWER than '..Said'. Prove '..Said' where nothing that the law and all that it calls make is longer than what came in: it says more and counts as full. Else prove '..UptoSaid'. A law counts once. -/
mutual
def uptoBulk {H : Type} : DataW H → Nat
  | .lit (.string bytes) => bytes.length + 1
  | .lit _ => 1
  | .nil => 1
  | .ptr d => uptoBulk d + 1
  | .slice elems spare => uptoBulkAll elems + uptoBulkAll spare + 1
  | .agg parts => uptoBulkAll parts + 1
  | .iface _ d => uptoBulk d + 1
  | .map entries => uptoBulkEntries entries + 1
  | .held _ => 1
def uptoBulkAll {H : Type} : List (DataW H) → Nat
  | [] => 0
  | d :: r => uptoBulk d + uptoBulkAll r
def uptoBulkEntries {H : Type} : List (Lit × DataW H) → Nat
  | [] => 0
  | x :: r => uptoBulkEntry x + uptoBulkEntries r
def uptoBulkEntry {H : Type} : Lit × DataW H → Nat
  | (.string bytes, d) => bytes.length + uptoBulk d + 1
  | (_, d) => uptoBulk d + 1
 end
def uptoSmall : (H : Type) → List (DataW H) → Bool := fun _ ds => decide (uptoBulkAll ds ≤ 1048576)
def OpenSpec.upto (s : _root_.Go.ChangeSpec) : _root_.Go.OpenSpec := { _root_.Go.OpenSpec.ofChange s with cond := some uptoSmall }

/-- 'laws.FnExactMergeRow', WHERE WHAT IT READS IS OF BULK AT MOST 1048576: true; the input reads as it did. -/
def fnExactMergeRowUptoRow : OpenClaim := { program := "ytjchmjbgboeolaa", sum := "61676528f9e1504491b9ce732fa4b85c34354fc676259ccd20da1952e9f03a66", func := "loop.example/g01159/laws.FnExactMergeRow", spec := "fnExactMergeRow", unfollowed := true, recurses := true, apart := false, narrowed := true }
def FnExactMergeRowUptoSaid : Prop := fnExactMergeRowUptoRow.holds Try.pinned (OpenSpec.upto fnExactMergeRowSpec)

/-- 'laws.FnExactJoinRows', WHERE WHAT IT READS IS OF BULK AT MOST 1048576: true; the input reads as it did. -/
def fnExactJoinRowsUptoRow : OpenClaim := { program := "ytjchmjbgboeolaa", sum := "61676528f9e1504491b9ce732fa4b85c34354fc676259ccd20da1952e9f03a66", func := "loop.example/g01159/laws.FnExactJoinRows", spec := "fnExactJoinRows", unfollowed := true, recurses := true, apart := false, narrowed := true }
def FnExactJoinRowsUptoSaid : Prop := fnExactJoinRowsUptoRow.holds Try.pinned (OpenSpec.upto fnExactJoinRowsSpec)

/-- 'laws.FnExactShiftRow', WHERE WHAT IT READS IS OF BULK AT MOST 1048576: true; the input reads as it did. -/
def fnExactShiftRowUptoRow : OpenClaim := { program := "ytjchmjbgboeolaa", sum := "61676528f9e1504491b9ce732fa4b85c34354fc676259ccd20da1952e9f03a66", func := "loop.example/g01159/laws.FnExactShiftRow", spec := "fnExactShiftRow", unfollowed := true, recurses := true, apart := false, narrowed := true }
def FnExactShiftRowUptoSaid : Prop := fnExactShiftRowUptoRow.holds Try.pinned (OpenSpec.upto fnExactShiftRowSpec)

/-- 'laws.FnExactMirrorRow', WHERE WHAT IT READS IS OF BULK AT MOST 1048576: true; the input reads as it did. -/
def fnExactMirrorRowUptoRow : OpenClaim := { program := "ytjchmjbgboeolaa", sum := "61676528f9e1504491b9ce732fa4b85c34354fc676259ccd20da1952e9f03a66", func := "loop.example/g01159/laws.FnExactMirrorRow", spec := "fnExactMirrorRow", unfollowed := true, recurses := true, apart := false, narrowed := true }
def FnExactMirrorRowUptoSaid : Prop := fnExactMirrorRowUptoRow.holds Try.pinned (OpenSpec.upto fnExactMirrorRowSpec)

/-- 'laws.FnExactStandPlaces', WHERE WHAT IT READS IS OF BULK AT MOST 1048576: true; the input reads as it did. -/
def fnExactStandPlacesUptoRow : OpenClaim := { program := "ytjchmjbgboeolaa", sum := "61676528f9e1504491b9ce732fa4b85c34354fc676259ccd20da1952e9f03a66", func := "loop.example/g01159/laws.FnExactStandPlaces", spec := "fnExactStandPlaces", unfollowed := true, recurses := true, apart := false, narrowed := true }
def FnExactStandPlacesUptoSaid : Prop := fnExactStandPlacesUptoRow.holds Try.pinned (OpenSpec.upto fnExactStandPlacesSpec)

/-- 'laws.FnExactLeastCounter', WHERE WHAT IT READS IS OF BULK AT MOST 1048576: true; the input reads as it did. -/
def fnExactLeastCounterUptoRow : OpenClaim := { program := "ytjchmjbgboeolaa", sum := "61676528f9e1504491b9ce732fa4b85c34354fc676259ccd20da1952e9f03a66", func := "loop.example/g01159/laws.FnExactLeastCounter", spec := "fnExactLeastCounter", unfollowed := true, recurses := true, apart := false, narrowed := true }
def FnExactLeastCounterUptoSaid : Prop := fnExactLeastCounterUptoRow.holds Try.pinned (OpenSpec.upto fnExactLeastCounterSpec)

/-- 'laws.FnExactMostExtra', WHERE WHAT IT READS IS OF BULK AT MOST 1048576: true; the input reads as it did. -/
def fnExactMostExtraUptoRow : OpenClaim := { program := "ytjchmjbgboeolaa", sum := "61676528f9e1504491b9ce732fa4b85c34354fc676259ccd20da1952e9f03a66", func := "loop.example/g01159/laws.FnExactMostExtra", spec := "fnExactMostExtra", unfollowed := true, recurses := true, apart := false, narrowed := true }
def FnExactMostExtraUptoSaid : Prop := fnExactMostExtraUptoRow.holds Try.pinned (OpenSpec.upto fnExactMostExtraSpec)

/-- 'laws.FnCounters', WHERE WHAT IT READS IS OF BULK AT MOST 1048576: true; the input reads as it did. -/
def fnCountersUptoRow : OpenClaim := { program := "ytjchmjbgboeolaa", sum := "61676528f9e1504491b9ce732fa4b85c34354fc676259ccd20da1952e9f03a66", func := "loop.example/g01159/laws.FnCounters", spec := "fnCounters", unfollowed := true, recurses := true, apart := false, narrowed := true }
def FnCountersUptoSaid : Prop := fnCountersUptoRow.holds Try.pinned (OpenSpec.upto fnCountersSpec)

end Rows
end Go.Proofs.Ytjchmjbgboeolaa
