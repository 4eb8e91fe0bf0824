/- Closed facts on the program that each row of this seat asks. -/
import Derived.Test.YtcfbnadefdcjaaaRows
import Derived.JoinedOf
import Derived.WalkKit
import Derived.ProofKit
import Derived.ChangeOld
import Derived.Below
namespace Go.Proofs.Ytcfbnadefdcjaaa
open Go.ChangeShapes Go.WideShapes Go.ChangeAt Go.RowKit
theorem own : ownKnob Try.prog.godebug = none := by kernel_rfl
theorem laidOut : laidOutB Try.prog = true := by kernel_rfl
/-- The signs of the program's own head, as numbers. -/
def headCodes : List Nat := [
  104, 97, 114, 110, 101, 115, 115, 32, 57, 53, 54, 101, 100, 101, 53, 52, 101, 56, 52, 99, 101, 52, 53, 102, 57, 97, 53, 53, 54, 49, 51, 98, 49, 56, 98, 52, 56, 101, 51, 50, 51, 97, 
  99, 99, 56, 97, 102, 50, 101, 52, 101, 48, 55, 49, 51, 50, 97, 50, 101, 50, 54, 52, 102, 100, 100, 56, 100, 49, 52, 102, 98, 52, 32, 99, 117, 116, 32, 97, 116, 32, 108, 111, 111, 
  112, 46, 101, 120, 97, 109, 112, 108, 101, 47, 103, 48, 49, 49, 53, 57, 47, 108, 97, 119, 115, 46, 70, 110, 69, 120, 97, 99, 116, 73, 115, 82, 97, 102, 116, 32, 108, 111, 111, 112, 
  46, 101, 120, 97, 109, 112, 108, 101, 47, 103, 48, 49, 49, 53, 57, 47, 108, 97, 119, 115, 46, 70, 110, 69, 120, 97, 99, 116, 82, 97, 102, 116, 83, 105, 100, 101, 32, 108, 111, 111, 
  112, 46, 101, 120, 97, 109, 112, 108, 101, 47, 103, 48, 49, 49, 53, 57, 47, 108, 97, 119, 115, 46, 70, 110, 69, 120, 97, 99, 116, 82, 97, 102, 116, 82, 101, 115, 101, 114, 118, 101, 
  32, 108, 111, 111, 112, 46, 101, 120, 97, 109, 112, 108, 101, 47, 103, 48, 49, 49, 53, 57, 47, 108, 97, 119, 115, 46, 70, 110, 69, 120, 97, 99, 116, 83, 97, 102, 101, 83, 101, 116, 
  115, 32, 108, 111, 111, 112, 46, 101, 120, 97, 109, 112, 108, 101, 47, 103, 48, 49, 49, 53, 57, 47, 108, 97, 119, 115, 46, 70, 110, 69, 120, 97, 99, 116, 73, 115, 83, 97, 102, 101, 
  79, 114, 100, 101, 114, 32, 108, 111, 111, 112, 46, 101, 120, 97, 109, 112, 108, 101, 47, 103, 48, 49, 49, 53, 57, 47, 108, 97, 119, 115, 46, 70, 110, 69, 120, 97, 99, 116, 70, 105, 
  114, 115, 116, 84, 105, 112, 32, 108, 111, 111, 112, 46, 101, 120, 97, 109, 112, 108, 101, 47, 103, 48, 49, 49, 53, 57, 47, 108, 97, 119, 115, 46, 70, 110, 69, 120, 97, 99, 116, 67, 
  111, 117, 110, 116, 83, 97, 102, 101, 32, 108, 111, 111, 112, 46, 101, 120, 97, 109, 112, 108, 101, 47, 103, 48, 49, 49, 53, 57, 47, 108, 97, 119, 115, 46, 70, 110, 69, 120, 97, 99, 
  116, 83, 97, 102, 101, 79, 114, 100, 101, 114, 32, 108, 111, 111, 112, 46, 101, 120, 97, 109, 112, 108, 101, 47, 103, 48, 49, 49, 53, 57, 47, 108, 97, 119, 115, 46, 70, 110, 69, 
  120, 97, 99, 116, 83, 97, 102, 101, 83, 116, 101, 112, 32, 108, 111, 111, 112, 46, 101, 120, 97, 109, 112, 108, 101, 47, 103, 48, 49, 49, 53, 57, 47, 108, 97, 119, 115, 46, 70, 110, 
  69, 120, 97, 99, 116, 85, 110, 108, 111, 97, 100, 79, 114, 100, 101, 114, 32, 108, 111, 111, 112, 46, 101, 120, 97, 109, 112, 108, 101, 47, 103, 48, 49, 49, 53, 57, 47, 108, 97, 
  119, 115, 46, 70, 110, 69, 120, 97, 99, 116, 76, 101, 97, 115, 116, 79, 119, 110, 32, 108, 111, 111, 112, 46, 101, 120, 97, 109, 112, 108, 101, 47, 103, 48, 49, 49, 53, 57, 47, 108, 
  97, 119, 115, 46, 70, 110, 69, 120, 97, 99, 116, 80, 97, 105, 114, 83, 116, 101, 112, 115, 32, 108, 111, 111, 112, 46, 101, 120, 97, 109, 112, 108, 101, 47, 103, 48, 49, 49, 53, 57, 
  47, 108, 97, 119, 115, 46, 70, 110, 69, 120, 97, 99, 116, 72, 97, 114, 100, 101, 115, 116, 73, 116, 101, 109, 32, 108, 111, 111, 112, 46, 101, 120, 97, 109, 112, 108, 101, 47, 103, 
  48, 49, 49, 53, 57, 47, 108, 97, 119, 115, 46, 70, 110, 83, 116, 97, 103, 101, 115, 32, 108, 111, 111, 112, 46, 101, 120, 97, 109, 112, 108, 101, 47, 103, 48, 49, 49, 53, 57, 47, 
  108, 97, 119, 115, 46, 70, 110, 82, 97, 102, 116, 115, 32, 108, 111, 111, 112, 46, 101, 120, 97, 109, 112, 108, 101, 47, 103, 48, 49, 49, 53, 57, 47, 108, 97, 119, 115, 46, 70, 110, 
  69, 120, 97, 99, 116, 83, 116, 97, 99, 107, 66, 111, 100, 105, 101, 115, 32, 108, 111, 111, 112, 46, 101, 120, 97, 109, 112, 108, 101, 47, 103, 48, 49, 49, 53, 57, 47, 108, 97, 119, 
  115, 46, 70, 110, 69, 120, 97, 99, 116, 70, 105, 114, 115, 116, 69, 118, 101, 110, 32, 108, 111, 111, 112, 46, 101, 120, 97, 109, 112, 108, 101, 47, 103, 48, 49, 49, 53, 57, 47, 
  108, 97, 119, 115, 46, 70, 110, 69, 120, 97, 99, 116, 67, 111, 117, 110, 116, 69, 118, 101, 110]
theorem headWord : Try.checked.prog.initOrder = String.ofList (headCodes.map Char.ofNat) := by kernel_rfl
theorem headSigns : Try.checked.prog.initOrder.toList = headCodes.map Char.ofNat := by rw [headWord, String.toList_ofList]
def restCodes : List (List Nat) := [[99, 117, 116],
  [97, 116],
  [108, 111, 111, 112, 46, 101, 120, 97, 109, 112, 108, 101, 47, 103, 48, 49, 49, 53, 57, 47, 108, 97, 119, 115, 46, 70, 110, 69, 120, 97, 99, 116, 73, 115, 82, 97, 102, 116],
  [108, 111, 111, 112, 46, 101, 120, 97, 109, 112, 108, 101, 47, 103, 48, 49, 49, 53, 57, 47, 108, 97, 119, 115, 46, 70, 110, 69, 120, 97, 99, 116, 82, 97, 102, 116, 83, 105, 100, 101],
  [108, 111, 111, 112, 46, 101, 120, 97, 109, 112, 108, 101, 47, 103, 48, 49, 49, 53, 57, 47, 108, 97, 119, 115, 46, 70, 110, 69, 120, 97, 99, 116, 82, 97, 102, 116, 82, 101, 115, 101, 114, 118, 101],
  [108, 111, 111, 112, 46, 101, 120, 97, 109, 112, 108, 101, 47, 103, 48, 49, 49, 53, 57, 47, 108, 97, 119, 115, 46, 70, 110, 69, 120, 97, 99, 116, 83, 97, 102, 101, 83, 101, 116, 115],
  [108, 111, 111, 112, 46, 101, 120, 97, 109, 112, 108, 101, 47, 103, 48, 49, 49, 53, 57, 47, 108, 97, 119, 115, 46, 70, 110, 69, 120, 97, 99, 116, 73, 115, 83, 97, 102, 101, 79, 114, 100, 101, 114],
  [108, 111, 111, 112, 46, 101, 120, 97, 109, 112, 108, 101, 47, 103, 48, 49, 49, 53, 57, 47, 108, 97, 119, 115, 46, 70, 110, 69, 120, 97, 99, 116, 70, 105, 114, 115, 116, 84, 105, 112],
  [108, 111, 111, 112, 46, 101, 120, 97, 109, 112, 108, 101, 47, 103, 48, 49, 49, 53, 57, 47, 108, 97, 119, 115, 46, 70, 110, 69, 120, 97, 99, 116, 67, 111, 117, 110, 116, 83, 97, 102, 101],
  [108, 111, 111, 112, 46, 101, 120, 97, 109, 112, 108, 101, 47, 103, 48, 49, 49, 53, 57, 47, 108, 97, 119, 115, 46, 70, 110, 69, 120, 97, 99, 116, 83, 97, 102, 101, 79, 114, 100, 101, 114],
  [108, 111, 111, 112, 46, 101, 120, 97, 109, 112, 108, 101, 47, 103, 48, 49, 49, 53, 57, 47, 108, 97, 119, 115, 46, 70, 110, 69, 120, 97, 99, 116, 83, 97, 102, 101, 83, 116, 101, 112],
  [108, 111, 111, 112, 46, 101, 120, 97, 109, 112, 108, 101, 47, 103, 48, 49, 49, 53, 57, 47, 108, 97, 119, 115, 46, 70, 110, 69, 120, 97, 99, 116, 85, 110, 108, 111, 97, 100, 79, 114, 100, 101, 114],
  [108, 111, 111, 112, 46, 101, 120, 97, 109, 112, 108, 101, 47, 103, 48, 49, 49, 53, 57, 47, 108, 97, 119, 115, 46, 70, 110, 69, 120, 97, 99, 116, 76, 101, 97, 115, 116, 79, 119, 110],
  [108, 111, 111, 112, 46, 101, 120, 97, 109, 112, 108, 101, 47, 103, 48, 49, 49, 53, 57, 47, 108, 97, 119, 115, 46, 70, 110, 69, 120, 97, 99, 116, 80, 97, 105, 114, 83, 116, 101, 112, 115],
  [108, 111, 111, 112, 46, 101, 120, 97, 109, 112, 108, 101, 47, 103, 48, 49, 49, 53, 57, 47, 108, 97, 119, 115, 46, 70, 110, 69, 120, 97, 99, 116, 72, 97, 114, 100, 101, 115, 116, 73, 116, 101, 109],
  [108, 111, 111, 112, 46, 101, 120, 97, 109, 112, 108, 101, 47, 103, 48, 49, 49, 53, 57, 47, 108, 97, 119, 115, 46, 70, 110, 83, 116, 97, 103, 101, 115],
  [108, 111, 111, 112, 46, 101, 120, 97, 109, 112, 108, 101, 47, 103, 48, 49, 49, 53, 57, 47, 108, 97, 119, 115, 46, 70, 110, 82, 97, 102, 116, 115],
  [108, 111, 111, 112, 46, 101, 120, 97, 109, 112, 108, 101, 47, 103, 48, 49, 49, 53, 57, 47, 108, 97, 119, 115, 46, 70, 110, 69, 120, 97, 99, 116, 83, 116, 97, 99, 107, 66, 111, 100, 105, 101, 115],
  [108, 111, 111, 112, 46, 101, 120, 97, 109, 112, 108, 101, 47, 103, 48, 49, 49, 53, 57, 47, 108, 97, 119, 115, 46, 70, 110, 69, 120, 97, 99, 116, 70, 105, 114, 115, 116, 69, 118, 101, 110],
  [108, 111, 111, 112, 46, 101, 120, 97, 109, 112, 108, 101, 47, 103, 48, 49, 49, 53, 57, 47, 108, 97, 119, 115, 46, 70, 110, 69, 120, 97, 99, 116, 67, 111, 117, 110, 116, 69, 118, 101, 110]]
theorem headWords : behindMainWord (wordsSigns (headCodes.map Char.ofNat)) = restCodes.map (fun l => l.map Char.ofNat) := by kernel_rfl
theorem behind : behindMainWord (wordsSigns Try.checked.prog.initOrder.toList) = restCodes.map (fun l => l.map Char.ofNat) := by rw [headSigns, headWords]
def MayOf (P : Program) (l : List (List Char)) : Bool := match l with
  | c :: rest =>
    ((c == "gc".toList || c == "spec".toList) && (rest.isEmpty || rest.head? == some "stop".toList)) ||
    (c == "carried".toList && rest.take 2 == ["gc".toList, "cut".toList] && !P.laysLater && !P.bearsReflect) ||
    ((stripLifts liftWords (c :: rest)).2.head? == some "cut".toList &&
      ((stripLifts liftWords (c :: rest)).1.contains "finals" || !P.laysLater) && ((stripLifts liftWords (c :: rest)).1.contains "reflectrows" || !P.bearsReflect) &&
      ((stripLifts liftWords (c :: rest)).1.contains "reflectrows" || !(stripLifts liftWords (c :: rest)).1.contains "leanrows") &&
      P.doorFits (stripLifts liftWords (c :: rest)).1)
  | [] => false
theorem may_of {P : Program} {l : List (List Char)} (h : behindMainWord (wordsSigns P.initOrder.toList) = l) (k : MayOf P l = true) : P.mayEnter = true := by
  subst h; exact k
def LiftsOf (l : List (List Char)) : List String := let r := stripLifts liftWords l
  if r.2.head? == some "cut".toList then r.1 else []
def MakeOf (l : List (List Char)) : Option Make := match l with
  | c :: rest => if c == "gc".toList || c == "spec".toList then some .whole else if c == "cut".toList || (c == "finals".toList && rest.head? == some "cut".toList) then some .cut else if c == "carried".toList then some .carried else
      if (LiftsOf (c :: rest)).isEmpty then none else some (.lifted (LiftsOf (c :: rest)))
  | [] => none
theorem make_of {P : Program} {l : List (List Char)} (h : behindMainWord (wordsSigns P.initOrder.toList) = l) {m : Option Make} (k : MakeOf l = m) : P.make = m := by
  subst h; rw [← k]; unfold Program.make MakeOf Program.headLifts LiftsOf
  generalize behindMainWord (wordsSigns P.initOrder.toList) = l
  cases l <;> rfl
def FinalOf (l : List (List Char)) : Bool := (l.head? == some "carried".toList && l.take 3 != ["carried".toList, "gc".toList, "cut".toList]) || (LiftsOf l).contains "finals"
theorem final_of {P : Program} {l : List (List Char)} (h : behindMainWord (wordsSigns P.initOrder.toList) = l) {m : Bool} (k : FinalOf l = m) : P.liftsFinal = m := by
  subst h; exact k
theorem enters : Try.checked.prog.mayEnter = true := may_of behind (by kernel_rfl)
theorem making : Try.checked.prog.make = some .cut := make_of behind (by kernel_rfl)
theorem finals : Try.checked.prog.liftsFinal = false := final_of behind (by kernel_rfl)
theorem stopsNone : (Try.checked.prog.stops == []) = true := by kernel_rfl
theorem knobsNone : (Try.checked.prog.stopKnobs == []) = true := by kernel_rfl
theorem rowed : mapsRowed Try.checked.prog = true := by kernel_rfl
theorem heard : Try.checked.prog.stopsHeard = true := by kernel_rfl
/-- The facts on one function that a row asks, in seven parts. -/
def Facts1 (P : Program) (fn : Func) (s : ChangeSpec) (c : OpenClaim) : Bool := c.wf (OpenSpec.ofChange s) && fn.params.all (P.readableRec ·) && namedTie P c.named s.vars && (c.stops == []) && (c.knobs == [])
def Facts2 (P : Program) (fn : Func) (s : ChangeSpec) (c : OpenClaim) : Bool :=
  (c.maps == (fn.params.toList ++ s.plain.varTypes P).any (P.mapsRec ·)) && (c.ifaces == (fn.params.toList ++ s.plain.varTypes P).any (P.ifacesRec ·)) && (c.mapsOut == P.mapsAmong fn.resultTypes.toList) &&
  (c.loops == (fn.params.toList ++ s.plain.varTypes P).any (P.loopsFrom ·)) && (c.wideKeys == (fn.params.toList ++ s.plain.varTypes P ++ fn.resultTypes.toList).any (P.wideKeysFrom ·)) &&
  s.vars.all (P.varReadable ·) && fn.resultTypes.all (fun t => P.readableRec t && decide (t < P.types.size)) && (c.ifacesOut == fn.resultTypes.toList.any (P.ifacesRec ·)) && (c.loopsOut == fn.resultTypes.toList.any (P.loopsFrom ·)) && (c.plainKeys == P.plainKeys) && c.shortTexts.isNone
def Facts3 (P : Program) (fn : Func) (s : ChangeSpec) (c : OpenClaim) : Bool :=
  (c.kinds == (if c.domain.isEmpty then [] else fn.params.toList.map fun t => match P.underlying t with | some (.int k) => some k | _ => none)) && (c.pinned == c.pinnedBy) &&
  (c.veiled == (fn.params.toList ++ s.plain.varTypes P ++ fn.resultTypes.toList).any (P.veiledRec ·)) && c.veiledFits P fn.params.toList (fn.params.toList ++ s.plain.varTypes P ++ fn.resultTypes.toList)
theorem joined_parts {P : Program} {f : FuncId} {fn : Func} {s : ChangeSpec} {c : OpenClaim} (g1 : Facts1 P fn s c = true) (g2 : Facts2 P fn s c = true) (g3 : Facts3 P fn s c = true)
    (i1 : (c.inPlace == P.inPlace f) = true) (i2 : (c.unfollowed == P.unfollowed f) = true) (i3 : (c.recurses == P.recurses f) = true) (i4 : (c.named == P.varsNamed f) = true)
    (l1 : laidOutB P = true) (l2 : mapsRowed P = true) (l3 : (P.stops == []) = true) (l4 : (P.stopKnobs == []) = true) (l5 : P.stopsHeard = true) (l6 : P.mayEnter = true) (l7 : P.liftsFinal = c.lifted) (l8 : P.make = some c.make) :
    joinedFacts P f fn s c = true := by
  unfold Facts1 Facts2 Facts3 at *
  simp only [Bool.and_eq_true] at g1 g2 g3
  obtain ⟨⟨⟨⟨a1, a2⟩, a3⟩, a4⟩, a5⟩ := g1
  obtain ⟨⟨⟨⟨⟨⟨⟨⟨⟨⟨b1, b2⟩, b3⟩, b4⟩, b5⟩, b6⟩, b7⟩, b8⟩, b9⟩, b10⟩, b11⟩ := g2
  obtain ⟨⟨⟨c1, c2⟩, c3⟩, c4⟩ := g3
  have l7' : (c.lifted == P.liftsFinal) = true := by rw [l7]; exact beq_self_eq_true _
  have l8' : (P.make == some c.make) = true := by rw [l8]; exact beq_self_eq_true _
  unfold joinedFacts
  simp only [a1, a2, a3, a4, a5, b1, b2, b3, b4, b5, b6, b7, b8, b9, b10, b11, c2, c3, c4, i1, i2, i3, i4, l1, l2, l3, l4, l5, l6, l7', l8', Bool.true_and, Bool.and_true]
  exact c1
end Go.Proofs.Ytcfbnadefdcjaaa
