/-
  No cell of these rows narrows 'for every input' (looked for: loops, veiled, ifaces, maps, wideKeys, modest, calm, conditions, laid).
  DERIVED. THE GIVEN ROWS OF THIS SEAT. 12 by the template 'for every input the law returns true; each argument reads behind the call as it read before'; 0 by the template 'total and deterministic' (their statements: YthopleeehbkjaaaTotals.lean).
  GIVEN WITH THE SEED: the statements are not yours to turn. If you find one false, say at which input.
  Laid BY PROGRAM, IN A SANDBOX (cutbox-rows.mjs): the forced cells as the released guide's own fill.sh prints them over the translation b8a225d88ee49eb2… (all of the seat's roots in one cut). By AI agents, Wed Nov 11 2026. No macro, syntax, notation, axiom, sorry.
-/
import Derived.Test.YthopleeehbkjaaaChecked
import GoSem.Claim
import GoSem.ClaimJoined
import GoSem.ClaimMapViews
import Derived.JoinedTies
import Derived.KernelRfl
namespace Go.Proofs.Ythopleeehbkjaaa
/- THE CELL 'sum', in the pinned program and in every row, IS THE sha256 OF THE DUMP (.gsa) THAT YthopleeehbkjaaaProg.lean LOADS. Nothing in Lean hashes anything: it is a label: what it is worth is what the hold of that sum in a sandbox is worth. -/
noncomputable def Try.pinned : Pinned := { name := "ythopleeehbkjaaa", sum := "b8a225d88ee49eb21975f76834d69bac2d6d4764788913393df12059f5f3101c", checked := Try.checked }
namespace Rows
def none {H : Type} : Left H := { results := [], args := [] }

/-- 'laws.FnExactIsSimulation': WHATEVER THE INPUT: true; the input reads as it did. -/
def fnExactIsSimulationSpec : ChangeSpec := { name := "fnExactIsSimulation", fn := fun _ => fun
  | [d1, d2, d3] => { results := [.lit (.bool true)], args := [d1, d2, d3] }
  | _ => none }
def fnExactIsSimulationRow : OpenClaim := { program := "ythopleeehbkjaaa", sum := "b8a225d88ee49eb21975f76834d69bac2d6d4764788913393df12059f5f3101c", func := "loop.example/g01089/laws.FnExactIsSimulation", spec := "fnExactIsSimulation", plainKeys := false, apart := false }
def FnExactIsSimulationSaid : Prop := fnExactIsSimulationRow.holds Try.pinned (OpenSpec.ofChange fnExactIsSimulationSpec)

/-- ITS FALSE NEIGHBOUR: 'it returns false'. Refute it at one input. -/
def fnExactIsSimulationWrong : ChangeSpec := { name := "fnExactIsSimulation", fn := fun _ => fun
  | [d1, d2, d3] => { results := [.lit (.bool false)], args := [d1, d2, d3] }
  | _ => none }
def FnExactIsSimulationWrongFalsely : Prop := fnExactIsSimulationRow.holds Try.pinned (OpenSpec.ofChange fnExactIsSimulationWrong)

/-- 'laws.FnExactIsBisimulation': WHATEVER THE INPUT: true; the input reads as it did. -/
def fnExactIsBisimulationSpec : ChangeSpec := { name := "fnExactIsBisimulation", fn := fun _ => fun
  | [d1, d2, d3] => { results := [.lit (.bool true)], args := [d1, d2, d3] }
  | _ => none }
def fnExactIsBisimulationRow : OpenClaim := { program := "ythopleeehbkjaaa", sum := "b8a225d88ee49eb21975f76834d69bac2d6d4764788913393df12059f5f3101c", func := "loop.example/g01089/laws.FnExactIsBisimulation", spec := "fnExactIsBisimulation", plainKeys := false, apart := false }
def FnExactIsBisimulationSaid : Prop := fnExactIsBisimulationRow.holds Try.pinned (OpenSpec.ofChange fnExactIsBisimulationSpec)

/-- ITS FALSE NEIGHBOUR: 'it returns false'. Refute it at one input. -/
def fnExactIsBisimulationWrong : ChangeSpec := { name := "fnExactIsBisimulation", fn := fun _ => fun
  | [d1, d2, d3] => { results := [.lit (.bool false)], args := [d1, d2, d3] }
  | _ => none }
def FnExactIsBisimulationWrongFalsely : Prop := fnExactIsBisimulationRow.holds Try.pinned (OpenSpec.ofChange fnExactIsBisimulationWrong)

/-- 'laws.FnExactGreatestSimulation': WHATEVER THE INPUT: true; the input reads as it did. -/
def fnExactGreatestSimulationSpec : ChangeSpec := { name := "fnExactGreatestSimulation", fn := fun _ => fun
  | [d1, d2] => { results := [.lit (.bool true)], args := [d1, d2] }
  | _ => none }
def fnExactGreatestSimulationRow : OpenClaim := { program := "ythopleeehbkjaaa", sum := "b8a225d88ee49eb21975f76834d69bac2d6d4764788913393df12059f5f3101c", func := "loop.example/g01089/laws.FnExactGreatestSimulation", spec := "fnExactGreatestSimulation", plainKeys := false, apart := false }
def FnExactGreatestSimulationSaid : Prop := fnExactGreatestSimulationRow.holds Try.pinned (OpenSpec.ofChange fnExactGreatestSimulationSpec)

/-- ITS FALSE NEIGHBOUR: 'it returns false'. Refute it at one input. -/
def fnExactGreatestSimulationWrong : ChangeSpec := { name := "fnExactGreatestSimulation", fn := fun _ => fun
  | [d1, d2] => { results := [.lit (.bool false)], args := [d1, d2] }
  | _ => none }
def FnExactGreatestSimulationWrongFalsely : Prop := fnExactGreatestSimulationRow.holds Try.pinned (OpenSpec.ofChange fnExactGreatestSimulationWrong)

/-- 'laws.FnExactBoundedBisimulation': WHATEVER THE INPUT: true; the input reads as it did. -/
def fnExactBoundedBisimulationSpec : ChangeSpec := { name := "fnExactBoundedBisimulation", fn := fun _ => fun
  | [d1, d2, d3] => { results := [.lit (.bool true)], args := [d1, d2, d3] }
  | _ => none }
def fnExactBoundedBisimulationRow : OpenClaim := { program := "ythopleeehbkjaaa", sum := "b8a225d88ee49eb21975f76834d69bac2d6d4764788913393df12059f5f3101c", func := "loop.example/g01089/laws.FnExactBoundedBisimulation", spec := "fnExactBoundedBisimulation", unfollowed := true, recurses := true, plainKeys := false, apart := false }
def FnExactBoundedBisimulationSaid : Prop := fnExactBoundedBisimulationRow.holds Try.pinned (OpenSpec.ofChange fnExactBoundedBisimulationSpec)

/-- ITS FALSE NEIGHBOUR: 'it returns false'. Refute it at one input. -/
def fnExactBoundedBisimulationWrong : ChangeSpec := { name := "fnExactBoundedBisimulation", fn := fun _ => fun
  | [d1, d2, d3] => { results := [.lit (.bool false)], args := [d1, d2, d3] }
  | _ => none }
def FnExactBoundedBisimulationWrongFalsely : Prop := fnExactBoundedBisimulationRow.holds Try.pinned (OpenSpec.ofChange fnExactBoundedBisimulationWrong)

/-- 'laws.FnExactGreatestBisimulation': WHATEVER THE INPUT: true; the input reads as it did. -/
def fnExactGreatestBisimulationSpec : ChangeSpec := { name := "fnExactGreatestBisimulation", fn := fun _ => fun
  | [d1, d2] => { results := [.lit (.bool true)], args := [d1, d2] }
  | _ => none }
def fnExactGreatestBisimulationRow : OpenClaim := { program := "ythopleeehbkjaaa", sum := "b8a225d88ee49eb21975f76834d69bac2d6d4764788913393df12059f5f3101c", func := "loop.example/g01089/laws.FnExactGreatestBisimulation", spec := "fnExactGreatestBisimulation", unfollowed := true, recurses := true, plainKeys := false, apart := false }
def FnExactGreatestBisimulationSaid : Prop := fnExactGreatestBisimulationRow.holds Try.pinned (OpenSpec.ofChange fnExactGreatestBisimulationSpec)

/-- ITS FALSE NEIGHBOUR: 'it returns false'. Refute it at one input. -/
def fnExactGreatestBisimulationWrong : ChangeSpec := { name := "fnExactGreatestBisimulation", fn := fun _ => fun
  | [d1, d2] => { results := [.lit (.bool false)], args := [d1, d2] }
  | _ => none }
def FnExactGreatestBisimulationWrongFalsely : Prop := fnExactGreatestBisimulationRow.holds Try.pinned (OpenSpec.ofChange fnExactGreatestBisimulationWrong)

/-- 'laws.FnExactRoundsToTell': WHATEVER THE INPUT: true; the input reads as it did. -/
def fnExactRoundsToTellSpec : ChangeSpec := { name := "fnExactRoundsToTell", fn := fun _ => fun
  | [d1, d2, d3, d4] => { results := [.lit (.bool true)], args := [d1, d2, d3, d4] }
  | _ => none }
def fnExactRoundsToTellRow : OpenClaim := { program := "ythopleeehbkjaaa", sum := "b8a225d88ee49eb21975f76834d69bac2d6d4764788913393df12059f5f3101c", func := "loop.example/g01089/laws.FnExactRoundsToTell", spec := "fnExactRoundsToTell", unfollowed := true, recurses := true, plainKeys := false, apart := false }
def FnExactRoundsToTellSaid : Prop := fnExactRoundsToTellRow.holds Try.pinned (OpenSpec.ofChange fnExactRoundsToTellSpec)

/-- ITS FALSE NEIGHBOUR: 'it returns false'. Refute it at one input. -/
def fnExactRoundsToTellWrong : ChangeSpec := { name := "fnExactRoundsToTell", fn := fun _ => fun
  | [d1, d2, d3, d4] => { results := [.lit (.bool false)], args := [d1, d2, d3, d4] }
  | _ => none }
def FnExactRoundsToTellWrongFalsely : Prop := fnExactRoundsToTellRow.holds Try.pinned (OpenSpec.ofChange fnExactRoundsToTellWrong)

/-- 'laws.FnExactBisimulationClasses': WHATEVER THE INPUT: true; the input reads as it did. -/
def fnExactBisimulationClassesSpec : ChangeSpec := { name := "fnExactBisimulationClasses", fn := fun _ => fun
  | [d] => { results := [.lit (.bool true)], args := [d] }
  | _ => none }
def fnExactBisimulationClassesRow : OpenClaim := { program := "ythopleeehbkjaaa", sum := "b8a225d88ee49eb21975f76834d69bac2d6d4764788913393df12059f5f3101c", func := "loop.example/g01089/laws.FnExactBisimulationClasses", spec := "fnExactBisimulationClasses", unfollowed := true, recurses := true, plainKeys := false, apart := false }
def FnExactBisimulationClassesSaid : Prop := fnExactBisimulationClassesRow.holds Try.pinned (OpenSpec.ofChange fnExactBisimulationClassesSpec)

/-- ITS FALSE NEIGHBOUR: 'it returns false'. Refute it at one input. -/
def fnExactBisimulationClassesWrong : ChangeSpec := { name := "fnExactBisimulationClasses", fn := fun _ => fun
  | [d] => { results := [.lit (.bool false)], args := [d] }
  | _ => none }
def FnExactBisimulationClassesWrongFalsely : Prop := fnExactBisimulationClassesRow.holds Try.pinned (OpenSpec.ofChange fnExactBisimulationClassesWrong)

/-- 'laws.FnExactSumModels': WHATEVER THE INPUT: true; the input reads as it did. -/
def fnExactSumModelsSpec : ChangeSpec := { name := "fnExactSumModels", fn := fun _ => fun
  | [d1, d2] => { results := [.lit (.bool true)], args := [d1, d2] }
  | _ => none }
def fnExactSumModelsRow : OpenClaim := { program := "ythopleeehbkjaaa", sum := "b8a225d88ee49eb21975f76834d69bac2d6d4764788913393df12059f5f3101c", func := "loop.example/g01089/laws.FnExactSumModels", spec := "fnExactSumModels", plainKeys := false, apart := false }
def FnExactSumModelsSaid : Prop := fnExactSumModelsRow.holds Try.pinned (OpenSpec.ofChange fnExactSumModelsSpec)

/-- ITS FALSE NEIGHBOUR: 'it returns false'. Refute it at one input. -/
def fnExactSumModelsWrong : ChangeSpec := { name := "fnExactSumModels", fn := fun _ => fun
  | [d1, d2] => { results := [.lit (.bool false)], args := [d1, d2] }
  | _ => none }
def FnExactSumModelsWrongFalsely : Prop := fnExactSumModelsRow.holds Try.pinned (OpenSpec.ofChange fnExactSumModelsWrong)

/-- 'laws.FnExactTruthSet': WHATEVER THE INPUT: true; the input reads as it did. -/
def fnExactTruthSetSpec : ChangeSpec := { name := "fnExactTruthSet", fn := fun _ => fun
  | [d1, d2] => { results := [.lit (.bool true)], args := [d1, d2] }
  | _ => none }
def fnExactTruthSetRow : OpenClaim := { program := "ythopleeehbkjaaa", sum := "b8a225d88ee49eb21975f76834d69bac2d6d4764788913393df12059f5f3101c", func := "loop.example/g01089/laws.FnExactTruthSet", spec := "fnExactTruthSet", recurses := true, plainKeys := false, apart := false }
def FnExactTruthSetSaid : Prop := fnExactTruthSetRow.holds Try.pinned (OpenSpec.ofChange fnExactTruthSetSpec)

/-- ITS FALSE NEIGHBOUR: 'it returns false'. Refute it at one input. -/
def fnExactTruthSetWrong : ChangeSpec := { name := "fnExactTruthSet", fn := fun _ => fun
  | [d1, d2] => { results := [.lit (.bool false)], args := [d1, d2] }
  | _ => none }
def FnExactTruthSetWrongFalsely : Prop := fnExactTruthSetRow.holds Try.pinned (OpenSpec.ofChange fnExactTruthSetWrong)

/-- 'laws.FnExactIsTrueAt': WHATEVER THE INPUT: true; the input reads as it did. -/
def fnExactIsTrueAtSpec : ChangeSpec := { name := "fnExactIsTrueAt", fn := fun _ => fun
  | [d1, d2, d3] => { results := [.lit (.bool true)], args := [d1, d2, d3] }
  | _ => none }
def fnExactIsTrueAtRow : OpenClaim := { program := "ythopleeehbkjaaa", sum := "b8a225d88ee49eb21975f76834d69bac2d6d4764788913393df12059f5f3101c", func := "loop.example/g01089/laws.FnExactIsTrueAt", spec := "fnExactIsTrueAt", recurses := true, plainKeys := false, apart := false }
def FnExactIsTrueAtSaid : Prop := fnExactIsTrueAtRow.holds Try.pinned (OpenSpec.ofChange fnExactIsTrueAtSpec)

/-- ITS FALSE NEIGHBOUR: 'it returns false'. Refute it at one input. -/
def fnExactIsTrueAtWrong : ChangeSpec := { name := "fnExactIsTrueAt", fn := fun _ => fun
  | [d1, d2, d3] => { results := [.lit (.bool false)], args := [d1, d2, d3] }
  | _ => none }
def FnExactIsTrueAtWrongFalsely : Prop := fnExactIsTrueAtRow.holds Try.pinned (OpenSpec.ofChange fnExactIsTrueAtWrong)

/-- 'laws.FnExactIsTrueIn': WHATEVER THE INPUT: true; the input reads as it did. -/
def fnExactIsTrueInSpec : ChangeSpec := { name := "fnExactIsTrueIn", fn := fun _ => fun
  | [d1, d2] => { results := [.lit (.bool true)], args := [d1, d2] }
  | _ => none }
def fnExactIsTrueInRow : OpenClaim := { program := "ythopleeehbkjaaa", sum := "b8a225d88ee49eb21975f76834d69bac2d6d4764788913393df12059f5f3101c", func := "loop.example/g01089/laws.FnExactIsTrueIn", spec := "fnExactIsTrueIn", recurses := true, plainKeys := false, apart := false }
def FnExactIsTrueInSaid : Prop := fnExactIsTrueInRow.holds Try.pinned (OpenSpec.ofChange fnExactIsTrueInSpec)

/-- ITS FALSE NEIGHBOUR: 'it returns false'. Refute it at one input. -/
def fnExactIsTrueInWrong : ChangeSpec := { name := "fnExactIsTrueIn", fn := fun _ => fun
  | [d1, d2] => { results := [.lit (.bool false)], args := [d1, d2] }
  | _ => none }
def FnExactIsTrueInWrongFalsely : Prop := fnExactIsTrueInRow.holds Try.pinned (OpenSpec.ofChange fnExactIsTrueInWrong)

/-- 'laws.FnExactSumFrames': WHATEVER THE INPUT: true; the input reads as it did. -/
def fnExactSumFramesSpec : ChangeSpec := { name := "fnExactSumFrames", fn := fun _ => fun
  | [d1, d2] => { results := [.lit (.bool true)], args := [d1, d2] }
  | _ => none }
def fnExactSumFramesRow : OpenClaim := { program := "ythopleeehbkjaaa", sum := "b8a225d88ee49eb21975f76834d69bac2d6d4764788913393df12059f5f3101c", func := "loop.example/g01089/laws.FnExactSumFrames", spec := "fnExactSumFrames", plainKeys := false, apart := false }
def FnExactSumFramesSaid : Prop := fnExactSumFramesRow.holds Try.pinned (OpenSpec.ofChange fnExactSumFramesSpec)

/-- ITS FALSE NEIGHBOUR: 'it returns false'. Refute it at one input. -/
def fnExactSumFramesWrong : ChangeSpec := { name := "fnExactSumFrames", fn := fun _ => fun
  | [d1, d2] => { results := [.lit (.bool false)], args := [d1, d2] }
  | _ => none }
def FnExactSumFramesWrongFalsely : Prop := fnExactSumFramesRow.holds Try.pinned (OpenSpec.ofChange fnExactSumFramesWrong)

/- THE SECOND FORM. 'bulk': how many values and letters a reading holds, each counted each time it is reached (what is shared counts as often as it is met; a slice's spare places count too). A statement '..UptoSaid' is the law's where the arguments, and the package variables that the reading takes, are together of bulk at most 1048576: NARROWER than '..Said'. Prove '..Said' where nothing that the law and all that it calls make is longer than what came in: it says more and counts as full. Else prove '..UptoSaid'. A law counts once. -/
mutual
def uptoBulk {H : Type} : DataW H → Nat
  | .lit (.string bytes) => bytes.length + 1
  | .lit _ => 1
  | .nil => 1
  | .ptr d => uptoBulk d + 1
  | .slice elems spare => uptoBulkAll elems + uptoBulkAll spare + 1
  | .agg parts => uptoBulkAll parts + 1
  | .iface _ d => uptoBulk d + 1
  | .map entries => uptoBulkEntries entries + 1
  | .held _ => 1
def uptoBulkAll {H : Type} : List (DataW H) → Nat
  | [] => 0
  | d :: r => uptoBulk d + uptoBulkAll r
def uptoBulkEntries {H : Type} : List (Lit × DataW H) → Nat
  | [] => 0
  | x :: r => uptoBulkEntry x + uptoBulkEntries r
def uptoBulkEntry {H : Type} : Lit × DataW H → Nat
  | (.string bytes, d) => bytes.length + uptoBulk d + 1
  | (_, d) => uptoBulk d + 1
 end
def uptoSmall : (H : Type) → List (DataW H) → Bool := fun _ ds => decide (uptoBulkAll ds ≤ 1048576)
def OpenSpec.upto (s : _root_.Go.ChangeSpec) : _root_.Go.OpenSpec := { _root_.Go.OpenSpec.ofChange s with cond := some uptoSmall }

/-- 'laws.FnExactIsSimulation', WHERE WHAT IT READS IS OF BULK AT MOST 1048576: true; the input reads as it did. -/
def fnExactIsSimulationUptoRow : OpenClaim := { program := "ythopleeehbkjaaa", sum := "b8a225d88ee49eb21975f76834d69bac2d6d4764788913393df12059f5f3101c", func := "loop.example/g01089/laws.FnExactIsSimulation", spec := "fnExactIsSimulation", plainKeys := false, apart := false, narrowed := true }
def FnExactIsSimulationUptoSaid : Prop := fnExactIsSimulationUptoRow.holds Try.pinned (OpenSpec.upto fnExactIsSimulationSpec)

/-- 'laws.FnExactIsBisimulation', WHERE WHAT IT READS IS OF BULK AT MOST 1048576: true; the input reads as it did. -/
def fnExactIsBisimulationUptoRow : OpenClaim := { program := "ythopleeehbkjaaa", sum := "b8a225d88ee49eb21975f76834d69bac2d6d4764788913393df12059f5f3101c", func := "loop.example/g01089/laws.FnExactIsBisimulation", spec := "fnExactIsBisimulation", plainKeys := false, apart := false, narrowed := true }
def FnExactIsBisimulationUptoSaid : Prop := fnExactIsBisimulationUptoRow.holds Try.pinned (OpenSpec.upto fnExactIsBisimulationSpec)

/-- 'laws.FnExactGreatestSimulation', WHERE WHAT IT READS IS OF BULK AT MOST 1048576: true; the input reads as it did. -/
def fnExactGreatestSimulationUptoRow : OpenClaim := { program := "ythopleeehbkjaaa", sum := "b8a225d88ee49eb21975f76834d69bac2d6d4764788913393df12059f5f3101c", func := "loop.example/g01089/laws.FnExactGreatestSimulation", spec := "fnExactGreatestSimulation", plainKeys := false, apart := false, narrowed := true }
def FnExactGreatestSimulationUptoSaid : Prop := fnExactGreatestSimulationUptoRow.holds Try.pinned (OpenSpec.upto fnExactGreatestSimulationSpec)

/-- 'laws.FnExactBoundedBisimulation', WHERE WHAT IT READS IS OF BULK AT MOST 1048576: true; the input reads as it did. -/
def fnExactBoundedBisimulationUptoRow : OpenClaim := { program := "ythopleeehbkjaaa", sum := "b8a225d88ee49eb21975f76834d69bac2d6d4764788913393df12059f5f3101c", func := "loop.example/g01089/laws.FnExactBoundedBisimulation", spec := "fnExactBoundedBisimulation", unfollowed := true, recurses := true, plainKeys := false, apart := false, narrowed := true }
def FnExactBoundedBisimulationUptoSaid : Prop := fnExactBoundedBisimulationUptoRow.holds Try.pinned (OpenSpec.upto fnExactBoundedBisimulationSpec)

/-- 'laws.FnExactGreatestBisimulation', WHERE WHAT IT READS IS OF BULK AT MOST 1048576: true; the input reads as it did. -/
def fnExactGreatestBisimulationUptoRow : OpenClaim := { program := "ythopleeehbkjaaa", sum := "b8a225d88ee49eb21975f76834d69bac2d6d4764788913393df12059f5f3101c", func := "loop.example/g01089/laws.FnExactGreatestBisimulation", spec := "fnExactGreatestBisimulation", unfollowed := true, recurses := true, plainKeys := false, apart := false, narrowed := true }
def FnExactGreatestBisimulationUptoSaid : Prop := fnExactGreatestBisimulationUptoRow.holds Try.pinned (OpenSpec.upto fnExactGreatestBisimulationSpec)

/-- 'laws.FnExactRoundsToTell', WHERE WHAT IT READS IS OF BULK AT MOST 1048576: true; the input reads as it did. -/
def fnExactRoundsToTellUptoRow : OpenClaim := { program := "ythopleeehbkjaaa", sum := "b8a225d88ee49eb21975f76834d69bac2d6d4764788913393df12059f5f3101c", func := "loop.example/g01089/laws.FnExactRoundsToTell", spec := "fnExactRoundsToTell", unfollowed := true, recurses := true, plainKeys := false, apart := false, narrowed := true }
def FnExactRoundsToTellUptoSaid : Prop := fnExactRoundsToTellUptoRow.holds Try.pinned (OpenSpec.upto fnExactRoundsToTellSpec)

/-- 'laws.FnExactBisimulationClasses', WHERE WHAT IT READS IS OF BULK AT MOST 1048576: true; the input reads as it did. -/
def fnExactBisimulationClassesUptoRow : OpenClaim := { program := "ythopleeehbkjaaa", sum := "b8a225d88ee49eb21975f76834d69bac2d6d4764788913393df12059f5f3101c", func := "loop.example/g01089/laws.FnExactBisimulationClasses", spec := "fnExactBisimulationClasses", unfollowed := true, recurses := true, plainKeys := false, apart := false, narrowed := true }
def FnExactBisimulationClassesUptoSaid : Prop := fnExactBisimulationClassesUptoRow.holds Try.pinned (OpenSpec.upto fnExactBisimulationClassesSpec)

/-- 'laws.FnExactSumModels', WHERE WHAT IT READS IS OF BULK AT MOST 1048576: true; the input reads as it did. -/
def fnExactSumModelsUptoRow : OpenClaim := { program := "ythopleeehbkjaaa", sum := "b8a225d88ee49eb21975f76834d69bac2d6d4764788913393df12059f5f3101c", func := "loop.example/g01089/laws.FnExactSumModels", spec := "fnExactSumModels", plainKeys := false, apart := false, narrowed := true }
def FnExactSumModelsUptoSaid : Prop := fnExactSumModelsUptoRow.holds Try.pinned (OpenSpec.upto fnExactSumModelsSpec)

/-- 'laws.FnExactTruthSet', WHERE WHAT IT READS IS OF BULK AT MOST 1048576: true; the input reads as it did. -/
def fnExactTruthSetUptoRow : OpenClaim := { program := "ythopleeehbkjaaa", sum := "b8a225d88ee49eb21975f76834d69bac2d6d4764788913393df12059f5f3101c", func := "loop.example/g01089/laws.FnExactTruthSet", spec := "fnExactTruthSet", recurses := true, plainKeys := false, apart := false, narrowed := true }
def FnExactTruthSetUptoSaid : Prop := fnExactTruthSetUptoRow.holds Try.pinned (OpenSpec.upto fnExactTruthSetSpec)

/-- 'laws.FnExactIsTrueAt', WHERE WHAT IT READS IS OF BULK AT MOST 1048576: true; the input reads as it did. -/
def fnExactIsTrueAtUptoRow : OpenClaim := { program := "ythopleeehbkjaaa", sum := "b8a225d88ee49eb21975f76834d69bac2d6d4764788913393df12059f5f3101c", func := "loop.example/g01089/laws.FnExactIsTrueAt", spec := "fnExactIsTrueAt", recurses := true, plainKeys := false, apart := false, narrowed := true }
def FnExactIsTrueAtUptoSaid : Prop := fnExactIsTrueAtUptoRow.holds Try.pinned (OpenSpec.upto fnExactIsTrueAtSpec)

/-- 'laws.FnExactIsTrueIn', WHERE WHAT IT READS IS OF BULK AT MOST 1048576: true; the input reads as it did. -/
def fnExactIsTrueInUptoRow : OpenClaim := { program := "ythopleeehbkjaaa", sum := "b8a225d88ee49eb21975f76834d69bac2d6d4764788913393df12059f5f3101c", func := "loop.example/g01089/laws.FnExactIsTrueIn", spec := "fnExactIsTrueIn", recurses := true, plainKeys := false, apart := false, narrowed := true }
def FnExactIsTrueInUptoSaid : Prop := fnExactIsTrueInUptoRow.holds Try.pinned (OpenSpec.upto fnExactIsTrueInSpec)

/-- 'laws.FnExactSumFrames', WHERE WHAT IT READS IS OF BULK AT MOST 1048576: true; the input reads as it did. -/
def fnExactSumFramesUptoRow : OpenClaim := { program := "ythopleeehbkjaaa", sum := "b8a225d88ee49eb21975f76834d69bac2d6d4764788913393df12059f5f3101c", func := "loop.example/g01089/laws.FnExactSumFrames", spec := "fnExactSumFrames", plainKeys := false, apart := false, narrowed := true }
def FnExactSumFramesUptoSaid : Prop := fnExactSumFramesUptoRow.holds Try.pinned (OpenSpec.upto fnExactSumFramesSpec)

end Rows
end Go.Proofs.Ythopleeehbkjaaa
