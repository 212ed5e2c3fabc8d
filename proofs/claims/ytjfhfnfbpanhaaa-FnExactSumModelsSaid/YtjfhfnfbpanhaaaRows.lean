/-
  No cell of these rows narrows 'for every input' (looked for: loops, veiled, ifaces, maps, wideKeys, modest, calm, conditions, laid).
  DERIVED. THE GIVEN ROWS OF THIS SEAT. 12 by the template 'for every input the law returns true; each argument reads behind the call as it read before'; 0 by the template 'total and deterministic' (their statements: YtjfhfnfbpanhaaaTotals.lean).
  GIVEN WITH THE SEED: the statements are not yours to turn. If you find one false, say at which input.
  Laid BY PROGRAM, IN A SANDBOX (cutbox-rows.mjs): the forced cells as the released guide's own fill.sh prints them over the translation 604857a37f0a5476… (all of the seat's roots in one cut). By AI agents, Wed Nov 11 2026. No macro, syntax, notation, axiom, sorry.
-/
import Derived.Test.YtjfhfnfbpanhaaaChecked
import GoSem.Claim
import GoSem.ClaimJoined
import GoSem.ClaimMapViews
import Derived.JoinedTies
import Derived.KernelRfl
namespace Go.Proofs.Ytjfhfnfbpanhaaa
/- THE CELL 'sum', in the pinned program and in every row, IS THE sha256 OF THE DUMP (.gsa) THAT YtjfhfnfbpanhaaaProg.lean LOADS. Nothing in Lean hashes anything: it is a label: what it is worth is what the hold of that sum in a sandbox is worth. -/
noncomputable def Try.pinned : Pinned := { name := "ytjfhfnfbpanhaaa", sum := "604857a37f0a5476329b3be103b0ae997b3cb804fb18c1cb527b9a7ba5e397e0", checked := Try.checked }
namespace Rows
def none {H : Type} : Left H := { results := [], args := [] }

/-- 'laws.FnExactIsModel': WHATEVER THE INPUT: true; the input reads as it did. -/
def fnExactIsModelSpec : ChangeSpec := { name := "fnExactIsModel", fn := fun _ => fun
  | [d] => { results := [.lit (.bool true)], args := [d] }
  | _ => none }
def fnExactIsModelRow : OpenClaim := { program := "ytjfhfnfbpanhaaa", sum := "604857a37f0a5476329b3be103b0ae997b3cb804fb18c1cb527b9a7ba5e397e0", func := "loop.example/g01089/laws.FnExactIsModel", spec := "fnExactIsModel", apart := false }
def FnExactIsModelSaid : Prop := fnExactIsModelRow.holds Try.pinned (OpenSpec.ofChange fnExactIsModelSpec)

/-- ITS FALSE NEIGHBOUR: 'it returns false'. Refute it at one input. -/
def fnExactIsModelWrong : ChangeSpec := { name := "fnExactIsModel", fn := fun _ => fun
  | [d] => { results := [.lit (.bool false)], args := [d] }
  | _ => none }
def FnExactIsModelWrongFalsely : Prop := fnExactIsModelRow.holds Try.pinned (OpenSpec.ofChange fnExactIsModelWrong)

/-- 'laws.FnExactTruthSet': WHATEVER THE INPUT: true; the input reads as it did. -/
def fnExactTruthSetSpec : ChangeSpec := { name := "fnExactTruthSet", fn := fun _ => fun
  | [d1, d2] => { results := [.lit (.bool true)], args := [d1, d2] }
  | _ => none }
def fnExactTruthSetRow : OpenClaim := { program := "ytjfhfnfbpanhaaa", sum := "604857a37f0a5476329b3be103b0ae997b3cb804fb18c1cb527b9a7ba5e397e0", func := "loop.example/g01089/laws.FnExactTruthSet", spec := "fnExactTruthSet", recurses := true, apart := false }
def FnExactTruthSetSaid : Prop := fnExactTruthSetRow.holds Try.pinned (OpenSpec.ofChange fnExactTruthSetSpec)

/-- ITS FALSE NEIGHBOUR: 'it returns false'. Refute it at one input. -/
def fnExactTruthSetWrong : ChangeSpec := { name := "fnExactTruthSet", fn := fun _ => fun
  | [d1, d2] => { results := [.lit (.bool false)], args := [d1, d2] }
  | _ => none }
def FnExactTruthSetWrongFalsely : Prop := fnExactTruthSetRow.holds Try.pinned (OpenSpec.ofChange fnExactTruthSetWrong)

/-- 'laws.FnExactIsTrueAt': WHATEVER THE INPUT: true; the input reads as it did. -/
def fnExactIsTrueAtSpec : ChangeSpec := { name := "fnExactIsTrueAt", fn := fun _ => fun
  | [d1, d2, d3] => { results := [.lit (.bool true)], args := [d1, d2, d3] }
  | _ => none }
def fnExactIsTrueAtRow : OpenClaim := { program := "ytjfhfnfbpanhaaa", sum := "604857a37f0a5476329b3be103b0ae997b3cb804fb18c1cb527b9a7ba5e397e0", func := "loop.example/g01089/laws.FnExactIsTrueAt", spec := "fnExactIsTrueAt", recurses := true, apart := false }
def FnExactIsTrueAtSaid : Prop := fnExactIsTrueAtRow.holds Try.pinned (OpenSpec.ofChange fnExactIsTrueAtSpec)

/-- ITS FALSE NEIGHBOUR: 'it returns false'. Refute it at one input. -/
def fnExactIsTrueAtWrong : ChangeSpec := { name := "fnExactIsTrueAt", fn := fun _ => fun
  | [d1, d2, d3] => { results := [.lit (.bool false)], args := [d1, d2, d3] }
  | _ => none }
def FnExactIsTrueAtWrongFalsely : Prop := fnExactIsTrueAtRow.holds Try.pinned (OpenSpec.ofChange fnExactIsTrueAtWrong)

/-- 'laws.FnExactIsTrueIn': WHATEVER THE INPUT: true; the input reads as it did. -/
def fnExactIsTrueInSpec : ChangeSpec := { name := "fnExactIsTrueIn", fn := fun _ => fun
  | [d1, d2] => { results := [.lit (.bool true)], args := [d1, d2] }
  | _ => none }
def fnExactIsTrueInRow : OpenClaim := { program := "ytjfhfnfbpanhaaa", sum := "604857a37f0a5476329b3be103b0ae997b3cb804fb18c1cb527b9a7ba5e397e0", func := "loop.example/g01089/laws.FnExactIsTrueIn", spec := "fnExactIsTrueIn", recurses := true, apart := false }
def FnExactIsTrueInSaid : Prop := fnExactIsTrueInRow.holds Try.pinned (OpenSpec.ofChange fnExactIsTrueInSpec)

/-- ITS FALSE NEIGHBOUR: 'it returns false'. Refute it at one input. -/
def fnExactIsTrueInWrong : ChangeSpec := { name := "fnExactIsTrueIn", fn := fun _ => fun
  | [d1, d2] => { results := [.lit (.bool false)], args := [d1, d2] }
  | _ => none }
def FnExactIsTrueInWrongFalsely : Prop := fnExactIsTrueInRow.holds Try.pinned (OpenSpec.ofChange fnExactIsTrueInWrong)

/-- 'laws.FnExactPartOfModel': WHATEVER THE INPUT: true; the input reads as it did. -/
def fnExactPartOfModelSpec : ChangeSpec := { name := "fnExactPartOfModel", fn := fun _ => fun
  | [d1, d2] => { results := [.lit (.bool true)], args := [d1, d2] }
  | _ => none }
def fnExactPartOfModelRow : OpenClaim := { program := "ytjfhfnfbpanhaaa", sum := "604857a37f0a5476329b3be103b0ae997b3cb804fb18c1cb527b9a7ba5e397e0", func := "loop.example/g01089/laws.FnExactPartOfModel", spec := "fnExactPartOfModel", apart := false }
def FnExactPartOfModelSaid : Prop := fnExactPartOfModelRow.holds Try.pinned (OpenSpec.ofChange fnExactPartOfModelSpec)

/-- ITS FALSE NEIGHBOUR: 'it returns false'. Refute it at one input. -/
def fnExactPartOfModelWrong : ChangeSpec := { name := "fnExactPartOfModel", fn := fun _ => fun
  | [d1, d2] => { results := [.lit (.bool false)], args := [d1, d2] }
  | _ => none }
def FnExactPartOfModelWrongFalsely : Prop := fnExactPartOfModelRow.holds Try.pinned (OpenSpec.ofChange fnExactPartOfModelWrong)

/-- 'laws.FnExactSumModels': WHATEVER THE INPUT: true; the input reads as it did. -/
def fnExactSumModelsSpec : ChangeSpec := { name := "fnExactSumModels", fn := fun _ => fun
  | [d1, d2] => { results := [.lit (.bool true)], args := [d1, d2] }
  | _ => none }
def fnExactSumModelsRow : OpenClaim := { program := "ytjfhfnfbpanhaaa", sum := "604857a37f0a5476329b3be103b0ae997b3cb804fb18c1cb527b9a7ba5e397e0", func := "loop.example/g01089/laws.FnExactSumModels", spec := "fnExactSumModels", apart := false }
def FnExactSumModelsSaid : Prop := fnExactSumModelsRow.holds Try.pinned (OpenSpec.ofChange fnExactSumModelsSpec)

/-- ITS FALSE NEIGHBOUR: 'it returns false'. Refute it at one input. -/
def fnExactSumModelsWrong : ChangeSpec := { name := "fnExactSumModels", fn := fun _ => fun
  | [d1, d2] => { results := [.lit (.bool false)], args := [d1, d2] }
  | _ => none }
def FnExactSumModelsWrongFalsely : Prop := fnExactSumModelsRow.holds Try.pinned (OpenSpec.ofChange fnExactSumModelsWrong)

/-- 'laws.FnExactDefinableSets': WHATEVER THE INPUT: true; the input reads as it did. -/
def fnExactDefinableSetsSpec : ChangeSpec := { name := "fnExactDefinableSets", fn := fun _ => fun
  | [d1, d2] => { results := [.lit (.bool true)], args := [d1, d2] }
  | _ => none }
def fnExactDefinableSetsRow : OpenClaim := { program := "ytjfhfnfbpanhaaa", sum := "604857a37f0a5476329b3be103b0ae997b3cb804fb18c1cb527b9a7ba5e397e0", func := "loop.example/g01089/laws.FnExactDefinableSets", spec := "fnExactDefinableSets", recurses := true, apart := false }
def FnExactDefinableSetsSaid : Prop := fnExactDefinableSetsRow.holds Try.pinned (OpenSpec.ofChange fnExactDefinableSetsSpec)

/-- ITS FALSE NEIGHBOUR: 'it returns false'. Refute it at one input. -/
def fnExactDefinableSetsWrong : ChangeSpec := { name := "fnExactDefinableSets", fn := fun _ => fun
  | [d1, d2] => { results := [.lit (.bool false)], args := [d1, d2] }
  | _ => none }
def FnExactDefinableSetsWrongFalsely : Prop := fnExactDefinableSetsRow.holds Try.pinned (OpenSpec.ofChange fnExactDefinableSetsWrong)

/-- 'laws.FnExactRefutingWorlds': WHATEVER THE INPUT: true; the input reads as it did. -/
def fnExactRefutingWorldsSpec : ChangeSpec := { name := "fnExactRefutingWorlds", fn := fun _ => fun
  | [d1, d2] => { results := [.lit (.bool true)], args := [d1, d2] }
  | _ => none }
def fnExactRefutingWorldsRow : OpenClaim := { program := "ytjfhfnfbpanhaaa", sum := "604857a37f0a5476329b3be103b0ae997b3cb804fb18c1cb527b9a7ba5e397e0", func := "loop.example/g01089/laws.FnExactRefutingWorlds", spec := "fnExactRefutingWorlds", unfollowed := true, recurses := true, apart := false }
def FnExactRefutingWorldsSaid : Prop := fnExactRefutingWorldsRow.holds Try.pinned (OpenSpec.ofChange fnExactRefutingWorldsSpec)

/-- ITS FALSE NEIGHBOUR: 'it returns false'. Refute it at one input. -/
def fnExactRefutingWorldsWrong : ChangeSpec := { name := "fnExactRefutingWorlds", fn := fun _ => fun
  | [d1, d2] => { results := [.lit (.bool false)], args := [d1, d2] }
  | _ => none }
def FnExactRefutingWorldsWrongFalsely : Prop := fnExactRefutingWorldsRow.holds Try.pinned (OpenSpec.ofChange fnExactRefutingWorldsWrong)

/-- 'laws.FnExactIsLocalConsequence': WHATEVER THE INPUT: true; the input reads as it did. -/
def fnExactIsLocalConsequenceSpec : ChangeSpec := { name := "fnExactIsLocalConsequence", fn := fun _ => fun
  | [d1, d2, d3] => { results := [.lit (.bool true)], args := [d1, d2, d3] }
  | _ => none }
def fnExactIsLocalConsequenceRow : OpenClaim := { program := "ytjfhfnfbpanhaaa", sum := "604857a37f0a5476329b3be103b0ae997b3cb804fb18c1cb527b9a7ba5e397e0", func := "loop.example/g01089/laws.FnExactIsLocalConsequence", spec := "fnExactIsLocalConsequence", unfollowed := true, recurses := true, apart := false }
def FnExactIsLocalConsequenceSaid : Prop := fnExactIsLocalConsequenceRow.holds Try.pinned (OpenSpec.ofChange fnExactIsLocalConsequenceSpec)

/-- ITS FALSE NEIGHBOUR: 'it returns false'. Refute it at one input. -/
def fnExactIsLocalConsequenceWrong : ChangeSpec := { name := "fnExactIsLocalConsequence", fn := fun _ => fun
  | [d1, d2, d3] => { results := [.lit (.bool false)], args := [d1, d2, d3] }
  | _ => none }
def FnExactIsLocalConsequenceWrongFalsely : Prop := fnExactIsLocalConsequenceRow.holds Try.pinned (OpenSpec.ofChange fnExactIsLocalConsequenceWrong)

/-- 'laws.FnExactIsGlobalConsequence': WHATEVER THE INPUT: true; the input reads as it did. -/
def fnExactIsGlobalConsequenceSpec : ChangeSpec := { name := "fnExactIsGlobalConsequence", fn := fun _ => fun
  | [d1, d2, d3] => { results := [.lit (.bool true)], args := [d1, d2, d3] }
  | _ => none }
def fnExactIsGlobalConsequenceRow : OpenClaim := { program := "ytjfhfnfbpanhaaa", sum := "604857a37f0a5476329b3be103b0ae997b3cb804fb18c1cb527b9a7ba5e397e0", func := "loop.example/g01089/laws.FnExactIsGlobalConsequence", spec := "fnExactIsGlobalConsequence", unfollowed := true, recurses := true, apart := false }
def FnExactIsGlobalConsequenceSaid : Prop := fnExactIsGlobalConsequenceRow.holds Try.pinned (OpenSpec.ofChange fnExactIsGlobalConsequenceSpec)

/-- ITS FALSE NEIGHBOUR: 'it returns false'. Refute it at one input. -/
def fnExactIsGlobalConsequenceWrong : ChangeSpec := { name := "fnExactIsGlobalConsequence", fn := fun _ => fun
  | [d1, d2, d3] => { results := [.lit (.bool false)], args := [d1, d2, d3] }
  | _ => none }
def FnExactIsGlobalConsequenceWrongFalsely : Prop := fnExactIsGlobalConsequenceRow.holds Try.pinned (OpenSpec.ofChange fnExactIsGlobalConsequenceWrong)

/-- 'laws.FnExactPartOfFrame': WHATEVER THE INPUT: true; the input reads as it did. -/
def fnExactPartOfFrameSpec : ChangeSpec := { name := "fnExactPartOfFrame", fn := fun _ => fun
  | [d1, d2] => { results := [.lit (.bool true)], args := [d1, d2] }
  | _ => none }
def fnExactPartOfFrameRow : OpenClaim := { program := "ytjfhfnfbpanhaaa", sum := "604857a37f0a5476329b3be103b0ae997b3cb804fb18c1cb527b9a7ba5e397e0", func := "loop.example/g01089/laws.FnExactPartOfFrame", spec := "fnExactPartOfFrame", apart := false }
def FnExactPartOfFrameSaid : Prop := fnExactPartOfFrameRow.holds Try.pinned (OpenSpec.ofChange fnExactPartOfFrameSpec)

/-- ITS FALSE NEIGHBOUR: 'it returns false'. Refute it at one input. -/
def fnExactPartOfFrameWrong : ChangeSpec := { name := "fnExactPartOfFrame", fn := fun _ => fun
  | [d1, d2] => { results := [.lit (.bool false)], args := [d1, d2] }
  | _ => none }
def FnExactPartOfFrameWrongFalsely : Prop := fnExactPartOfFrameRow.holds Try.pinned (OpenSpec.ofChange fnExactPartOfFrameWrong)

/-- 'laws.FnExactVariablesOf': WHATEVER THE INPUT: true; the input reads as it did. -/
def fnExactVariablesOfSpec : ChangeSpec := { name := "fnExactVariablesOf", fn := fun _ => fun
  | [d] => { results := [.lit (.bool true)], args := [d] }
  | _ => none }
def fnExactVariablesOfRow : OpenClaim := { program := "ytjfhfnfbpanhaaa", sum := "604857a37f0a5476329b3be103b0ae997b3cb804fb18c1cb527b9a7ba5e397e0", func := "loop.example/g01089/laws.FnExactVariablesOf", spec := "fnExactVariablesOf", recurses := true, apart := false }
def FnExactVariablesOfSaid : Prop := fnExactVariablesOfRow.holds Try.pinned (OpenSpec.ofChange fnExactVariablesOfSpec)

/-- ITS FALSE NEIGHBOUR: 'it returns false'. Refute it at one input. -/
def fnExactVariablesOfWrong : ChangeSpec := { name := "fnExactVariablesOf", fn := fun _ => fun
  | [d] => { results := [.lit (.bool false)], args := [d] }
  | _ => none }
def FnExactVariablesOfWrongFalsely : Prop := fnExactVariablesOfRow.holds Try.pinned (OpenSpec.ofChange fnExactVariablesOfWrong)

/- THE SECOND FORM. 'bulk': how many values and letters a reading holds, each counted each time it is reached (what is shared counts as often as it is met; a slice's spare places count too). A statement '..UptoSaid' is the law's where the arguments, and the package variables that the reading takes, are together of bulk at most 1048576: NARROWER than '..Said'. Prove '..Said' where nothing that the law and all that it calls make is longer than what came in: it says more and counts as full. Else prove '..UptoSaid'. A law counts once. -/
mutual
def uptoBulk {H : Type} : DataW H → Nat
  | .lit (.string bytes) => bytes.length + 1
  | .lit _ => 1
  | .nil => 1
  | .ptr d => uptoBulk d + 1
  | .slice elems spare => uptoBulkAll elems + uptoBulkAll spare + 1
  | .agg parts => uptoBulkAll parts + 1
  | .iface _ d => uptoBulk d + 1
  | .map entries => uptoBulkEntries entries + 1
  | .held _ => 1
def uptoBulkAll {H : Type} : List (DataW H) → Nat
  | [] => 0
  | d :: r => uptoBulk d + uptoBulkAll r
def uptoBulkEntries {H : Type} : List (Lit × DataW H) → Nat
  | [] => 0
  | x :: r => uptoBulkEntry x + uptoBulkEntries r
def uptoBulkEntry {H : Type} : Lit × DataW H → Nat
  | (.string bytes, d) => bytes.length + uptoBulk d + 1
  | (_, d) => uptoBulk d + 1
 end
def uptoSmall : (H : Type) → List (DataW H) → Bool := fun _ ds => decide (uptoBulkAll ds ≤ 1048576)
def OpenSpec.upto (s : _root_.Go.ChangeSpec) : _root_.Go.OpenSpec := { _root_.Go.OpenSpec.ofChange s with cond := some uptoSmall }

/-- 'laws.FnExactIsModel', WHERE WHAT IT READS IS OF BULK AT MOST 1048576: true; the input reads as it did. -/
def fnExactIsModelUptoRow : OpenClaim := { program := "ytjfhfnfbpanhaaa", sum := "604857a37f0a5476329b3be103b0ae997b3cb804fb18c1cb527b9a7ba5e397e0", func := "loop.example/g01089/laws.FnExactIsModel", spec := "fnExactIsModel", apart := false, narrowed := true }
def FnExactIsModelUptoSaid : Prop := fnExactIsModelUptoRow.holds Try.pinned (OpenSpec.upto fnExactIsModelSpec)

/-- 'laws.FnExactTruthSet', WHERE WHAT IT READS IS OF BULK AT MOST 1048576: true; the input reads as it did. -/
def fnExactTruthSetUptoRow : OpenClaim := { program := "ytjfhfnfbpanhaaa", sum := "604857a37f0a5476329b3be103b0ae997b3cb804fb18c1cb527b9a7ba5e397e0", func := "loop.example/g01089/laws.FnExactTruthSet", spec := "fnExactTruthSet", recurses := true, apart := false, narrowed := true }
def FnExactTruthSetUptoSaid : Prop := fnExactTruthSetUptoRow.holds Try.pinned (OpenSpec.upto fnExactTruthSetSpec)

/-- 'laws.FnExactIsTrueAt', WHERE WHAT IT READS IS OF BULK AT MOST 1048576: true; the input reads as it did. -/
def fnExactIsTrueAtUptoRow : OpenClaim := { program := "ytjfhfnfbpanhaaa", sum := "604857a37f0a5476329b3be103b0ae997b3cb804fb18c1cb527b9a7ba5e397e0", func := "loop.example/g01089/laws.FnExactIsTrueAt", spec := "fnExactIsTrueAt", recurses := true, apart := false, narrowed := true }
def FnExactIsTrueAtUptoSaid : Prop := fnExactIsTrueAtUptoRow.holds Try.pinned (OpenSpec.upto fnExactIsTrueAtSpec)

/-- 'laws.FnExactIsTrueIn', WHERE WHAT IT READS IS OF BULK AT MOST 1048576: true; the input reads as it did. -/
def fnExactIsTrueInUptoRow : OpenClaim := { program := "ytjfhfnfbpanhaaa", sum := "604857a37f0a5476329b3be103b0ae997b3cb804fb18c1cb527b9a7ba5e397e0", func := "loop.example/g01089/laws.FnExactIsTrueIn", spec := "fnExactIsTrueIn", recurses := true, apart := false, narrowed := true }
def FnExactIsTrueInUptoSaid : Prop := fnExactIsTrueInUptoRow.holds Try.pinned (OpenSpec.upto fnExactIsTrueInSpec)

/-- 'laws.FnExactPartOfModel', WHERE WHAT IT READS IS OF BULK AT MOST 1048576: true; the input reads as it did. -/
def fnExactPartOfModelUptoRow : OpenClaim := { program := "ytjfhfnfbpanhaaa", sum := "604857a37f0a5476329b3be103b0ae997b3cb804fb18c1cb527b9a7ba5e397e0", func := "loop.example/g01089/laws.FnExactPartOfModel", spec := "fnExactPartOfModel", apart := false, narrowed := true }
def FnExactPartOfModelUptoSaid : Prop := fnExactPartOfModelUptoRow.holds Try.pinned (OpenSpec.upto fnExactPartOfModelSpec)

/-- 'laws.FnExactSumModels', WHERE WHAT IT READS IS OF BULK AT MOST 1048576: true; the input reads as it did. -/
def fnExactSumModelsUptoRow : OpenClaim := { program := "ytjfhfnfbpanhaaa", sum := "604857a37f0a5476329b3be103b0ae997b3cb804fb18c1cb527b9a7ba5e397e0", func := "loop.example/g01089/laws.FnExactSumModels", spec := "fnExactSumModels", apart := false, narrowed := true }
def FnExactSumModelsUptoSaid : Prop := fnExactSumModelsUptoRow.holds Try.pinned (OpenSpec.upto fnExactSumModelsSpec)

/-- 'laws.FnExactDefinableSets', WHERE WHAT IT READS IS OF BULK AT MOST 1048576: true; the input reads as it did. -/
def fnExactDefinableSetsUptoRow : OpenClaim := { program := "ytjfhfnfbpanhaaa", sum := "604857a37f0a5476329b3be103b0ae997b3cb804fb18c1cb527b9a7ba5e397e0", func := "loop.example/g01089/laws.FnExactDefinableSets", spec := "fnExactDefinableSets", recurses := true, apart := false, narrowed := true }
def FnExactDefinableSetsUptoSaid : Prop := fnExactDefinableSetsUptoRow.holds Try.pinned (OpenSpec.upto fnExactDefinableSetsSpec)

/-- 'laws.FnExactRefutingWorlds', WHERE WHAT IT READS IS OF BULK AT MOST 1048576: true; the input reads as it did. -/
def fnExactRefutingWorldsUptoRow : OpenClaim := { program := "ytjfhfnfbpanhaaa", sum := "604857a37f0a5476329b3be103b0ae997b3cb804fb18c1cb527b9a7ba5e397e0", func := "loop.example/g01089/laws.FnExactRefutingWorlds", spec := "fnExactRefutingWorlds", unfollowed := true, recurses := true, apart := false, narrowed := true }
def FnExactRefutingWorldsUptoSaid : Prop := fnExactRefutingWorldsUptoRow.holds Try.pinned (OpenSpec.upto fnExactRefutingWorldsSpec)

/-- 'laws.FnExactIsLocalConsequence', WHERE WHAT IT READS IS OF BULK AT MOST 1048576: true; the input reads as it did. -/
def fnExactIsLocalConsequenceUptoRow : OpenClaim := { program := "ytjfhfnfbpanhaaa", sum := "604857a37f0a5476329b3be103b0ae997b3cb804fb18c1cb527b9a7ba5e397e0", func := "loop.example/g01089/laws.FnExactIsLocalConsequence", spec := "fnExactIsLocalConsequence", unfollowed := true, recurses := true, apart := false, narrowed := true }
def FnExactIsLocalConsequenceUptoSaid : Prop := fnExactIsLocalConsequenceUptoRow.holds Try.pinned (OpenSpec.upto fnExactIsLocalConsequenceSpec)

/-- 'laws.FnExactIsGlobalConsequence', WHERE WHAT IT READS IS OF BULK AT MOST 1048576: true; the input reads as it did. -/
def fnExactIsGlobalConsequenceUptoRow : OpenClaim := { program := "ytjfhfnfbpanhaaa", sum := "604857a37f0a5476329b3be103b0ae997b3cb804fb18c1cb527b9a7ba5e397e0", func := "loop.example/g01089/laws.FnExactIsGlobalConsequence", spec := "fnExactIsGlobalConsequence", unfollowed := true, recurses := true, apart := false, narrowed := true }
def FnExactIsGlobalConsequenceUptoSaid : Prop := fnExactIsGlobalConsequenceUptoRow.holds Try.pinned (OpenSpec.upto fnExactIsGlobalConsequenceSpec)

/-- 'laws.FnExactPartOfFrame', WHERE WHAT IT READS IS OF BULK AT MOST 1048576: true; the input reads as it did. -/
def fnExactPartOfFrameUptoRow : OpenClaim := { program := "ytjfhfnfbpanhaaa", sum := "604857a37f0a5476329b3be103b0ae997b3cb804fb18c1cb527b9a7ba5e397e0", func := "loop.example/g01089/laws.FnExactPartOfFrame", spec := "fnExactPartOfFrame", apart := false, narrowed := true }
def FnExactPartOfFrameUptoSaid : Prop := fnExactPartOfFrameUptoRow.holds Try.pinned (OpenSpec.upto fnExactPartOfFrameSpec)

/-- 'laws.FnExactVariablesOf', WHERE WHAT IT READS IS OF BULK AT MOST 1048576: true; the input reads as it did. -/
def fnExactVariablesOfUptoRow : OpenClaim := { program := "ytjfhfnfbpanhaaa", sum := "604857a37f0a5476329b3be103b0ae997b3cb804fb18c1cb527b9a7ba5e397e0", func := "loop.example/g01089/laws.FnExactVariablesOf", spec := "fnExactVariablesOf", recurses := true, apart := false, narrowed := true }
def FnExactVariablesOfUptoSaid : Prop := fnExactVariablesOfUptoRow.holds Try.pinned (OpenSpec.upto fnExactVariablesOfSpec)

end Rows
end Go.Proofs.Ytjfhfnfbpanhaaa
