/-
  No cell of these rows narrows 'for every input' (looked for: loops, veiled, ifaces, maps, wideKeys, modest, calm, conditions, laid).
  DERIVED. THE GIVEN ROWS OF THIS SEAT. 12 by the template 'for every input the law returns true; each argument reads behind the call as it read before'; 0 by the template 'total and deterministic' (their statements: YtbhgedabcclimaaTotals.lean).
  GIVEN WITH THE SEED: the statements are not yours to turn. If you find one false, say at which input.
  Laid BY PROGRAM, IN A SANDBOX (cutbox-rows.mjs): the forced cells as the released guide's own fill.sh prints them over the translation 1378ed184a61e126… (all of the seat's roots in one cut). By AI agents, Wed Nov 11 2026. No macro, syntax, notation, axiom, sorry.
-/
import Derived.Test.YtbhgedabcclimaaChecked
import GoSem.Claim
import GoSem.ClaimJoined
import GoSem.ClaimMapViews
import Derived.JoinedTies
import Derived.KernelRfl
namespace Go.Proofs.Ytbhgedabcclimaa
/- THE CELL 'sum', in the pinned program and in every row, IS THE sha256 OF THE DUMP (.gsa) THAT YtbhgedabcclimaaProg.lean LOADS. Nothing in Lean hashes anything: it is a label: what it is worth is what the hold of that sum in a sandbox is worth. -/
noncomputable def Try.pinned : Pinned := { name := "ytbhgedabcclimaa", sum := "1378ed184a61e126be9cd139853903976f757c22ea45c4e74749eebc8b9d704c", checked := Try.checked }
namespace Rows
def none {H : Type} : Left H := { results := [], args := [] }

/-- 'laws.FnExactSubstituteFormula': WHATEVER THE INPUT: true; the input reads as it did. -/
def fnExactSubstituteFormulaSpec : ChangeSpec := { name := "fnExactSubstituteFormula", fn := fun _ => fun
  | [d1, d2] => { results := [.lit (.bool true)], args := [d1, d2] }
  | _ => none }
def fnExactSubstituteFormulaRow : OpenClaim := { program := "ytbhgedabcclimaa", sum := "1378ed184a61e126be9cd139853903976f757c22ea45c4e74749eebc8b9d704c", func := "loop.example/g01089/laws.FnExactSubstituteFormula", spec := "fnExactSubstituteFormula", unfollowed := true, recurses := true, apart := false }
def FnExactSubstituteFormulaSaid : Prop := fnExactSubstituteFormulaRow.holds Try.pinned (OpenSpec.ofChange fnExactSubstituteFormulaSpec)

/-- ITS FALSE NEIGHBOUR: 'it returns false'. Refute it at one input. -/
def fnExactSubstituteFormulaWrong : ChangeSpec := { name := "fnExactSubstituteFormula", fn := fun _ => fun
  | [d1, d2] => { results := [.lit (.bool false)], args := [d1, d2] }
  | _ => none }
def FnExactSubstituteFormulaWrongFalsely : Prop := fnExactSubstituteFormulaRow.holds Try.pinned (OpenSpec.ofChange fnExactSubstituteFormulaWrong)

/-- 'laws.FnExactReplaceVariable': WHATEVER THE INPUT: true; the input reads as it did. -/
def fnExactReplaceVariableSpec : ChangeSpec := { name := "fnExactReplaceVariable", fn := fun _ => fun
  | [d1, d2, d3] => { results := [.lit (.bool true)], args := [d1, d2, d3] }
  | _ => none }
def fnExactReplaceVariableRow : OpenClaim := { program := "ytbhgedabcclimaa", sum := "1378ed184a61e126be9cd139853903976f757c22ea45c4e74749eebc8b9d704c", func := "loop.example/g01089/laws.FnExactReplaceVariable", spec := "fnExactReplaceVariable", unfollowed := true, recurses := true, apart := false }
def FnExactReplaceVariableSaid : Prop := fnExactReplaceVariableRow.holds Try.pinned (OpenSpec.ofChange fnExactReplaceVariableSpec)

/-- ITS FALSE NEIGHBOUR: 'it returns false'. Refute it at one input. -/
def fnExactReplaceVariableWrong : ChangeSpec := { name := "fnExactReplaceVariable", fn := fun _ => fun
  | [d1, d2, d3] => { results := [.lit (.bool false)], args := [d1, d2, d3] }
  | _ => none }
def FnExactReplaceVariableWrongFalsely : Prop := fnExactReplaceVariableRow.holds Try.pinned (OpenSpec.ofChange fnExactReplaceVariableWrong)

/-- 'laws.FnExactComposeSubstitutions': WHATEVER THE INPUT: true; the input reads as it did. -/
def fnExactComposeSubstitutionsSpec : ChangeSpec := { name := "fnExactComposeSubstitutions", fn := fun _ => fun
  | [d1, d2] => { results := [.lit (.bool true)], args := [d1, d2] }
  | _ => none }
def fnExactComposeSubstitutionsRow : OpenClaim := { program := "ytbhgedabcclimaa", sum := "1378ed184a61e126be9cd139853903976f757c22ea45c4e74749eebc8b9d704c", func := "loop.example/g01089/laws.FnExactComposeSubstitutions", spec := "fnExactComposeSubstitutions", unfollowed := true, recurses := true, apart := false }
def FnExactComposeSubstitutionsSaid : Prop := fnExactComposeSubstitutionsRow.holds Try.pinned (OpenSpec.ofChange fnExactComposeSubstitutionsSpec)

/-- ITS FALSE NEIGHBOUR: 'it returns false'. Refute it at one input. -/
def fnExactComposeSubstitutionsWrong : ChangeSpec := { name := "fnExactComposeSubstitutions", fn := fun _ => fun
  | [d1, d2] => { results := [.lit (.bool false)], args := [d1, d2] }
  | _ => none }
def FnExactComposeSubstitutionsWrongFalsely : Prop := fnExactComposeSubstitutionsRow.holds Try.pinned (OpenSpec.ofChange fnExactComposeSubstitutionsWrong)

/-- 'laws.FnExactMatchFormula': WHATEVER THE INPUT: true; the input reads as it did. -/
def fnExactMatchFormulaSpec : ChangeSpec := { name := "fnExactMatchFormula", fn := fun _ => fun
  | [d1, d2] => { results := [.lit (.bool true)], args := [d1, d2] }
  | _ => none }
def fnExactMatchFormulaRow : OpenClaim := { program := "ytbhgedabcclimaa", sum := "1378ed184a61e126be9cd139853903976f757c22ea45c4e74749eebc8b9d704c", func := "loop.example/g01089/laws.FnExactMatchFormula", spec := "fnExactMatchFormula", unfollowed := true, recurses := true, apart := false }
def FnExactMatchFormulaSaid : Prop := fnExactMatchFormulaRow.holds Try.pinned (OpenSpec.ofChange fnExactMatchFormulaSpec)

/-- ITS FALSE NEIGHBOUR: 'it returns false'. Refute it at one input. -/
def fnExactMatchFormulaWrong : ChangeSpec := { name := "fnExactMatchFormula", fn := fun _ => fun
  | [d1, d2] => { results := [.lit (.bool false)], args := [d1, d2] }
  | _ => none }
def FnExactMatchFormulaWrongFalsely : Prop := fnExactMatchFormulaRow.holds Try.pinned (OpenSpec.ofChange fnExactMatchFormulaWrong)

/-- 'laws.FnExactUnifyFormulas': WHATEVER THE INPUT: true; the input reads as it did. -/
def fnExactUnifyFormulasSpec : ChangeSpec := { name := "fnExactUnifyFormulas", fn := fun _ => fun
  | [d1, d2] => { results := [.lit (.bool true)], args := [d1, d2] }
  | _ => none }
def fnExactUnifyFormulasRow : OpenClaim := { program := "ytbhgedabcclimaa", sum := "1378ed184a61e126be9cd139853903976f757c22ea45c4e74749eebc8b9d704c", func := "loop.example/g01089/laws.FnExactUnifyFormulas", spec := "fnExactUnifyFormulas", unfollowed := true, recurses := true, apart := false }
def FnExactUnifyFormulasSaid : Prop := fnExactUnifyFormulasRow.holds Try.pinned (OpenSpec.ofChange fnExactUnifyFormulasSpec)

/-- ITS FALSE NEIGHBOUR: 'it returns false'. Refute it at one input. -/
def fnExactUnifyFormulasWrong : ChangeSpec := { name := "fnExactUnifyFormulas", fn := fun _ => fun
  | [d1, d2] => { results := [.lit (.bool false)], args := [d1, d2] }
  | _ => none }
def FnExactUnifyFormulasWrongFalsely : Prop := fnExactUnifyFormulasRow.holds Try.pinned (OpenSpec.ofChange fnExactUnifyFormulasWrong)

/-- 'laws.FnExactNodePolarity': WHATEVER THE INPUT: true; the input reads as it did. -/
def fnExactNodePolaritySpec : ChangeSpec := { name := "fnExactNodePolarity", fn := fun _ => fun
  | [d1, d2] => { results := [.lit (.bool true)], args := [d1, d2] }
  | _ => none }
def fnExactNodePolarityRow : OpenClaim := { program := "ytbhgedabcclimaa", sum := "1378ed184a61e126be9cd139853903976f757c22ea45c4e74749eebc8b9d704c", func := "loop.example/g01089/laws.FnExactNodePolarity", spec := "fnExactNodePolarity", unfollowed := true, recurses := true, apart := false }
def FnExactNodePolaritySaid : Prop := fnExactNodePolarityRow.holds Try.pinned (OpenSpec.ofChange fnExactNodePolaritySpec)

/-- ITS FALSE NEIGHBOUR: 'it returns false'. Refute it at one input. -/
def fnExactNodePolarityWrong : ChangeSpec := { name := "fnExactNodePolarity", fn := fun _ => fun
  | [d1, d2] => { results := [.lit (.bool false)], args := [d1, d2] }
  | _ => none }
def FnExactNodePolarityWrongFalsely : Prop := fnExactNodePolarityRow.holds Try.pinned (OpenSpec.ofChange fnExactNodePolarityWrong)

/-- 'laws.FnExactVariablePolarity': WHATEVER THE INPUT: true; the input reads as it did. -/
def fnExactVariablePolaritySpec : ChangeSpec := { name := "fnExactVariablePolarity", fn := fun _ => fun
  | [d1, d2] => { results := [.lit (.bool true)], args := [d1, d2] }
  | _ => none }
def fnExactVariablePolarityRow : OpenClaim := { program := "ytbhgedabcclimaa", sum := "1378ed184a61e126be9cd139853903976f757c22ea45c4e74749eebc8b9d704c", func := "loop.example/g01089/laws.FnExactVariablePolarity", spec := "fnExactVariablePolarity", unfollowed := true, recurses := true, apart := false }
def FnExactVariablePolaritySaid : Prop := fnExactVariablePolarityRow.holds Try.pinned (OpenSpec.ofChange fnExactVariablePolaritySpec)

/-- ITS FALSE NEIGHBOUR: 'it returns false'. Refute it at one input. -/
def fnExactVariablePolarityWrong : ChangeSpec := { name := "fnExactVariablePolarity", fn := fun _ => fun
  | [d1, d2] => { results := [.lit (.bool false)], args := [d1, d2] }
  | _ => none }
def FnExactVariablePolarityWrongFalsely : Prop := fnExactVariablePolarityRow.holds Try.pinned (OpenSpec.ofChange fnExactVariablePolarityWrong)

/-- 'laws.FnExactIsGuarded': WHATEVER THE INPUT: true; the input reads as it did. -/
def fnExactIsGuardedSpec : ChangeSpec := { name := "fnExactIsGuarded", fn := fun _ => fun
  | [d1, d2] => { results := [.lit (.bool true)], args := [d1, d2] }
  | _ => none }
def fnExactIsGuardedRow : OpenClaim := { program := "ytbhgedabcclimaa", sum := "1378ed184a61e126be9cd139853903976f757c22ea45c4e74749eebc8b9d704c", func := "loop.example/g01089/laws.FnExactIsGuarded", spec := "fnExactIsGuarded", unfollowed := true, recurses := true, apart := false }
def FnExactIsGuardedSaid : Prop := fnExactIsGuardedRow.holds Try.pinned (OpenSpec.ofChange fnExactIsGuardedSpec)

/-- ITS FALSE NEIGHBOUR: 'it returns false'. Refute it at one input. -/
def fnExactIsGuardedWrong : ChangeSpec := { name := "fnExactIsGuarded", fn := fun _ => fun
  | [d1, d2] => { results := [.lit (.bool false)], args := [d1, d2] }
  | _ => none }
def FnExactIsGuardedWrongFalsely : Prop := fnExactIsGuardedRow.holds Try.pinned (OpenSpec.ofChange fnExactIsGuardedWrong)

/-- 'laws.FnExactReplacePart': WHATEVER THE INPUT: true; the input reads as it did. -/
def fnExactReplacePartSpec : ChangeSpec := { name := "fnExactReplacePart", fn := fun _ => fun
  | [d1, d2, d3] => { results := [.lit (.bool true)], args := [d1, d2, d3] }
  | _ => none }
def fnExactReplacePartRow : OpenClaim := { program := "ytbhgedabcclimaa", sum := "1378ed184a61e126be9cd139853903976f757c22ea45c4e74749eebc8b9d704c", func := "loop.example/g01089/laws.FnExactReplacePart", spec := "fnExactReplacePart", unfollowed := true, recurses := true, apart := false }
def FnExactReplacePartSaid : Prop := fnExactReplacePartRow.holds Try.pinned (OpenSpec.ofChange fnExactReplacePartSpec)

/-- ITS FALSE NEIGHBOUR: 'it returns false'. Refute it at one input. -/
def fnExactReplacePartWrong : ChangeSpec := { name := "fnExactReplacePart", fn := fun _ => fun
  | [d1, d2, d3] => { results := [.lit (.bool false)], args := [d1, d2, d3] }
  | _ => none }
def FnExactReplacePartWrongFalsely : Prop := fnExactReplacePartRow.holds Try.pinned (OpenSpec.ofChange fnExactReplacePartWrong)

/-- 'laws.FnExactOccurrencesOf': WHATEVER THE INPUT: true; the input reads as it did. -/
def fnExactOccurrencesOfSpec : ChangeSpec := { name := "fnExactOccurrencesOf", fn := fun _ => fun
  | [d1, d2] => { results := [.lit (.bool true)], args := [d1, d2] }
  | _ => none }
def fnExactOccurrencesOfRow : OpenClaim := { program := "ytbhgedabcclimaa", sum := "1378ed184a61e126be9cd139853903976f757c22ea45c4e74749eebc8b9d704c", func := "loop.example/g01089/laws.FnExactOccurrencesOf", spec := "fnExactOccurrencesOf", unfollowed := true, recurses := true, apart := false }
def FnExactOccurrencesOfSaid : Prop := fnExactOccurrencesOfRow.holds Try.pinned (OpenSpec.ofChange fnExactOccurrencesOfSpec)

/-- ITS FALSE NEIGHBOUR: 'it returns false'. Refute it at one input. -/
def fnExactOccurrencesOfWrong : ChangeSpec := { name := "fnExactOccurrencesOf", fn := fun _ => fun
  | [d1, d2] => { results := [.lit (.bool false)], args := [d1, d2] }
  | _ => none }
def FnExactOccurrencesOfWrongFalsely : Prop := fnExactOccurrencesOfRow.holds Try.pinned (OpenSpec.ofChange fnExactOccurrencesOfWrong)

/-- 'laws.FnExactNegationNormal': WHATEVER THE INPUT: true; the input reads as it did. -/
def fnExactNegationNormalSpec : ChangeSpec := { name := "fnExactNegationNormal", fn := fun _ => fun
  | [d1, d2] => { results := [.lit (.bool true)], args := [d1, d2] }
  | _ => none }
def fnExactNegationNormalRow : OpenClaim := { program := "ytbhgedabcclimaa", sum := "1378ed184a61e126be9cd139853903976f757c22ea45c4e74749eebc8b9d704c", func := "loop.example/g01089/laws.FnExactNegationNormal", spec := "fnExactNegationNormal", unfollowed := true, recurses := true, apart := false }
def FnExactNegationNormalSaid : Prop := fnExactNegationNormalRow.holds Try.pinned (OpenSpec.ofChange fnExactNegationNormalSpec)

/-- ITS FALSE NEIGHBOUR: 'it returns false'. Refute it at one input. -/
def fnExactNegationNormalWrong : ChangeSpec := { name := "fnExactNegationNormal", fn := fun _ => fun
  | [d1, d2] => { results := [.lit (.bool false)], args := [d1, d2] }
  | _ => none }
def FnExactNegationNormalWrongFalsely : Prop := fnExactNegationNormalRow.holds Try.pinned (OpenSpec.ofChange fnExactNegationNormalWrong)

/-- 'laws.FnSubstitutions': WHATEVER THE INPUT: true; the input reads as it did. -/
def fnSubstitutionsSpec : ChangeSpec := { name := "fnSubstitutions", fn := fun _ => fun
  | [d] => { results := [.lit (.bool true)], args := [d] }
  | _ => none }
def fnSubstitutionsRow : OpenClaim := { program := "ytbhgedabcclimaa", sum := "1378ed184a61e126be9cd139853903976f757c22ea45c4e74749eebc8b9d704c", func := "loop.example/g01089/laws.FnSubstitutions", spec := "fnSubstitutions", unfollowed := true, recurses := true, apart := false }
def FnSubstitutionsSaid : Prop := fnSubstitutionsRow.holds Try.pinned (OpenSpec.ofChange fnSubstitutionsSpec)

/-- ITS FALSE NEIGHBOUR: 'it returns false'. Refute it at one input. -/
def fnSubstitutionsWrong : ChangeSpec := { name := "fnSubstitutions", fn := fun _ => fun
  | [d] => { results := [.lit (.bool false)], args := [d] }
  | _ => none }
def FnSubstitutionsWrongFalsely : Prop := fnSubstitutionsRow.holds Try.pinned (OpenSpec.ofChange fnSubstitutionsWrong)

/- THE SECOND FORM. 'bulk': how many values and letters a reading holds, each counted each time it is reached (what is shared counts as often as it is met; a slice's spare places count too). A statement '..UptoSaid' is the law's where the arguments, and the package variables that the reading takes, are together of bulk at most 1048576: NARROWER than '..Said'. Prove '..Said' where nothing that the law and all that it calls make is longer than what came in: it says more and counts as full. Else prove '..UptoSaid'. A law counts once. -/
mutual
def uptoBulk {H : Type} : DataW H → Nat
  | .lit (.string bytes) => bytes.length + 1
  | .lit _ => 1
  | .nil => 1
  | .ptr d => uptoBulk d + 1
  | .slice elems spare => uptoBulkAll elems + uptoBulkAll spare + 1
  | .agg parts => uptoBulkAll parts + 1
  | .iface _ d => uptoBulk d + 1
  | .map entries => uptoBulkEntries entries + 1
  | .held _ => 1
def uptoBulkAll {H : Type} : List (DataW H) → Nat
  | [] => 0
  | d :: r => uptoBulk d + uptoBulkAll r
def uptoBulkEntries {H : Type} : List (Lit × DataW H) → Nat
  | [] => 0
  | x :: r => uptoBulkEntry x + uptoBulkEntries r
def uptoBulkEntry {H : Type} : Lit × DataW H → Nat
  | (.string bytes, d) => bytes.length + uptoBulk d + 1
  | (_, d) => uptoBulk d + 1
 end
def uptoSmall : (H : Type) → List (DataW H) → Bool := fun _ ds => decide (uptoBulkAll ds ≤ 1048576)
def OpenSpec.upto (s : _root_.Go.ChangeSpec) : _root_.Go.OpenSpec := { _root_.Go.OpenSpec.ofChange s with cond := some uptoSmall }

/-- 'laws.FnExactSubstituteFormula', WHERE WHAT IT READS IS OF BULK AT MOST 1048576: true; the input reads as it did. -/
def fnExactSubstituteFormulaUptoRow : OpenClaim := { program := "ytbhgedabcclimaa", sum := "1378ed184a61e126be9cd139853903976f757c22ea45c4e74749eebc8b9d704c", func := "loop.example/g01089/laws.FnExactSubstituteFormula", spec := "fnExactSubstituteFormula", unfollowed := true, recurses := true, apart := false, narrowed := true }
def FnExactSubstituteFormulaUptoSaid : Prop := fnExactSubstituteFormulaUptoRow.holds Try.pinned (OpenSpec.upto fnExactSubstituteFormulaSpec)

/-- 'laws.FnExactReplaceVariable', WHERE WHAT IT READS IS OF BULK AT MOST 1048576: true; the input reads as it did. -/
def fnExactReplaceVariableUptoRow : OpenClaim := { program := "ytbhgedabcclimaa", sum := "1378ed184a61e126be9cd139853903976f757c22ea45c4e74749eebc8b9d704c", func := "loop.example/g01089/laws.FnExactReplaceVariable", spec := "fnExactReplaceVariable", unfollowed := true, recurses := true, apart := false, narrowed := true }
def FnExactReplaceVariableUptoSaid : Prop := fnExactReplaceVariableUptoRow.holds Try.pinned (OpenSpec.upto fnExactReplaceVariableSpec)

/-- 'laws.FnExactComposeSubstitutions', WHERE WHAT IT READS IS OF BULK AT MOST 1048576: true; the input reads as it did. -/
def fnExactComposeSubstitutionsUptoRow : OpenClaim := { program := "ytbhgedabcclimaa", sum := "1378ed184a61e126be9cd139853903976f757c22ea45c4e74749eebc8b9d704c", func := "loop.example/g01089/laws.FnExactComposeSubstitutions", spec := "fnExactComposeSubstitutions", unfollowed := true, recurses := true, apart := false, narrowed := true }
def FnExactComposeSubstitutionsUptoSaid : Prop := fnExactComposeSubstitutionsUptoRow.holds Try.pinned (OpenSpec.upto fnExactComposeSubstitutionsSpec)

/-- 'laws.FnExactMatchFormula', WHERE WHAT IT READS IS OF BULK AT MOST 1048576: true; the input reads as it did. -/
def fnExactMatchFormulaUptoRow : OpenClaim := { program := "ytbhgedabcclimaa", sum := "1378ed184a61e126be9cd139853903976f757c22ea45c4e74749eebc8b9d704c", func := "loop.example/g01089/laws.FnExactMatchFormula", spec := "fnExactMatchFormula", unfollowed := true, recurses := true, apart := false, narrowed := true }
def FnExactMatchFormulaUptoSaid : Prop := fnExactMatchFormulaUptoRow.holds Try.pinned (OpenSpec.upto fnExactMatchFormulaSpec)

/-- 'laws.FnExactUnifyFormulas', WHERE WHAT IT READS IS OF BULK AT MOST 1048576: true; the input reads as it did. -/
def fnExactUnifyFormulasUptoRow : OpenClaim := { program := "ytbhgedabcclimaa", sum := "1378ed184a61e126be9cd139853903976f757c22ea45c4e74749eebc8b9d704c", func := "loop.example/g01089/laws.FnExactUnifyFormulas", spec := "fnExactUnifyFormulas", unfollowed := true, recurses := true, apart := false, narrowed := true }
def FnExactUnifyFormulasUptoSaid : Prop := fnExactUnifyFormulasUptoRow.holds Try.pinned (OpenSpec.upto fnExactUnifyFormulasSpec)

/-- 'laws.FnExactNodePolarity', WHERE WHAT IT READS IS OF BULK AT MOST 1048576: true; the input reads as it did. -/
def fnExactNodePolarityUptoRow : OpenClaim := { program := "ytbhgedabcclimaa", sum := "1378ed184a61e126be9cd139853903976f757c22ea45c4e74749eebc8b9d704c", func := "loop.example/g01089/laws.FnExactNodePolarity", spec := "fnExactNodePolarity", unfollowed := true, recurses := true, apart := false, narrowed := true }
def FnExactNodePolarityUptoSaid : Prop := fnExactNodePolarityUptoRow.holds Try.pinned (OpenSpec.upto fnExactNodePolaritySpec)

/-- 'laws.FnExactVariablePolarity', WHERE WHAT IT READS IS OF BULK AT MOST 1048576: true; the input reads as it did. -/
def fnExactVariablePolarityUptoRow : OpenClaim := { program := "ytbhgedabcclimaa", sum := "1378ed184a61e126be9cd139853903976f757c22ea45c4e74749eebc8b9d704c", func := "loop.example/g01089/laws.FnExactVariablePolarity", spec := "fnExactVariablePolarity", unfollowed := true, recurses := true, apart := false, narrowed := true }
def FnExactVariablePolarityUptoSaid : Prop := fnExactVariablePolarityUptoRow.holds Try.pinned (OpenSpec.upto fnExactVariablePolaritySpec)

/-- 'laws.FnExactIsGuarded', WHERE WHAT IT READS IS OF BULK AT MOST 1048576: true; the input reads as it did. -/
def fnExactIsGuardedUptoRow : OpenClaim := { program := "ytbhgedabcclimaa", sum := "1378ed184a61e126be9cd139853903976f757c22ea45c4e74749eebc8b9d704c", func := "loop.example/g01089/laws.FnExactIsGuarded", spec := "fnExactIsGuarded", unfollowed := true, recurses := true, apart := false, narrowed := true }
def FnExactIsGuardedUptoSaid : Prop := fnExactIsGuardedUptoRow.holds Try.pinned (OpenSpec.upto fnExactIsGuardedSpec)

/-- 'laws.FnExactReplacePart', WHERE WHAT IT READS IS OF BULK AT MOST 1048576: true; the input reads as it did. -/
def fnExactReplacePartUptoRow : OpenClaim := { program := "ytbhgedabcclimaa", sum := "1378ed184a61e126be9cd139853903976f757c22ea45c4e74749eebc8b9d704c", func := "loop.example/g01089/laws.FnExactReplacePart", spec := "fnExactReplacePart", unfollowed := true, recurses := true, apart := false, narrowed := true }
def FnExactReplacePartUptoSaid : Prop := fnExactReplacePartUptoRow.holds Try.pinned (OpenSpec.upto fnExactReplacePartSpec)

/-- 'laws.FnExactOccurrencesOf', WHERE WHAT IT READS IS OF BULK AT MOST 1048576: true; the input reads as it did. -/
def fnExactOccurrencesOfUptoRow : OpenClaim := { program := "ytbhgedabcclimaa", sum := "1378ed184a61e126be9cd139853903976f757c22ea45c4e74749eebc8b9d704c", func := "loop.example/g01089/laws.FnExactOccurrencesOf", spec := "fnExactOccurrencesOf", unfollowed := true, recurses := true, apart := false, narrowed := true }
def FnExactOccurrencesOfUptoSaid : Prop := fnExactOccurrencesOfUptoRow.holds Try.pinned (OpenSpec.upto fnExactOccurrencesOfSpec)

/-- 'laws.FnExactNegationNormal', WHERE WHAT IT READS IS OF BULK AT MOST 1048576: true; the input reads as it did. -/
def fnExactNegationNormalUptoRow : OpenClaim := { program := "ytbhgedabcclimaa", sum := "1378ed184a61e126be9cd139853903976f757c22ea45c4e74749eebc8b9d704c", func := "loop.example/g01089/laws.FnExactNegationNormal", spec := "fnExactNegationNormal", unfollowed := true, recurses := true, apart := false, narrowed := true }
def FnExactNegationNormalUptoSaid : Prop := fnExactNegationNormalUptoRow.holds Try.pinned (OpenSpec.upto fnExactNegationNormalSpec)

/-- 'laws.FnSubstitutions', WHERE WHAT IT READS IS OF BULK AT MOST 1048576: true; the input reads as it did. -/
def fnSubstitutionsUptoRow : OpenClaim := { program := "ytbhgedabcclimaa", sum := "1378ed184a61e126be9cd139853903976f757c22ea45c4e74749eebc8b9d704c", func := "loop.example/g01089/laws.FnSubstitutions", spec := "fnSubstitutions", unfollowed := true, recurses := true, apart := false, narrowed := true }
def FnSubstitutionsUptoSaid : Prop := fnSubstitutionsUptoRow.holds Try.pinned (OpenSpec.upto fnSubstitutionsSpec)

end Rows
end Go.Proofs.Ytbhgedabcclimaa
