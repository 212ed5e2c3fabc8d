/-
  No cell of these rows narrows 'for every input' (looked for: loops, veiled, ifaces, maps, wideKeys, modest, calm, conditions, laid).
  DERIVED. THE GIVEN ROWS OF THIS SEAT. 12 by the template 'for every input the law returns true; each argument reads behind the call as it read before'; 0 by the template 'total and deterministic' (their statements: YtegdbcdffnopfaaTotals.lean).
  GIVEN WITH THE SEED: the statements are not yours to turn. If you find one false, say at which input.
  Laid BY PROGRAM, IN A SANDBOX (cutbox-rows.mjs): the forced cells as the released guide's own fill.sh prints them over the translation f997c88fd05f7a87… (all of the seat's roots in one cut). By AI agents, Wed Nov 11 2026. No macro, syntax, notation, axiom, sorry.
-/
import Derived.Test.YtegdbcdffnopfaaChecked
import GoSem.Claim
import GoSem.ClaimJoined
import GoSem.ClaimMapViews
import Derived.JoinedTies
import Derived.KernelRfl
namespace Go.Proofs.Ytegdbcdffnopfaa
/- THE CELL 'sum', in the pinned program and in every row, IS THE sha256 OF THE DUMP (.gsa) THAT YtegdbcdffnopfaaProg.lean LOADS. Nothing in Lean hashes anything: it is a label: what it is worth is what the hold of that sum in a sandbox is worth. -/
noncomputable def Try.pinned : Pinned := { name := "ytegdbcdffnopfaa", sum := "f997c88fd05f7a8760824bf60294092d1be3b0336711ef6583a6d2c916c65e22", checked := Try.checked }
namespace Rows
def none {H : Type} : Left H := { results := [], args := [] }

/-- 'laws.FnExactFormulaText': WHATEVER THE INPUT: true; the input reads as it did. -/
def fnExactFormulaTextSpec : ChangeSpec := { name := "fnExactFormulaText", fn := fun _ => fun
  | [d] => { results := [.lit (.bool true)], args := [d] }
  | _ => none }
def fnExactFormulaTextRow : OpenClaim := { program := "ytegdbcdffnopfaa", sum := "f997c88fd05f7a8760824bf60294092d1be3b0336711ef6583a6d2c916c65e22", func := "loop.example/g01089/laws.FnExactFormulaText", spec := "fnExactFormulaText", unfollowed := true, recurses := true, apart := false }
def FnExactFormulaTextSaid : Prop := fnExactFormulaTextRow.holds Try.pinned (OpenSpec.ofChange fnExactFormulaTextSpec)

/-- ITS FALSE NEIGHBOUR: 'it returns false'. Refute it at one input. -/
def fnExactFormulaTextWrong : ChangeSpec := { name := "fnExactFormulaText", fn := fun _ => fun
  | [d] => { results := [.lit (.bool false)], args := [d] }
  | _ => none }
def FnExactFormulaTextWrongFalsely : Prop := fnExactFormulaTextRow.holds Try.pinned (OpenSpec.ofChange fnExactFormulaTextWrong)

/-- 'laws.FnExactPartEnd': WHATEVER THE INPUT: true; the input reads as it did. -/
def fnExactPartEndSpec : ChangeSpec := { name := "fnExactPartEnd", fn := fun _ => fun
  | [d1, d2] => { results := [.lit (.bool true)], args := [d1, d2] }
  | _ => none }
def fnExactPartEndRow : OpenClaim := { program := "ytegdbcdffnopfaa", sum := "f997c88fd05f7a8760824bf60294092d1be3b0336711ef6583a6d2c916c65e22", func := "loop.example/g01089/laws.FnExactPartEnd", spec := "fnExactPartEnd", unfollowed := true, recurses := true, apart := false }
def FnExactPartEndSaid : Prop := fnExactPartEndRow.holds Try.pinned (OpenSpec.ofChange fnExactPartEndSpec)

/-- ITS FALSE NEIGHBOUR: 'it returns false'. Refute it at one input. -/
def fnExactPartEndWrong : ChangeSpec := { name := "fnExactPartEnd", fn := fun _ => fun
  | [d1, d2] => { results := [.lit (.bool false)], args := [d1, d2] }
  | _ => none }
def FnExactPartEndWrongFalsely : Prop := fnExactPartEndRow.holds Try.pinned (OpenSpec.ofChange fnExactPartEndWrong)

/-- 'laws.FnExactCompareFormulas': WHATEVER THE INPUT: true; the input reads as it did. -/
def fnExactCompareFormulasSpec : ChangeSpec := { name := "fnExactCompareFormulas", fn := fun _ => fun
  | [d1, d2] => { results := [.lit (.bool true)], args := [d1, d2] }
  | _ => none }
def fnExactCompareFormulasRow : OpenClaim := { program := "ytegdbcdffnopfaa", sum := "f997c88fd05f7a8760824bf60294092d1be3b0336711ef6583a6d2c916c65e22", func := "loop.example/g01089/laws.FnExactCompareFormulas", spec := "fnExactCompareFormulas", inPlace := ["internal/bytealg.abigen_runtime_cmpstring"], unfollowed := true, recurses := true, apart := false }
def FnExactCompareFormulasSaid : Prop := fnExactCompareFormulasRow.holds Try.pinned (OpenSpec.ofChange fnExactCompareFormulasSpec)

/-- ITS FALSE NEIGHBOUR: 'it returns false'. Refute it at one input. -/
def fnExactCompareFormulasWrong : ChangeSpec := { name := "fnExactCompareFormulas", fn := fun _ => fun
  | [d1, d2] => { results := [.lit (.bool false)], args := [d1, d2] }
  | _ => none }
def FnExactCompareFormulasWrongFalsely : Prop := fnExactCompareFormulasRow.holds Try.pinned (OpenSpec.ofChange fnExactCompareFormulasWrong)

/-- 'laws.FnExactNotFormula': WHATEVER THE INPUT: true; the input reads as it did. -/
def fnExactNotFormulaSpec : ChangeSpec := { name := "fnExactNotFormula", fn := fun _ => fun
  | [d] => { results := [.lit (.bool true)], args := [d] }
  | _ => none }
def fnExactNotFormulaRow : OpenClaim := { program := "ytegdbcdffnopfaa", sum := "f997c88fd05f7a8760824bf60294092d1be3b0336711ef6583a6d2c916c65e22", func := "loop.example/g01089/laws.FnExactNotFormula", spec := "fnExactNotFormula", unfollowed := true, recurses := true, apart := false }
def FnExactNotFormulaSaid : Prop := fnExactNotFormulaRow.holds Try.pinned (OpenSpec.ofChange fnExactNotFormulaSpec)

/-- ITS FALSE NEIGHBOUR: 'it returns false'. Refute it at one input. -/
def fnExactNotFormulaWrong : ChangeSpec := { name := "fnExactNotFormula", fn := fun _ => fun
  | [d] => { results := [.lit (.bool false)], args := [d] }
  | _ => none }
def FnExactNotFormulaWrongFalsely : Prop := fnExactNotFormulaRow.holds Try.pinned (OpenSpec.ofChange fnExactNotFormulaWrong)

/-- 'laws.FnExactJoinFormulas': WHATEVER THE INPUT: true; the input reads as it did. -/
def fnExactJoinFormulasSpec : ChangeSpec := { name := "fnExactJoinFormulas", fn := fun _ => fun
  | [d1, d2, d3] => { results := [.lit (.bool true)], args := [d1, d2, d3] }
  | _ => none }
def fnExactJoinFormulasRow : OpenClaim := { program := "ytegdbcdffnopfaa", sum := "f997c88fd05f7a8760824bf60294092d1be3b0336711ef6583a6d2c916c65e22", func := "loop.example/g01089/laws.FnExactJoinFormulas", spec := "fnExactJoinFormulas", unfollowed := true, recurses := true, apart := false }
def FnExactJoinFormulasSaid : Prop := fnExactJoinFormulasRow.holds Try.pinned (OpenSpec.ofChange fnExactJoinFormulasSpec)

/-- ITS FALSE NEIGHBOUR: 'it returns false'. Refute it at one input. -/
def fnExactJoinFormulasWrong : ChangeSpec := { name := "fnExactJoinFormulas", fn := fun _ => fun
  | [d1, d2, d3] => { results := [.lit (.bool false)], args := [d1, d2, d3] }
  | _ => none }
def FnExactJoinFormulasWrongFalsely : Prop := fnExactJoinFormulasRow.holds Try.pinned (OpenSpec.ofChange fnExactJoinFormulasWrong)

/-- 'laws.FnExactPrefixFormula': WHATEVER THE INPUT: true; the input reads as it did. -/
def fnExactPrefixFormulaSpec : ChangeSpec := { name := "fnExactPrefixFormula", fn := fun _ => fun
  | [d1, d2] => { results := [.lit (.bool true)], args := [d1, d2] }
  | _ => none }
def fnExactPrefixFormulaRow : OpenClaim := { program := "ytegdbcdffnopfaa", sum := "f997c88fd05f7a8760824bf60294092d1be3b0336711ef6583a6d2c916c65e22", func := "loop.example/g01089/laws.FnExactPrefixFormula", spec := "fnExactPrefixFormula", unfollowed := true, recurses := true, apart := false }
def FnExactPrefixFormulaSaid : Prop := fnExactPrefixFormulaRow.holds Try.pinned (OpenSpec.ofChange fnExactPrefixFormulaSpec)

/-- ITS FALSE NEIGHBOUR: 'it returns false'. Refute it at one input. -/
def fnExactPrefixFormulaWrong : ChangeSpec := { name := "fnExactPrefixFormula", fn := fun _ => fun
  | [d1, d2] => { results := [.lit (.bool false)], args := [d1, d2] }
  | _ => none }
def FnExactPrefixFormulaWrongFalsely : Prop := fnExactPrefixFormulaRow.holds Try.pinned (OpenSpec.ofChange fnExactPrefixFormulaWrong)

/-- 'laws.FnExactVariablesOf': WHATEVER THE INPUT: true; the input reads as it did. -/
def fnExactVariablesOfSpec : ChangeSpec := { name := "fnExactVariablesOf", fn := fun _ => fun
  | [d] => { results := [.lit (.bool true)], args := [d] }
  | _ => none }
def fnExactVariablesOfRow : OpenClaim := { program := "ytegdbcdffnopfaa", sum := "f997c88fd05f7a8760824bf60294092d1be3b0336711ef6583a6d2c916c65e22", func := "loop.example/g01089/laws.FnExactVariablesOf", spec := "fnExactVariablesOf", unfollowed := true, recurses := true, apart := false }
def FnExactVariablesOfSaid : Prop := fnExactVariablesOfRow.holds Try.pinned (OpenSpec.ofChange fnExactVariablesOfSpec)

/-- ITS FALSE NEIGHBOUR: 'it returns false'. Refute it at one input. -/
def fnExactVariablesOfWrong : ChangeSpec := { name := "fnExactVariablesOf", fn := fun _ => fun
  | [d] => { results := [.lit (.bool false)], args := [d] }
  | _ => none }
def FnExactVariablesOfWrongFalsely : Prop := fnExactVariablesOfRow.holds Try.pinned (OpenSpec.ofChange fnExactVariablesOfWrong)

/-- 'laws.FnExactKindCounts': WHATEVER THE INPUT: true; the input reads as it did. -/
def fnExactKindCountsSpec : ChangeSpec := { name := "fnExactKindCounts", fn := fun _ => fun
  | [d] => { results := [.lit (.bool true)], args := [d] }
  | _ => none }
def fnExactKindCountsRow : OpenClaim := { program := "ytegdbcdffnopfaa", sum := "f997c88fd05f7a8760824bf60294092d1be3b0336711ef6583a6d2c916c65e22", func := "loop.example/g01089/laws.FnExactKindCounts", spec := "fnExactKindCounts", unfollowed := true, recurses := true, apart := false }
def FnExactKindCountsSaid : Prop := fnExactKindCountsRow.holds Try.pinned (OpenSpec.ofChange fnExactKindCountsSpec)

/-- ITS FALSE NEIGHBOUR: 'it returns false'. Refute it at one input. -/
def fnExactKindCountsWrong : ChangeSpec := { name := "fnExactKindCounts", fn := fun _ => fun
  | [d] => { results := [.lit (.bool false)], args := [d] }
  | _ => none }
def FnExactKindCountsWrongFalsely : Prop := fnExactKindCountsRow.holds Try.pinned (OpenSpec.ofChange fnExactKindCountsWrong)

/-- 'laws.FnExactDepthsOf': WHATEVER THE INPUT: true; the input reads as it did. -/
def fnExactDepthsOfSpec : ChangeSpec := { name := "fnExactDepthsOf", fn := fun _ => fun
  | [d] => { results := [.lit (.bool true)], args := [d] }
  | _ => none }
def fnExactDepthsOfRow : OpenClaim := { program := "ytegdbcdffnopfaa", sum := "f997c88fd05f7a8760824bf60294092d1be3b0336711ef6583a6d2c916c65e22", func := "loop.example/g01089/laws.FnExactDepthsOf", spec := "fnExactDepthsOf", unfollowed := true, recurses := true, apart := false }
def FnExactDepthsOfSaid : Prop := fnExactDepthsOfRow.holds Try.pinned (OpenSpec.ofChange fnExactDepthsOfSpec)

/-- ITS FALSE NEIGHBOUR: 'it returns false'. Refute it at one input. -/
def fnExactDepthsOfWrong : ChangeSpec := { name := "fnExactDepthsOf", fn := fun _ => fun
  | [d] => { results := [.lit (.bool false)], args := [d] }
  | _ => none }
def FnExactDepthsOfWrongFalsely : Prop := fnExactDepthsOfRow.holds Try.pinned (OpenSpec.ofChange fnExactDepthsOfWrong)

/-- 'laws.FnExactSubformulasOf': WHATEVER THE INPUT: true; the input reads as it did. -/
def fnExactSubformulasOfSpec : ChangeSpec := { name := "fnExactSubformulasOf", fn := fun _ => fun
  | [d] => { results := [.lit (.bool true)], args := [d] }
  | _ => none }
def fnExactSubformulasOfRow : OpenClaim := { program := "ytegdbcdffnopfaa", sum := "f997c88fd05f7a8760824bf60294092d1be3b0336711ef6583a6d2c916c65e22", func := "loop.example/g01089/laws.FnExactSubformulasOf", spec := "fnExactSubformulasOf", unfollowed := true, recurses := true, apart := false }
def FnExactSubformulasOfSaid : Prop := fnExactSubformulasOfRow.holds Try.pinned (OpenSpec.ofChange fnExactSubformulasOfSpec)

/-- ITS FALSE NEIGHBOUR: 'it returns false'. Refute it at one input. -/
def fnExactSubformulasOfWrong : ChangeSpec := { name := "fnExactSubformulasOf", fn := fun _ => fun
  | [d] => { results := [.lit (.bool false)], args := [d] }
  | _ => none }
def FnExactSubformulasOfWrongFalsely : Prop := fnExactSubformulasOfRow.holds Try.pinned (OpenSpec.ofChange fnExactSubformulasOfWrong)

/-- 'laws.FnExactIsPlain': WHATEVER THE INPUT: true; the input reads as it did. -/
def fnExactIsPlainSpec : ChangeSpec := { name := "fnExactIsPlain", fn := fun _ => fun
  | [d] => { results := [.lit (.bool true)], args := [d] }
  | _ => none }
def fnExactIsPlainRow : OpenClaim := { program := "ytegdbcdffnopfaa", sum := "f997c88fd05f7a8760824bf60294092d1be3b0336711ef6583a6d2c916c65e22", func := "loop.example/g01089/laws.FnExactIsPlain", spec := "fnExactIsPlain", unfollowed := true, recurses := true, apart := false }
def FnExactIsPlainSaid : Prop := fnExactIsPlainRow.holds Try.pinned (OpenSpec.ofChange fnExactIsPlainSpec)

/-- ITS FALSE NEIGHBOUR: 'it returns false'. Refute it at one input. -/
def fnExactIsPlainWrong : ChangeSpec := { name := "fnExactIsPlain", fn := fun _ => fun
  | [d] => { results := [.lit (.bool false)], args := [d] }
  | _ => none }
def FnExactIsPlainWrongFalsely : Prop := fnExactIsPlainRow.holds Try.pinned (OpenSpec.ofChange fnExactIsPlainWrong)

/-- 'laws.FnBuilding': WHATEVER THE INPUT: true; the input reads as it did. -/
def fnBuildingSpec : ChangeSpec := { name := "fnBuilding", fn := fun _ => fun
  | [d] => { results := [.lit (.bool true)], args := [d] }
  | _ => none }
def fnBuildingRow : OpenClaim := { program := "ytegdbcdffnopfaa", sum := "f997c88fd05f7a8760824bf60294092d1be3b0336711ef6583a6d2c916c65e22", func := "loop.example/g01089/laws.FnBuilding", spec := "fnBuilding", unfollowed := true, recurses := true, apart := false }
def FnBuildingSaid : Prop := fnBuildingRow.holds Try.pinned (OpenSpec.ofChange fnBuildingSpec)

/-- ITS FALSE NEIGHBOUR: 'it returns false'. Refute it at one input. -/
def fnBuildingWrong : ChangeSpec := { name := "fnBuilding", fn := fun _ => fun
  | [d] => { results := [.lit (.bool false)], args := [d] }
  | _ => none }
def FnBuildingWrongFalsely : Prop := fnBuildingRow.holds Try.pinned (OpenSpec.ofChange fnBuildingWrong)

/- THE SECOND FORM. 'bulk': how many values and letters a reading holds, each counted each time it is reached (what is shared counts as often as it is met; a slice's spare places count too). A statement '..UptoSaid' is the law's where the arguments, and the package variables that the reading takes, are together of bulk at most 1048576: NARROWER than '..Said'. Prove '..Said' where nothing that the law and all that it calls make is longer than what came in: it says more and counts as full. Else prove '..UptoSaid'. A law counts once. -/
mutual
def uptoBulk {H : Type} : DataW H → Nat
  | .lit (.string bytes) => bytes.length + 1
  | .lit _ => 1
  | .nil => 1
  | .ptr d => uptoBulk d + 1
  | .slice elems spare => uptoBulkAll elems + uptoBulkAll spare + 1
  | .agg parts => uptoBulkAll parts + 1
  | .iface _ d => uptoBulk d + 1
  | .map entries => uptoBulkEntries entries + 1
  | .held _ => 1
def uptoBulkAll {H : Type} : List (DataW H) → Nat
  | [] => 0
  | d :: r => uptoBulk d + uptoBulkAll r
def uptoBulkEntries {H : Type} : List (Lit × DataW H) → Nat
  | [] => 0
  | x :: r => uptoBulkEntry x + uptoBulkEntries r
def uptoBulkEntry {H : Type} : Lit × DataW H → Nat
  | (.string bytes, d) => bytes.length + uptoBulk d + 1
  | (_, d) => uptoBulk d + 1
 end
def uptoSmall : (H : Type) → List (DataW H) → Bool := fun _ ds => decide (uptoBulkAll ds ≤ 1048576)
def OpenSpec.upto (s : _root_.Go.ChangeSpec) : _root_.Go.OpenSpec := { _root_.Go.OpenSpec.ofChange s with cond := some uptoSmall }

/-- 'laws.FnExactFormulaText', WHERE WHAT IT READS IS OF BULK AT MOST 1048576: true; the input reads as it did. -/
def fnExactFormulaTextUptoRow : OpenClaim := { program := "ytegdbcdffnopfaa", sum := "f997c88fd05f7a8760824bf60294092d1be3b0336711ef6583a6d2c916c65e22", func := "loop.example/g01089/laws.FnExactFormulaText", spec := "fnExactFormulaText", unfollowed := true, recurses := true, apart := false, narrowed := true }
def FnExactFormulaTextUptoSaid : Prop := fnExactFormulaTextUptoRow.holds Try.pinned (OpenSpec.upto fnExactFormulaTextSpec)

/-- 'laws.FnExactPartEnd', WHERE WHAT IT READS IS OF BULK AT MOST 1048576: true; the input reads as it did. -/
def fnExactPartEndUptoRow : OpenClaim := { program := "ytegdbcdffnopfaa", sum := "f997c88fd05f7a8760824bf60294092d1be3b0336711ef6583a6d2c916c65e22", func := "loop.example/g01089/laws.FnExactPartEnd", spec := "fnExactPartEnd", unfollowed := true, recurses := true, apart := false, narrowed := true }
def FnExactPartEndUptoSaid : Prop := fnExactPartEndUptoRow.holds Try.pinned (OpenSpec.upto fnExactPartEndSpec)

/-- 'laws.FnExactCompareFormulas', WHERE WHAT IT READS IS OF BULK AT MOST 1048576: true; the input reads as it did. -/
def fnExactCompareFormulasUptoRow : OpenClaim := { program := "ytegdbcdffnopfaa", sum := "f997c88fd05f7a8760824bf60294092d1be3b0336711ef6583a6d2c916c65e22", func := "loop.example/g01089/laws.FnExactCompareFormulas", spec := "fnExactCompareFormulas", inPlace := ["internal/bytealg.abigen_runtime_cmpstring"], unfollowed := true, recurses := true, apart := false, narrowed := true }
def FnExactCompareFormulasUptoSaid : Prop := fnExactCompareFormulasUptoRow.holds Try.pinned (OpenSpec.upto fnExactCompareFormulasSpec)

/-- 'laws.FnExactNotFormula', WHERE WHAT IT READS IS OF BULK AT MOST 1048576: true; the input reads as it did. -/
def fnExactNotFormulaUptoRow : OpenClaim := { program := "ytegdbcdffnopfaa", sum := "f997c88fd05f7a8760824bf60294092d1be3b0336711ef6583a6d2c916c65e22", func := "loop.example/g01089/laws.FnExactNotFormula", spec := "fnExactNotFormula", unfollowed := true, recurses := true, apart := false, narrowed := true }
def FnExactNotFormulaUptoSaid : Prop := fnExactNotFormulaUptoRow.holds Try.pinned (OpenSpec.upto fnExactNotFormulaSpec)

/-- 'laws.FnExactJoinFormulas', WHERE WHAT IT READS IS OF BULK AT MOST 1048576: true; the input reads as it did. -/
def fnExactJoinFormulasUptoRow : OpenClaim := { program := "ytegdbcdffnopfaa", sum := "f997c88fd05f7a8760824bf60294092d1be3b0336711ef6583a6d2c916c65e22", func := "loop.example/g01089/laws.FnExactJoinFormulas", spec := "fnExactJoinFormulas", unfollowed := true, recurses := true, apart := false, narrowed := true }
def FnExactJoinFormulasUptoSaid : Prop := fnExactJoinFormulasUptoRow.holds Try.pinned (OpenSpec.upto fnExactJoinFormulasSpec)

/-- 'laws.FnExactPrefixFormula', WHERE WHAT IT READS IS OF BULK AT MOST 1048576: true; the input reads as it did. -/
def fnExactPrefixFormulaUptoRow : OpenClaim := { program := "ytegdbcdffnopfaa", sum := "f997c88fd05f7a8760824bf60294092d1be3b0336711ef6583a6d2c916c65e22", func := "loop.example/g01089/laws.FnExactPrefixFormula", spec := "fnExactPrefixFormula", unfollowed := true, recurses := true, apart := false, narrowed := true }
def FnExactPrefixFormulaUptoSaid : Prop := fnExactPrefixFormulaUptoRow.holds Try.pinned (OpenSpec.upto fnExactPrefixFormulaSpec)

/-- 'laws.FnExactVariablesOf', WHERE WHAT IT READS IS OF BULK AT MOST 1048576: true; the input reads as it did. -/
def fnExactVariablesOfUptoRow : OpenClaim := { program := "ytegdbcdffnopfaa", sum := "f997c88fd05f7a8760824bf60294092d1be3b0336711ef6583a6d2c916c65e22", func := "loop.example/g01089/laws.FnExactVariablesOf", spec := "fnExactVariablesOf", unfollowed := true, recurses := true, apart := false, narrowed := true }
def FnExactVariablesOfUptoSaid : Prop := fnExactVariablesOfUptoRow.holds Try.pinned (OpenSpec.upto fnExactVariablesOfSpec)

/-- 'laws.FnExactKindCounts', WHERE WHAT IT READS IS OF BULK AT MOST 1048576: true; the input reads as it did. -/
def fnExactKindCountsUptoRow : OpenClaim := { program := "ytegdbcdffnopfaa", sum := "f997c88fd05f7a8760824bf60294092d1be3b0336711ef6583a6d2c916c65e22", func := "loop.example/g01089/laws.FnExactKindCounts", spec := "fnExactKindCounts", unfollowed := true, recurses := true, apart := false, narrowed := true }
def FnExactKindCountsUptoSaid : Prop := fnExactKindCountsUptoRow.holds Try.pinned (OpenSpec.upto fnExactKindCountsSpec)

/-- 'laws.FnExactDepthsOf', WHERE WHAT IT READS IS OF BULK AT MOST 1048576: true; the input reads as it did. -/
def fnExactDepthsOfUptoRow : OpenClaim := { program := "ytegdbcdffnopfaa", sum := "f997c88fd05f7a8760824bf60294092d1be3b0336711ef6583a6d2c916c65e22", func := "loop.example/g01089/laws.FnExactDepthsOf", spec := "fnExactDepthsOf", unfollowed := true, recurses := true, apart := false, narrowed := true }
def FnExactDepthsOfUptoSaid : Prop := fnExactDepthsOfUptoRow.holds Try.pinned (OpenSpec.upto fnExactDepthsOfSpec)

/-- 'laws.FnExactSubformulasOf', WHERE WHAT IT READS IS OF BULK AT MOST 1048576: true; the input reads as it did. -/
def fnExactSubformulasOfUptoRow : OpenClaim := { program := "ytegdbcdffnopfaa", sum := "f997c88fd05f7a8760824bf60294092d1be3b0336711ef6583a6d2c916c65e22", func := "loop.example/g01089/laws.FnExactSubformulasOf", spec := "fnExactSubformulasOf", unfollowed := true, recurses := true, apart := false, narrowed := true }
def FnExactSubformulasOfUptoSaid : Prop := fnExactSubformulasOfUptoRow.holds Try.pinned (OpenSpec.upto fnExactSubformulasOfSpec)

/-- 'laws.FnExactIsPlain', WHERE WHAT IT READS IS OF BULK AT MOST 1048576: true; the input reads as it did. -/
def fnExactIsPlainUptoRow : OpenClaim := { program := "ytegdbcdffnopfaa", sum := "f997c88fd05f7a8760824bf60294092d1be3b0336711ef6583a6d2c916c65e22", func := "loop.example/g01089/laws.FnExactIsPlain", spec := "fnExactIsPlain", unfollowed := true, recurses := true, apart := false, narrowed := true }
def FnExactIsPlainUptoSaid : Prop := fnExactIsPlainUptoRow.holds Try.pinned (OpenSpec.upto fnExactIsPlainSpec)

/-- 'laws.FnBuilding', WHERE WHAT IT READS IS OF BULK AT MOST 1048576: true; the input reads as it did. -/
def fnBuildingUptoRow : OpenClaim := { program := "ytegdbcdffnopfaa", sum := "f997c88fd05f7a8760824bf60294092d1be3b0336711ef6583a6d2c916c65e22", func := "loop.example/g01089/laws.FnBuilding", spec := "fnBuilding", unfollowed := true, recurses := true, apart := false, narrowed := true }
def FnBuildingUptoSaid : Prop := fnBuildingUptoRow.holds Try.pinned (OpenSpec.upto fnBuildingSpec)

end Rows
end Go.Proofs.Ytegdbcdffnopfaa
