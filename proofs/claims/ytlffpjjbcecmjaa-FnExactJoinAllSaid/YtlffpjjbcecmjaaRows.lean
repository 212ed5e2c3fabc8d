/-
  No cell of these rows narrows 'for every input' (looked for: loops, veiled, ifaces, maps, wideKeys, modest, calm, conditions, laid).
  DERIVED. THE GIVEN ROWS OF THIS SEAT. 12 by the template 'for every input the law returns true; each argument reads behind the call as it read before'; 0 by the template 'total and deterministic' (their statements: YtlffpjjbcecmjaaTotals.lean).
  GIVEN WITH THE SEED: the statements are not yours to turn. If you find one false, say at which input.
  Laid BY PROGRAM, IN A SANDBOX (cutbox-rows.mjs): the forced cells as the released guide's own fill.sh prints them over the translation 10313fba84288258… (all of the seat's roots in one cut). By AI agents, Wed Nov 11 2026. No macro, syntax, notation, axiom, sorry.
-/
import Derived.Test.YtlffpjjbcecmjaaChecked
import GoSem.Claim
import GoSem.ClaimJoined
import GoSem.ClaimMapViews
import Derived.JoinedTies
import Derived.KernelRfl
namespace Go.Proofs.Ytlffpjjbcecmjaa
/- THE CELL 'sum', in the pinned program and in every row, IS THE sha256 OF THE DUMP (.gsa) THAT YtlffpjjbcecmjaaProg.lean LOADS. Nothing in Lean hashes anything: it is a label: what it is worth is what the hold of that sum in a sandbox is worth. -/
noncomputable def Try.pinned : Pinned := { name := "ytlffpjjbcecmjaa", sum := "10313fba84288258a31392fc17b691ca44b2363b8a686d44d4fb7a22b217c30c", checked := Try.checked }
namespace Rows
def none {H : Type} : Left H := { results := [], args := [] }

/-- 'laws.FnTexts': WHATEVER THE INPUT: true; the input reads as it did. -/
def fnTextsSpec : ChangeSpec := { name := "fnTexts", fn := fun _ => fun
  | [d] => { results := [.lit (.bool true)], args := [d] }
  | _ => none }
def fnTextsRow : OpenClaim := { program := "ytlffpjjbcecmjaa", sum := "10313fba84288258a31392fc17b691ca44b2363b8a686d44d4fb7a22b217c30c", func := "loop.example/g01089/laws.FnTexts", spec := "fnTexts", inPlace := ["internal/bytealg.IndexByteString", "internal/bytealg.IndexString", "internal/bytealg.abigen_runtime_cmpstring"], recurses := true, named := ["internal/bytealg.MaxLen"], apart := false }
def FnTextsSaid : Prop := fnTextsRow.holds Try.pinned (OpenSpec.ofChange fnTextsSpec)

/-- ITS FALSE NEIGHBOUR: 'it returns false'. Refute it at one input. -/
def fnTextsWrong : ChangeSpec := { name := "fnTexts", fn := fun _ => fun
  | [d] => { results := [.lit (.bool false)], args := [d] }
  | _ => none }
def FnTextsWrongFalsely : Prop := fnTextsRow.holds Try.pinned (OpenSpec.ofChange fnTextsWrong)

/-- 'laws.FnParsing': WHATEVER THE INPUT: true; the input reads as it did. -/
def fnParsingSpec : ChangeSpec := { name := "fnParsing", fn := fun _ => fun
  | [d] => { results := [.lit (.bool true)], args := [d] }
  | _ => none }
def fnParsingRow : OpenClaim := { program := "ytlffpjjbcecmjaa", sum := "10313fba84288258a31392fc17b691ca44b2363b8a686d44d4fb7a22b217c30c", func := "loop.example/g01089/laws.FnParsing", spec := "fnParsing", inPlace := ["internal/bytealg.IndexByteString", "internal/bytealg.IndexString"], recurses := true, named := ["internal/bytealg.MaxLen"], apart := false }
def FnParsingSaid : Prop := fnParsingRow.holds Try.pinned (OpenSpec.ofChange fnParsingSpec)

/-- ITS FALSE NEIGHBOUR: 'it returns false'. Refute it at one input. -/
def fnParsingWrong : ChangeSpec := { name := "fnParsing", fn := fun _ => fun
  | [d] => { results := [.lit (.bool false)], args := [d] }
  | _ => none }
def FnParsingWrongFalsely : Prop := fnParsingRow.holds Try.pinned (OpenSpec.ofChange fnParsingWrong)

/-- 'laws.FnBuilding': WHATEVER THE INPUT: true; the input reads as it did. -/
def fnBuildingSpec : ChangeSpec := { name := "fnBuilding", fn := fun _ => fun
  | [d] => { results := [.lit (.bool true)], args := [d] }
  | _ => none }
def fnBuildingRow : OpenClaim := { program := "ytlffpjjbcecmjaa", sum := "10313fba84288258a31392fc17b691ca44b2363b8a686d44d4fb7a22b217c30c", func := "loop.example/g01089/laws.FnBuilding", spec := "fnBuilding", recurses := true, apart := false }
def FnBuildingSaid : Prop := fnBuildingRow.holds Try.pinned (OpenSpec.ofChange fnBuildingSpec)

/-- ITS FALSE NEIGHBOUR: 'it returns false'. Refute it at one input. -/
def fnBuildingWrong : ChangeSpec := { name := "fnBuilding", fn := fun _ => fun
  | [d] => { results := [.lit (.bool false)], args := [d] }
  | _ => none }
def FnBuildingWrongFalsely : Prop := fnBuildingRow.holds Try.pinned (OpenSpec.ofChange fnBuildingWrong)

/-- 'laws.FnExactIsFormula': WHATEVER THE INPUT: true; the input reads as it did. -/
def fnExactIsFormulaSpec : ChangeSpec := { name := "fnExactIsFormula", fn := fun _ => fun
  | [d] => { results := [.lit (.bool true)], args := [d] }
  | _ => none }
def fnExactIsFormulaRow : OpenClaim := { program := "ytlffpjjbcecmjaa", sum := "10313fba84288258a31392fc17b691ca44b2363b8a686d44d4fb7a22b217c30c", func := "loop.example/g01089/laws.FnExactIsFormula", spec := "fnExactIsFormula", apart := false }
def FnExactIsFormulaSaid : Prop := fnExactIsFormulaRow.holds Try.pinned (OpenSpec.ofChange fnExactIsFormulaSpec)

/-- ITS FALSE NEIGHBOUR: 'it returns false'. Refute it at one input. -/
def fnExactIsFormulaWrong : ChangeSpec := { name := "fnExactIsFormula", fn := fun _ => fun
  | [d] => { results := [.lit (.bool false)], args := [d] }
  | _ => none }
def FnExactIsFormulaWrongFalsely : Prop := fnExactIsFormulaRow.holds Try.pinned (OpenSpec.ofChange fnExactIsFormulaWrong)

/-- 'laws.FnExactFormulaText': WHATEVER THE INPUT: true; the input reads as it did. -/
def fnExactFormulaTextSpec : ChangeSpec := { name := "fnExactFormulaText", fn := fun _ => fun
  | [d] => { results := [.lit (.bool true)], args := [d] }
  | _ => none }
def fnExactFormulaTextRow : OpenClaim := { program := "ytlffpjjbcecmjaa", sum := "10313fba84288258a31392fc17b691ca44b2363b8a686d44d4fb7a22b217c30c", func := "loop.example/g01089/laws.FnExactFormulaText", spec := "fnExactFormulaText", recurses := true, apart := false }
def FnExactFormulaTextSaid : Prop := fnExactFormulaTextRow.holds Try.pinned (OpenSpec.ofChange fnExactFormulaTextSpec)

/-- ITS FALSE NEIGHBOUR: 'it returns false'. Refute it at one input. -/
def fnExactFormulaTextWrong : ChangeSpec := { name := "fnExactFormulaText", fn := fun _ => fun
  | [d] => { results := [.lit (.bool false)], args := [d] }
  | _ => none }
def FnExactFormulaTextWrongFalsely : Prop := fnExactFormulaTextRow.holds Try.pinned (OpenSpec.ofChange fnExactFormulaTextWrong)

/-- 'laws.FnExactParseFormula': WHATEVER THE INPUT: true; the input reads as it did. -/
def fnExactParseFormulaSpec : ChangeSpec := { name := "fnExactParseFormula", fn := fun _ => fun
  | [d] => { results := [.lit (.bool true)], args := [d] }
  | _ => none }
def fnExactParseFormulaRow : OpenClaim := { program := "ytlffpjjbcecmjaa", sum := "10313fba84288258a31392fc17b691ca44b2363b8a686d44d4fb7a22b217c30c", func := "loop.example/g01089/laws.FnExactParseFormula", spec := "fnExactParseFormula", inPlace := ["internal/bytealg.IndexByteString", "internal/bytealg.IndexString"], recurses := true, named := ["internal/bytealg.MaxLen"], apart := false }
def FnExactParseFormulaSaid : Prop := fnExactParseFormulaRow.holds Try.pinned (OpenSpec.ofChange fnExactParseFormulaSpec)

/-- ITS FALSE NEIGHBOUR: 'it returns false'. Refute it at one input. -/
def fnExactParseFormulaWrong : ChangeSpec := { name := "fnExactParseFormula", fn := fun _ => fun
  | [d] => { results := [.lit (.bool false)], args := [d] }
  | _ => none }
def FnExactParseFormulaWrongFalsely : Prop := fnExactParseFormulaRow.holds Try.pinned (OpenSpec.ofChange fnExactParseFormulaWrong)

/-- 'laws.FnExactPartEnd': WHATEVER THE INPUT: true; the input reads as it did. -/
def fnExactPartEndSpec : ChangeSpec := { name := "fnExactPartEnd", fn := fun _ => fun
  | [d1, d2] => { results := [.lit (.bool true)], args := [d1, d2] }
  | _ => none }
def fnExactPartEndRow : OpenClaim := { program := "ytlffpjjbcecmjaa", sum := "10313fba84288258a31392fc17b691ca44b2363b8a686d44d4fb7a22b217c30c", func := "loop.example/g01089/laws.FnExactPartEnd", spec := "fnExactPartEnd", apart := false }
def FnExactPartEndSaid : Prop := fnExactPartEndRow.holds Try.pinned (OpenSpec.ofChange fnExactPartEndSpec)

/-- ITS FALSE NEIGHBOUR: 'it returns false'. Refute it at one input. -/
def fnExactPartEndWrong : ChangeSpec := { name := "fnExactPartEnd", fn := fun _ => fun
  | [d1, d2] => { results := [.lit (.bool false)], args := [d1, d2] }
  | _ => none }
def FnExactPartEndWrongFalsely : Prop := fnExactPartEndRow.holds Try.pinned (OpenSpec.ofChange fnExactPartEndWrong)

/-- 'laws.FnExactCompareFormulas': WHATEVER THE INPUT: true; the input reads as it did. -/
def fnExactCompareFormulasSpec : ChangeSpec := { name := "fnExactCompareFormulas", fn := fun _ => fun
  | [d1, d2] => { results := [.lit (.bool true)], args := [d1, d2] }
  | _ => none }
def fnExactCompareFormulasRow : OpenClaim := { program := "ytlffpjjbcecmjaa", sum := "10313fba84288258a31392fc17b691ca44b2363b8a686d44d4fb7a22b217c30c", func := "loop.example/g01089/laws.FnExactCompareFormulas", spec := "fnExactCompareFormulas", inPlace := ["internal/bytealg.abigen_runtime_cmpstring"], recurses := true, apart := false }
def FnExactCompareFormulasSaid : Prop := fnExactCompareFormulasRow.holds Try.pinned (OpenSpec.ofChange fnExactCompareFormulasSpec)

/-- ITS FALSE NEIGHBOUR: 'it returns false'. Refute it at one input. -/
def fnExactCompareFormulasWrong : ChangeSpec := { name := "fnExactCompareFormulas", fn := fun _ => fun
  | [d1, d2] => { results := [.lit (.bool false)], args := [d1, d2] }
  | _ => none }
def FnExactCompareFormulasWrongFalsely : Prop := fnExactCompareFormulasRow.holds Try.pinned (OpenSpec.ofChange fnExactCompareFormulasWrong)

/-- 'laws.FnExactNotFormula': WHATEVER THE INPUT: true; the input reads as it did. -/
def fnExactNotFormulaSpec : ChangeSpec := { name := "fnExactNotFormula", fn := fun _ => fun
  | [d] => { results := [.lit (.bool true)], args := [d] }
  | _ => none }
def fnExactNotFormulaRow : OpenClaim := { program := "ytlffpjjbcecmjaa", sum := "10313fba84288258a31392fc17b691ca44b2363b8a686d44d4fb7a22b217c30c", func := "loop.example/g01089/laws.FnExactNotFormula", spec := "fnExactNotFormula", apart := false }
def FnExactNotFormulaSaid : Prop := fnExactNotFormulaRow.holds Try.pinned (OpenSpec.ofChange fnExactNotFormulaSpec)

/-- ITS FALSE NEIGHBOUR: 'it returns false'. Refute it at one input. -/
def fnExactNotFormulaWrong : ChangeSpec := { name := "fnExactNotFormula", fn := fun _ => fun
  | [d] => { results := [.lit (.bool false)], args := [d] }
  | _ => none }
def FnExactNotFormulaWrongFalsely : Prop := fnExactNotFormulaRow.holds Try.pinned (OpenSpec.ofChange fnExactNotFormulaWrong)

/-- 'laws.FnExactJoinFormulas': WHATEVER THE INPUT: true; the input reads as it did. -/
def fnExactJoinFormulasSpec : ChangeSpec := { name := "fnExactJoinFormulas", fn := fun _ => fun
  | [d1, d2, d3] => { results := [.lit (.bool true)], args := [d1, d2, d3] }
  | _ => none }
def fnExactJoinFormulasRow : OpenClaim := { program := "ytlffpjjbcecmjaa", sum := "10313fba84288258a31392fc17b691ca44b2363b8a686d44d4fb7a22b217c30c", func := "loop.example/g01089/laws.FnExactJoinFormulas", spec := "fnExactJoinFormulas", apart := false }
def FnExactJoinFormulasSaid : Prop := fnExactJoinFormulasRow.holds Try.pinned (OpenSpec.ofChange fnExactJoinFormulasSpec)

/-- ITS FALSE NEIGHBOUR: 'it returns false'. Refute it at one input. -/
def fnExactJoinFormulasWrong : ChangeSpec := { name := "fnExactJoinFormulas", fn := fun _ => fun
  | [d1, d2, d3] => { results := [.lit (.bool false)], args := [d1, d2, d3] }
  | _ => none }
def FnExactJoinFormulasWrongFalsely : Prop := fnExactJoinFormulasRow.holds Try.pinned (OpenSpec.ofChange fnExactJoinFormulasWrong)

/-- 'laws.FnExactPrefixFormula': WHATEVER THE INPUT: true; the input reads as it did. -/
def fnExactPrefixFormulaSpec : ChangeSpec := { name := "fnExactPrefixFormula", fn := fun _ => fun
  | [d1, d2] => { results := [.lit (.bool true)], args := [d1, d2] }
  | _ => none }
def fnExactPrefixFormulaRow : OpenClaim := { program := "ytlffpjjbcecmjaa", sum := "10313fba84288258a31392fc17b691ca44b2363b8a686d44d4fb7a22b217c30c", func := "loop.example/g01089/laws.FnExactPrefixFormula", spec := "fnExactPrefixFormula", apart := false }
def FnExactPrefixFormulaSaid : Prop := fnExactPrefixFormulaRow.holds Try.pinned (OpenSpec.ofChange fnExactPrefixFormulaSpec)

/-- ITS FALSE NEIGHBOUR: 'it returns false'. Refute it at one input. -/
def fnExactPrefixFormulaWrong : ChangeSpec := { name := "fnExactPrefixFormula", fn := fun _ => fun
  | [d1, d2] => { results := [.lit (.bool false)], args := [d1, d2] }
  | _ => none }
def FnExactPrefixFormulaWrongFalsely : Prop := fnExactPrefixFormulaRow.holds Try.pinned (OpenSpec.ofChange fnExactPrefixFormulaWrong)

/-- 'laws.FnExactJoinAll': WHATEVER THE INPUT: true; the input reads as it did. -/
def fnExactJoinAllSpec : ChangeSpec := { name := "fnExactJoinAll", fn := fun _ => fun
  | [d1, d2] => { results := [.lit (.bool true)], args := [d1, d2] }
  | _ => none }
def fnExactJoinAllRow : OpenClaim := { program := "ytlffpjjbcecmjaa", sum := "10313fba84288258a31392fc17b691ca44b2363b8a686d44d4fb7a22b217c30c", func := "loop.example/g01089/laws.FnExactJoinAll", spec := "fnExactJoinAll", apart := false }
def FnExactJoinAllSaid : Prop := fnExactJoinAllRow.holds Try.pinned (OpenSpec.ofChange fnExactJoinAllSpec)

/-- ITS FALSE NEIGHBOUR: 'it returns false'. Refute it at one input. -/
def fnExactJoinAllWrong : ChangeSpec := { name := "fnExactJoinAll", fn := fun _ => fun
  | [d1, d2] => { results := [.lit (.bool false)], args := [d1, d2] }
  | _ => none }
def FnExactJoinAllWrongFalsely : Prop := fnExactJoinAllRow.holds Try.pinned (OpenSpec.ofChange fnExactJoinAllWrong)

/- THE SECOND FORM. 'bulk': how many values and letters a reading holds, each counted each time it is reached (what is shared counts as often as it is met; a slice's spare places count too). A statement '..UptoSaid' is the law's where the arguments, and the package variables that the reading takes, are together of bulk at most 1048576: NARROWER than '..Said'. Prove '..Said' where nothing that the law and all that it calls make is longer than what came in: it says more and counts as full. Else prove '..UptoSaid'. A law counts once. -/
mutual
def uptoBulk {H : Type} : DataW H → Nat
  | .lit (.string bytes) => bytes.length + 1
  | .lit _ => 1
  | .nil => 1
  | .ptr d => uptoBulk d + 1
  | .slice elems spare => uptoBulkAll elems + uptoBulkAll spare + 1
  | .agg parts => uptoBulkAll parts + 1
  | .iface _ d => uptoBulk d + 1
  | .map entries => uptoBulkEntries entries + 1
  | .held _ => 1
def uptoBulkAll {H : Type} : List (DataW H) → Nat
  | [] => 0
  | d :: r => uptoBulk d + uptoBulkAll r
def uptoBulkEntries {H : Type} : List (Lit × DataW H) → Nat
  | [] => 0
  | x :: r => uptoBulkEntry x + uptoBulkEntries r
def uptoBulkEntry {H : Type} : Lit × DataW H → Nat
  | (.string bytes, d) => bytes.length + uptoBulk d + 1
  | (_, d) => uptoBulk d + 1
 end
def uptoSmall : (H : Type) → List (DataW H) → Bool := fun _ ds => decide (uptoBulkAll ds ≤ 1048576)
def OpenSpec.upto (s : _root_.Go.ChangeSpec) : _root_.Go.OpenSpec := { _root_.Go.OpenSpec.ofChange s with cond := some uptoSmall }

/-- 'laws.FnTexts', WHERE WHAT IT READS IS OF BULK AT MOST 1048576: true; the input reads as it did. -/
def fnTextsUptoRow : OpenClaim := { program := "ytlffpjjbcecmjaa", sum := "10313fba84288258a31392fc17b691ca44b2363b8a686d44d4fb7a22b217c30c", func := "loop.example/g01089/laws.FnTexts", spec := "fnTexts", inPlace := ["internal/bytealg.IndexByteString", "internal/bytealg.IndexString", "internal/bytealg.abigen_runtime_cmpstring"], recurses := true, named := ["internal/bytealg.MaxLen"], apart := false, narrowed := true }
def FnTextsUptoSaid : Prop := fnTextsUptoRow.holds Try.pinned (OpenSpec.upto fnTextsSpec)

/-- 'laws.FnParsing', WHERE WHAT IT READS IS OF BULK AT MOST 1048576: true; the input reads as it did. -/
def fnParsingUptoRow : OpenClaim := { program := "ytlffpjjbcecmjaa", sum := "10313fba84288258a31392fc17b691ca44b2363b8a686d44d4fb7a22b217c30c", func := "loop.example/g01089/laws.FnParsing", spec := "fnParsing", inPlace := ["internal/bytealg.IndexByteString", "internal/bytealg.IndexString"], recurses := true, named := ["internal/bytealg.MaxLen"], apart := false, narrowed := true }
def FnParsingUptoSaid : Prop := fnParsingUptoRow.holds Try.pinned (OpenSpec.upto fnParsingSpec)

/-- 'laws.FnBuilding', WHERE WHAT IT READS IS OF BULK AT MOST 1048576: true; the input reads as it did. -/
def fnBuildingUptoRow : OpenClaim := { program := "ytlffpjjbcecmjaa", sum := "10313fba84288258a31392fc17b691ca44b2363b8a686d44d4fb7a22b217c30c", func := "loop.example/g01089/laws.FnBuilding", spec := "fnBuilding", recurses := true, apart := false, narrowed := true }
def FnBuildingUptoSaid : Prop := fnBuildingUptoRow.holds Try.pinned (OpenSpec.upto fnBuildingSpec)

/-- 'laws.FnExactIsFormula', WHERE WHAT IT READS IS OF BULK AT MOST 1048576: true; the input reads as it did. -/
def fnExactIsFormulaUptoRow : OpenClaim := { program := "ytlffpjjbcecmjaa", sum := "10313fba84288258a31392fc17b691ca44b2363b8a686d44d4fb7a22b217c30c", func := "loop.example/g01089/laws.FnExactIsFormula", spec := "fnExactIsFormula", apart := false, narrowed := true }
def FnExactIsFormulaUptoSaid : Prop := fnExactIsFormulaUptoRow.holds Try.pinned (OpenSpec.upto fnExactIsFormulaSpec)

/-- 'laws.FnExactFormulaText', WHERE WHAT IT READS IS OF BULK AT MOST 1048576: true; the input reads as it did. -/
def fnExactFormulaTextUptoRow : OpenClaim := { program := "ytlffpjjbcecmjaa", sum := "10313fba84288258a31392fc17b691ca44b2363b8a686d44d4fb7a22b217c30c", func := "loop.example/g01089/laws.FnExactFormulaText", spec := "fnExactFormulaText", recurses := true, apart := false, narrowed := true }
def FnExactFormulaTextUptoSaid : Prop := fnExactFormulaTextUptoRow.holds Try.pinned (OpenSpec.upto fnExactFormulaTextSpec)

/-- 'laws.FnExactParseFormula', WHERE WHAT IT READS IS OF BULK AT MOST 1048576: true; the input reads as it did. -/
def fnExactParseFormulaUptoRow : OpenClaim := { program := "ytlffpjjbcecmjaa", sum := "10313fba84288258a31392fc17b691ca44b2363b8a686d44d4fb7a22b217c30c", func := "loop.example/g01089/laws.FnExactParseFormula", spec := "fnExactParseFormula", inPlace := ["internal/bytealg.IndexByteString", "internal/bytealg.IndexString"], recurses := true, named := ["internal/bytealg.MaxLen"], apart := false, narrowed := true }
def FnExactParseFormulaUptoSaid : Prop := fnExactParseFormulaUptoRow.holds Try.pinned (OpenSpec.upto fnExactParseFormulaSpec)

/-- 'laws.FnExactPartEnd', WHERE WHAT IT READS IS OF BULK AT MOST 1048576: true; the input reads as it did. -/
def fnExactPartEndUptoRow : OpenClaim := { program := "ytlffpjjbcecmjaa", sum := "10313fba84288258a31392fc17b691ca44b2363b8a686d44d4fb7a22b217c30c", func := "loop.example/g01089/laws.FnExactPartEnd", spec := "fnExactPartEnd", apart := false, narrowed := true }
def FnExactPartEndUptoSaid : Prop := fnExactPartEndUptoRow.holds Try.pinned (OpenSpec.upto fnExactPartEndSpec)

/-- 'laws.FnExactCompareFormulas', WHERE WHAT IT READS IS OF BULK AT MOST 1048576: true; the input reads as it did. -/
def fnExactCompareFormulasUptoRow : OpenClaim := { program := "ytlffpjjbcecmjaa", sum := "10313fba84288258a31392fc17b691ca44b2363b8a686d44d4fb7a22b217c30c", func := "loop.example/g01089/laws.FnExactCompareFormulas", spec := "fnExactCompareFormulas", inPlace := ["internal/bytealg.abigen_runtime_cmpstring"], recurses := true, apart := false, narrowed := true }
def FnExactCompareFormulasUptoSaid : Prop := fnExactCompareFormulasUptoRow.holds Try.pinned (OpenSpec.upto fnExactCompareFormulasSpec)

/-- 'laws.FnExactNotFormula', WHERE WHAT IT READS IS OF BULK AT MOST 1048576: true; the input reads as it did. -/
def fnExactNotFormulaUptoRow : OpenClaim := { program := "ytlffpjjbcecmjaa", sum := "10313fba84288258a31392fc17b691ca44b2363b8a686d44d4fb7a22b217c30c", func := "loop.example/g01089/laws.FnExactNotFormula", spec := "fnExactNotFormula", apart := false, narrowed := true }
def FnExactNotFormulaUptoSaid : Prop := fnExactNotFormulaUptoRow.holds Try.pinned (OpenSpec.upto fnExactNotFormulaSpec)

/-- 'laws.FnExactJoinFormulas', WHERE WHAT IT READS IS OF BULK AT MOST 1048576: true; the input reads as it did. -/
def fnExactJoinFormulasUptoRow : OpenClaim := { program := "ytlffpjjbcecmjaa", sum := "10313fba84288258a31392fc17b691ca44b2363b8a686d44d4fb7a22b217c30c", func := "loop.example/g01089/laws.FnExactJoinFormulas", spec := "fnExactJoinFormulas", apart := false, narrowed := true }
def FnExactJoinFormulasUptoSaid : Prop := fnExactJoinFormulasUptoRow.holds Try.pinned (OpenSpec.upto fnExactJoinFormulasSpec)

/-- 'laws.FnExactPrefixFormula', WHERE WHAT IT READS IS OF BULK AT MOST 1048576: true; the input reads as it did. -/
def fnExactPrefixFormulaUptoRow : OpenClaim := { program := "ytlffpjjbcecmjaa", sum := "10313fba84288258a31392fc17b691ca44b2363b8a686d44d4fb7a22b217c30c", func := "loop.example/g01089/laws.FnExactPrefixFormula", spec := "fnExactPrefixFormula", apart := false, narrowed := true }
def FnExactPrefixFormulaUptoSaid : Prop := fnExactPrefixFormulaUptoRow.holds Try.pinned (OpenSpec.upto fnExactPrefixFormulaSpec)

/-- 'laws.FnExactJoinAll', WHERE WHAT IT READS IS OF BULK AT MOST 1048576: true; the input reads as it did. -/
def fnExactJoinAllUptoRow : OpenClaim := { program := "ytlffpjjbcecmjaa", sum := "10313fba84288258a31392fc17b691ca44b2363b8a686d44d4fb7a22b217c30c", func := "loop.example/g01089/laws.FnExactJoinAll", spec := "fnExactJoinAll", apart := false, narrowed := true }
def FnExactJoinAllUptoSaid : Prop := fnExactJoinAllUptoRow.holds Try.pinned (OpenSpec.upto fnExactJoinAllSpec)

end Rows
end Go.Proofs.Ytlffpjjbcecmjaa
