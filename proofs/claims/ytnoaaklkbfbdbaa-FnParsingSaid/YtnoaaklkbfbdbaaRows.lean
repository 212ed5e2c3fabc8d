/-
  No cell of these rows narrows 'for every input' (looked for: loops, veiled, ifaces, maps, wideKeys, modest, calm, conditions, laid).
  DERIVED. THE GIVEN ROWS OF THIS SEAT. 5 by the template 'for every input the law returns true; each argument reads behind the call as it read before'; 0 by the template 'total and deterministic' (their statements: YtnoaaklkbfbdbaaTotals.lean).
  GIVEN WITH THE SEED: the statements are not yours to turn. If you find one false, say at which input.
  Laid BY PROGRAM, IN A SANDBOX (cutbox-rows.mjs): the forced cells as the released guide's own fill.sh prints them over the translation 01a2857327764915… (all of the seat's roots in one cut). By AI agents, Wed Nov 11 2026. No macro, syntax, notation, axiom, sorry.
-/
import Derived.Test.YtnoaaklkbfbdbaaChecked
import GoSem.Claim
import GoSem.ClaimJoined
import GoSem.ClaimMapViews
import Derived.JoinedTies
import Derived.KernelRfl
namespace Go.Proofs.Ytnoaaklkbfbdbaa
/- THE CELL 'sum', in the pinned program and in every row, IS THE sha256 OF THE DUMP (.gsa) THAT YtnoaaklkbfbdbaaProg.lean LOADS. Nothing in Lean hashes anything: it is a label: what it is worth is what the hold of that sum in a sandbox is worth. -/
noncomputable def Try.pinned : Pinned := { name := "ytnoaaklkbfbdbaa", sum := "01a2857327764915aea0d62ab5b772b847fd1748acf53e053026a399d6aab111", checked := Try.checked }
namespace Rows
def none {H : Type} : Left H := { results := [], args := [] }

/-- 'laws.FnExactRefutingWorlds': WHATEVER THE INPUT: true; the input reads as it did. -/
def fnExactRefutingWorldsSpec : ChangeSpec := { name := "fnExactRefutingWorlds", fn := fun _ => fun
  | [d1, d2] => { results := [.lit (.bool true)], args := [d1, d2] }
  | _ => none }
def fnExactRefutingWorldsRow : OpenClaim := { program := "ytnoaaklkbfbdbaa", sum := "01a2857327764915aea0d62ab5b772b847fd1748acf53e053026a399d6aab111", func := "loop.example/g01089/laws.FnExactRefutingWorlds", spec := "fnExactRefutingWorlds", unfollowed := true, recurses := true, apart := false }
def FnExactRefutingWorldsSaid : Prop := fnExactRefutingWorldsRow.holds Try.pinned (OpenSpec.ofChange fnExactRefutingWorldsSpec)

/-- ITS FALSE NEIGHBOUR: 'it returns false'. Refute it at one input. -/
def fnExactRefutingWorldsWrong : ChangeSpec := { name := "fnExactRefutingWorlds", fn := fun _ => fun
  | [d1, d2] => { results := [.lit (.bool false)], args := [d1, d2] }
  | _ => none }
def FnExactRefutingWorldsWrongFalsely : Prop := fnExactRefutingWorldsRow.holds Try.pinned (OpenSpec.ofChange fnExactRefutingWorldsWrong)

/-- 'laws.FnExactIsLocalConsequence': WHATEVER THE INPUT: true; the input reads as it did. -/
def fnExactIsLocalConsequenceSpec : ChangeSpec := { name := "fnExactIsLocalConsequence", fn := fun _ => fun
  | [d1, d2, d3] => { results := [.lit (.bool true)], args := [d1, d2, d3] }
  | _ => none }
def fnExactIsLocalConsequenceRow : OpenClaim := { program := "ytnoaaklkbfbdbaa", sum := "01a2857327764915aea0d62ab5b772b847fd1748acf53e053026a399d6aab111", func := "loop.example/g01089/laws.FnExactIsLocalConsequence", spec := "fnExactIsLocalConsequence", unfollowed := true, recurses := true, apart := false }
def FnExactIsLocalConsequenceSaid : Prop := fnExactIsLocalConsequenceRow.holds Try.pinned (OpenSpec.ofChange fnExactIsLocalConsequenceSpec)

/-- ITS FALSE NEIGHBOUR: 'it returns false'. Refute it at one input. -/
def fnExactIsLocalConsequenceWrong : ChangeSpec := { name := "fnExactIsLocalConsequence", fn := fun _ => fun
  | [d1, d2, d3] => { results := [.lit (.bool false)], args := [d1, d2, d3] }
  | _ => none }
def FnExactIsLocalConsequenceWrongFalsely : Prop := fnExactIsLocalConsequenceRow.holds Try.pinned (OpenSpec.ofChange fnExactIsLocalConsequenceWrong)

/-- 'laws.FnExactIsGlobalConsequence': WHATEVER THE INPUT: true; the input reads as it did. -/
def fnExactIsGlobalConsequenceSpec : ChangeSpec := { name := "fnExactIsGlobalConsequence", fn := fun _ => fun
  | [d1, d2, d3] => { results := [.lit (.bool true)], args := [d1, d2, d3] }
  | _ => none }
def fnExactIsGlobalConsequenceRow : OpenClaim := { program := "ytnoaaklkbfbdbaa", sum := "01a2857327764915aea0d62ab5b772b847fd1748acf53e053026a399d6aab111", func := "loop.example/g01089/laws.FnExactIsGlobalConsequence", spec := "fnExactIsGlobalConsequence", unfollowed := true, recurses := true, apart := false }
def FnExactIsGlobalConsequenceSaid : Prop := fnExactIsGlobalConsequenceRow.holds Try.pinned (OpenSpec.ofChange fnExactIsGlobalConsequenceSpec)

/-- ITS FALSE NEIGHBOUR: 'it returns false'. Refute it at one input. -/
def fnExactIsGlobalConsequenceWrong : ChangeSpec := { name := "fnExactIsGlobalConsequence", fn := fun _ => fun
  | [d1, d2, d3] => { results := [.lit (.bool false)], args := [d1, d2, d3] }
  | _ => none }
def FnExactIsGlobalConsequenceWrongFalsely : Prop := fnExactIsGlobalConsequenceRow.holds Try.pinned (OpenSpec.ofChange fnExactIsGlobalConsequenceWrong)

/-- 'laws.FnParsing': WHATEVER THE INPUT: true; the input reads as it did. -/
def fnParsingSpec : ChangeSpec := { name := "fnParsing", fn := fun _ => fun
  | [d] => { results := [.lit (.bool true)], args := [d] }
  | _ => none }
def fnParsingRow : OpenClaim := { program := "ytnoaaklkbfbdbaa", sum := "01a2857327764915aea0d62ab5b772b847fd1748acf53e053026a399d6aab111", func := "loop.example/g01089/laws.FnParsing", spec := "fnParsing", inPlace := ["internal/bytealg.IndexByteString", "internal/bytealg.IndexString"], unfollowed := true, recurses := true, named := ["internal/bytealg.MaxLen"], apart := false }
def FnParsingSaid : Prop := fnParsingRow.holds Try.pinned (OpenSpec.ofChange fnParsingSpec)

/-- ITS FALSE NEIGHBOUR: 'it returns false'. Refute it at one input. -/
def fnParsingWrong : ChangeSpec := { name := "fnParsing", fn := fun _ => fun
  | [d] => { results := [.lit (.bool false)], args := [d] }
  | _ => none }
def FnParsingWrongFalsely : Prop := fnParsingRow.holds Try.pinned (OpenSpec.ofChange fnParsingWrong)

/-- 'laws.FnTexts': WHATEVER THE INPUT: true; the input reads as it did. -/
def fnTextsSpec : ChangeSpec := { name := "fnTexts", fn := fun _ => fun
  | [d] => { results := [.lit (.bool true)], args := [d] }
  | _ => none }
def fnTextsRow : OpenClaim := { program := "ytnoaaklkbfbdbaa", sum := "01a2857327764915aea0d62ab5b772b847fd1748acf53e053026a399d6aab111", func := "loop.example/g01089/laws.FnTexts", spec := "fnTexts", inPlace := ["internal/bytealg.IndexByteString", "internal/bytealg.IndexString", "internal/bytealg.abigen_runtime_cmpstring"], unfollowed := true, recurses := true, named := ["internal/bytealg.MaxLen"], apart := false }
def FnTextsSaid : Prop := fnTextsRow.holds Try.pinned (OpenSpec.ofChange fnTextsSpec)

/-- ITS FALSE NEIGHBOUR: 'it returns false'. Refute it at one input. -/
def fnTextsWrong : ChangeSpec := { name := "fnTexts", fn := fun _ => fun
  | [d] => { results := [.lit (.bool false)], args := [d] }
  | _ => none }
def FnTextsWrongFalsely : Prop := fnTextsRow.holds Try.pinned (OpenSpec.ofChange fnTextsWrong)

/- THE SECOND FORM. 'bulk': how many values and letters a reading holds, each counted each time it is reached (what is shared counts as often as it is met; a slice's spare places count too). A statement '..UptoSaid' is the law's where the arguments, and the package variables that the reading takes, are together of bulk at most 1048576: NARROWER than '..Said'. Prove '..Said' where nothing that the law and all that it calls make is longer than what came in: it says more and counts as full. Else prove '..UptoSaid'. A law counts once. -/
mutual
def uptoBulk {H : Type} : DataW H → Nat
  | .lit (.string bytes) => bytes.length + 1
  | .lit _ => 1
  | .nil => 1
  | .ptr d => uptoBulk d + 1
  | .slice elems spare => uptoBulkAll elems + uptoBulkAll spare + 1
  | .agg parts => uptoBulkAll parts + 1
  | .iface _ d => uptoBulk d + 1
  | .map entries => uptoBulkEntries entries + 1
  | .held _ => 1
def uptoBulkAll {H : Type} : List (DataW H) → Nat
  | [] => 0
  | d :: r => uptoBulk d + uptoBulkAll r
def uptoBulkEntries {H : Type} : List (Lit × DataW H) → Nat
  | [] => 0
  | x :: r => uptoBulkEntry x + uptoBulkEntries r
def uptoBulkEntry {H : Type} : Lit × DataW H → Nat
  | (.string bytes, d) => bytes.length + uptoBulk d + 1
  | (_, d) => uptoBulk d + 1
 end
def uptoSmall : (H : Type) → List (DataW H) → Bool := fun _ ds => decide (uptoBulkAll ds ≤ 1048576)
def OpenSpec.upto (s : _root_.Go.ChangeSpec) : _root_.Go.OpenSpec := { _root_.Go.OpenSpec.ofChange s with cond := some uptoSmall }

/-- 'laws.FnExactRefutingWorlds', WHERE WHAT IT READS IS OF BULK AT MOST 1048576: true; the input reads as it did. -/
def fnExactRefutingWorldsUptoRow : OpenClaim := { program := "ytnoaaklkbfbdbaa", sum := "01a2857327764915aea0d62ab5b772b847fd1748acf53e053026a399d6aab111", func := "loop.example/g01089/laws.FnExactRefutingWorlds", spec := "fnExactRefutingWorlds", unfollowed := true, recurses := true, apart := false, narrowed := true }
def FnExactRefutingWorldsUptoSaid : Prop := fnExactRefutingWorldsUptoRow.holds Try.pinned (OpenSpec.upto fnExactRefutingWorldsSpec)

/-- 'laws.FnExactIsLocalConsequence', WHERE WHAT IT READS IS OF BULK AT MOST 1048576: true; the input reads as it did. -/
def fnExactIsLocalConsequenceUptoRow : OpenClaim := { program := "ytnoaaklkbfbdbaa", sum := "01a2857327764915aea0d62ab5b772b847fd1748acf53e053026a399d6aab111", func := "loop.example/g01089/laws.FnExactIsLocalConsequence", spec := "fnExactIsLocalConsequence", unfollowed := true, recurses := true, apart := false, narrowed := true }
def FnExactIsLocalConsequenceUptoSaid : Prop := fnExactIsLocalConsequenceUptoRow.holds Try.pinned (OpenSpec.upto fnExactIsLocalConsequenceSpec)

/-- 'laws.FnExactIsGlobalConsequence', WHERE WHAT IT READS IS OF BULK AT MOST 1048576: true; the input reads as it did. -/
def fnExactIsGlobalConsequenceUptoRow : OpenClaim := { program := "ytnoaaklkbfbdbaa", sum := "01a2857327764915aea0d62ab5b772b847fd1748acf53e053026a399d6aab111", func := "loop.example/g01089/laws.FnExactIsGlobalConsequence", spec := "fnExactIsGlobalConsequence", unfollowed := true, recurses := true, apart := false, narrowed := true }
def FnExactIsGlobalConsequenceUptoSaid : Prop := fnExactIsGlobalConsequenceUptoRow.holds Try.pinned (OpenSpec.upto fnExactIsGlobalConsequenceSpec)

/-- 'laws.FnParsing', WHERE WHAT IT READS IS OF BULK AT MOST 1048576: true; the input reads as it did. -/
def fnParsingUptoRow : OpenClaim := { program := "ytnoaaklkbfbdbaa", sum := "01a2857327764915aea0d62ab5b772b847fd1748acf53e053026a399d6aab111", func := "loop.example/g01089/laws.FnParsing", spec := "fnParsing", inPlace := ["internal/bytealg.IndexByteString", "internal/bytealg.IndexString"], unfollowed := true, recurses := true, named := ["internal/bytealg.MaxLen"], apart := false, narrowed := true }
def FnParsingUptoSaid : Prop := fnParsingUptoRow.holds Try.pinned (OpenSpec.upto fnParsingSpec)

/-- 'laws.FnTexts', WHERE WHAT IT READS IS OF BULK AT MOST 1048576: true; the input reads as it did. -/
def fnTextsUptoRow : OpenClaim := { program := "ytnoaaklkbfbdbaa", sum := "01a2857327764915aea0d62ab5b772b847fd1748acf53e053026a399d6aab111", func := "loop.example/g01089/laws.FnTexts", spec := "fnTexts", inPlace := ["internal/bytealg.IndexByteString", "internal/bytealg.IndexString", "internal/bytealg.abigen_runtime_cmpstring"], unfollowed := true, recurses := true, named := ["internal/bytealg.MaxLen"], apart := false, narrowed := true }
def FnTextsUptoSaid : Prop := fnTextsUptoRow.holds Try.pinned (OpenSpec.upto fnTextsSpec)

end Rows
end Go.Proofs.Ytnoaaklkbfbdbaa
