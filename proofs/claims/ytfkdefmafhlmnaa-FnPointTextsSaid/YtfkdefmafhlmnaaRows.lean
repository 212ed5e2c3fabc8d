/-
  No cell of these rows narrows 'for every input' (looked for: loops, veiled, ifaces, maps, wideKeys, modest, calm, conditions, laid).
  DERIVED. THE GIVEN ROWS OF THIS SEAT. 4 by the template 'for every input the law returns true; each argument reads behind the call as it read before'; 0 by the template 'total and deterministic' (their statements: YtfkdefmafhlmnaaTotals.lean).
  GIVEN WITH THE SEED: the statements are not yours to turn. If you find one false, say at which input.
  Laid BY PROGRAM, IN A SANDBOX (cutbox-rows.mjs): the forced cells as the released guide's own fill.sh prints them over the translation 2c2f7f30e2f904f1… (all of the seat's roots in one cut). By AI agents, Wed Nov 11 2026. No macro, syntax, notation, axiom, sorry.
-/
import Derived.Test.YtfkdefmafhlmnaaChecked
import GoSem.Claim
import GoSem.ClaimJoined
import GoSem.ClaimMapViews
import Derived.JoinedTies
import Derived.KernelRfl
namespace Go.Proofs.Ytfkdefmafhlmnaa
/- THE CELL 'sum', in the pinned program and in every row, IS THE sha256 OF THE DUMP (.gsa) THAT YtfkdefmafhlmnaaProg.lean LOADS. Nothing in Lean hashes anything: it is a label: what it is worth is what the hold of that sum in a sandbox is worth. -/
noncomputable def Try.pinned : Pinned := { name := "ytfkdefmafhlmnaa", sum := "2c2f7f30e2f904f13d80a16d513b8b4295daf64c85e453aa78c5695e8ae8330f", checked := Try.checked }
namespace Rows
def none {H : Type} : Left H := { results := [], args := [] }

/-- 'laws.FnPointTexts': WHATEVER THE INPUT: true; the input reads as it did. -/
def fnPointTextsSpec : ChangeSpec := { name := "fnPointTexts", fn := fun _ => fun
  | [d] => { results := [.lit (.bool true)], args := [d] }
  | _ => none }
def fnPointTextsRow : OpenClaim := { program := "ytfkdefmafhlmnaa", sum := "2c2f7f30e2f904f13d80a16d513b8b4295daf64c85e453aa78c5695e8ae8330f", func := "loop.example/g01089/laws.FnPointTexts", spec := "fnPointTexts", inPlace := ["internal/bytealg.IndexByteString"], unfollowed := true, recurses := true, apart := false }
def FnPointTextsSaid : Prop := fnPointTextsRow.holds Try.pinned (OpenSpec.ofChange fnPointTextsSpec)

/-- ITS FALSE NEIGHBOUR: 'it returns false'. Refute it at one input. -/
def fnPointTextsWrong : ChangeSpec := { name := "fnPointTexts", fn := fun _ => fun
  | [d] => { results := [.lit (.bool false)], args := [d] }
  | _ => none }
def FnPointTextsWrongFalsely : Prop := fnPointTextsRow.holds Try.pinned (OpenSpec.ofChange fnPointTextsWrong)

/-- 'laws.FnExactAllCongruences': WHATEVER THE INPUT: true; the input reads as it did. -/
def fnExactAllCongruencesSpec : ChangeSpec := { name := "fnExactAllCongruences", fn := fun _ => fun
  | [d] => { results := [.lit (.bool true)], args := [d] }
  | _ => none }
def fnExactAllCongruencesRow : OpenClaim := { program := "ytfkdefmafhlmnaa", sum := "2c2f7f30e2f904f13d80a16d513b8b4295daf64c85e453aa78c5695e8ae8330f", func := "loop.example/g01089/laws.FnExactAllCongruences", spec := "fnExactAllCongruences", unfollowed := true, recurses := true, apart := false }
def FnExactAllCongruencesSaid : Prop := fnExactAllCongruencesRow.holds Try.pinned (OpenSpec.ofChange fnExactAllCongruencesSpec)

/-- ITS FALSE NEIGHBOUR: 'it returns false'. Refute it at one input. -/
def fnExactAllCongruencesWrong : ChangeSpec := { name := "fnExactAllCongruences", fn := fun _ => fun
  | [d] => { results := [.lit (.bool false)], args := [d] }
  | _ => none }
def FnExactAllCongruencesWrongFalsely : Prop := fnExactAllCongruencesRow.holds Try.pinned (OpenSpec.ofChange fnExactAllCongruencesWrong)

/-- 'laws.FnExactUnravelFrame': WHATEVER THE INPUT: true; the input reads as it did. -/
def fnExactUnravelFrameSpec : ChangeSpec := { name := "fnExactUnravelFrame", fn := fun _ => fun
  | [d1, d2, d3] => { results := [.lit (.bool true)], args := [d1, d2, d3] }
  | _ => none }
def fnExactUnravelFrameRow : OpenClaim := { program := "ytfkdefmafhlmnaa", sum := "2c2f7f30e2f904f13d80a16d513b8b4295daf64c85e453aa78c5695e8ae8330f", func := "loop.example/g01089/laws.FnExactUnravelFrame", spec := "fnExactUnravelFrame", apart := false }
def FnExactUnravelFrameSaid : Prop := fnExactUnravelFrameRow.holds Try.pinned (OpenSpec.ofChange fnExactUnravelFrameSpec)

/-- ITS FALSE NEIGHBOUR: 'it returns false'. Refute it at one input. -/
def fnExactUnravelFrameWrong : ChangeSpec := { name := "fnExactUnravelFrame", fn := fun _ => fun
  | [d1, d2, d3] => { results := [.lit (.bool false)], args := [d1, d2, d3] }
  | _ => none }
def FnExactUnravelFrameWrongFalsely : Prop := fnExactUnravelFrameRow.holds Try.pinned (OpenSpec.ofChange fnExactUnravelFrameWrong)

/-- 'laws.FnExactParsePoint': WHATEVER THE INPUT: true; the input reads as it did. -/
def fnExactParsePointSpec : ChangeSpec := { name := "fnExactParsePoint", fn := fun _ => fun
  | [d] => { results := [.lit (.bool true)], args := [d] }
  | _ => none }
def fnExactParsePointRow : OpenClaim := { program := "ytfkdefmafhlmnaa", sum := "2c2f7f30e2f904f13d80a16d513b8b4295daf64c85e453aa78c5695e8ae8330f", func := "loop.example/g01089/laws.FnExactParsePoint", spec := "fnExactParsePoint", inPlace := ["internal/bytealg.IndexByteString"], unfollowed := true, recurses := true, apart := false }
def FnExactParsePointSaid : Prop := fnExactParsePointRow.holds Try.pinned (OpenSpec.ofChange fnExactParsePointSpec)

/-- ITS FALSE NEIGHBOUR: 'it returns false'. Refute it at one input. -/
def fnExactParsePointWrong : ChangeSpec := { name := "fnExactParsePoint", fn := fun _ => fun
  | [d] => { results := [.lit (.bool false)], args := [d] }
  | _ => none }
def FnExactParsePointWrongFalsely : Prop := fnExactParsePointRow.holds Try.pinned (OpenSpec.ofChange fnExactParsePointWrong)

/- THE SECOND FORM. 'bulk': how many values and letters a reading holds, each counted each time it is reached (what is shared counts as often as it is met; a slice's spare places count too). A statement '..UptoSaid' is the law's where the arguments, and the package variables that the reading takes, are together of bulk at most 1048576: NARROWER than '..Said'. Prove '..Said' where nothing that the law and all that it calls make is longer than what came in: it says more and counts as full. Else prove '..UptoSaid'. A law counts once. -/
mutual
def uptoBulk {H : Type} : DataW H → Nat
  | .lit (.string bytes) => bytes.length + 1
  | .lit _ => 1
  | .nil => 1
  | .ptr d => uptoBulk d + 1
  | .slice elems spare => uptoBulkAll elems + uptoBulkAll spare + 1
  | .agg parts => uptoBulkAll parts + 1
  | .iface _ d => uptoBulk d + 1
  | .map entries => uptoBulkEntries entries + 1
  | .held _ => 1
def uptoBulkAll {H : Type} : List (DataW H) → Nat
  | [] => 0
  | d :: r => uptoBulk d + uptoBulkAll r
def uptoBulkEntries {H : Type} : List (Lit × DataW H) → Nat
  | [] => 0
  | x :: r => uptoBulkEntry x + uptoBulkEntries r
def uptoBulkEntry {H : Type} : Lit × DataW H → Nat
  | (.string bytes, d) => bytes.length + uptoBulk d + 1
  | (_, d) => uptoBulk d + 1
 end
def uptoSmall : (H : Type) → List (DataW H) → Bool := fun _ ds => decide (uptoBulkAll ds ≤ 1048576)
def OpenSpec.upto (s : _root_.Go.ChangeSpec) : _root_.Go.OpenSpec := { _root_.Go.OpenSpec.ofChange s with cond := some uptoSmall }

/-- 'laws.FnPointTexts', WHERE WHAT IT READS IS OF BULK AT MOST 1048576: true; the input reads as it did. -/
def fnPointTextsUptoRow : OpenClaim := { program := "ytfkdefmafhlmnaa", sum := "2c2f7f30e2f904f13d80a16d513b8b4295daf64c85e453aa78c5695e8ae8330f", func := "loop.example/g01089/laws.FnPointTexts", spec := "fnPointTexts", inPlace := ["internal/bytealg.IndexByteString"], unfollowed := true, recurses := true, apart := false, narrowed := true }
def FnPointTextsUptoSaid : Prop := fnPointTextsUptoRow.holds Try.pinned (OpenSpec.upto fnPointTextsSpec)

/-- 'laws.FnExactAllCongruences', WHERE WHAT IT READS IS OF BULK AT MOST 1048576: true; the input reads as it did. -/
def fnExactAllCongruencesUptoRow : OpenClaim := { program := "ytfkdefmafhlmnaa", sum := "2c2f7f30e2f904f13d80a16d513b8b4295daf64c85e453aa78c5695e8ae8330f", func := "loop.example/g01089/laws.FnExactAllCongruences", spec := "fnExactAllCongruences", unfollowed := true, recurses := true, apart := false, narrowed := true }
def FnExactAllCongruencesUptoSaid : Prop := fnExactAllCongruencesUptoRow.holds Try.pinned (OpenSpec.upto fnExactAllCongruencesSpec)

/-- 'laws.FnExactUnravelFrame', WHERE WHAT IT READS IS OF BULK AT MOST 1048576: true; the input reads as it did. -/
def fnExactUnravelFrameUptoRow : OpenClaim := { program := "ytfkdefmafhlmnaa", sum := "2c2f7f30e2f904f13d80a16d513b8b4295daf64c85e453aa78c5695e8ae8330f", func := "loop.example/g01089/laws.FnExactUnravelFrame", spec := "fnExactUnravelFrame", apart := false, narrowed := true }
def FnExactUnravelFrameUptoSaid : Prop := fnExactUnravelFrameUptoRow.holds Try.pinned (OpenSpec.upto fnExactUnravelFrameSpec)

/-- 'laws.FnExactParsePoint', WHERE WHAT IT READS IS OF BULK AT MOST 1048576: true; the input reads as it did. -/
def fnExactParsePointUptoRow : OpenClaim := { program := "ytfkdefmafhlmnaa", sum := "2c2f7f30e2f904f13d80a16d513b8b4295daf64c85e453aa78c5695e8ae8330f", func := "loop.example/g01089/laws.FnExactParsePoint", spec := "fnExactParsePoint", inPlace := ["internal/bytealg.IndexByteString"], unfollowed := true, recurses := true, apart := false, narrowed := true }
def FnExactParsePointUptoSaid : Prop := fnExactParsePointUptoRow.holds Try.pinned (OpenSpec.upto fnExactParsePointSpec)

end Rows
end Go.Proofs.Ytfkdefmafhlmnaa
