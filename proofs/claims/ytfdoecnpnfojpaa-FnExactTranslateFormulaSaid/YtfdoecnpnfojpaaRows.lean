/-
  No cell of these rows narrows 'for every input' (looked for: loops, veiled, ifaces, maps, wideKeys, modest, calm, conditions, laid).
  DERIVED. THE GIVEN ROWS OF THIS SEAT. 8 by the template 'for every input the law returns true; each argument reads behind the call as it read before'; 0 by the template 'total and deterministic' (their statements: YtfdoecnpnfojpaaTotals.lean).
  GIVEN WITH THE SEED: the statements are not yours to turn. If you find one false, say at which input.
  Laid BY PROGRAM, IN A SANDBOX (cutbox-rows.mjs): the forced cells as the released guide's own fill.sh prints them over the translation 17c5b600e2e7463b… (all of the seat's roots in one cut). By AI agents, Wed Nov 11 2026. No macro, syntax, notation, axiom, sorry.
-/
import Derived.Test.YtfdoecnpnfojpaaChecked
import GoSem.Claim
import GoSem.ClaimJoined
import GoSem.ClaimMapViews
import Derived.JoinedTies
import Derived.KernelRfl
namespace Go.Proofs.Ytfdoecnpnfojpaa
/- THE CELL 'sum', in the pinned program and in every row, IS THE sha256 OF THE DUMP (.gsa) THAT YtfdoecnpnfojpaaProg.lean LOADS. Nothing in Lean hashes anything: it is a label: what it is worth is what the hold of that sum in a sandbox is worth. -/
noncomputable def Try.pinned : Pinned := { name := "ytfdoecnpnfojpaa", sum := "17c5b600e2e7463bcfeb5b06938c3f0bfd658d1b263b164ccbba5c23190f3d63", checked := Try.checked }
namespace Rows
def none {H : Type} : Left H := { results := [], args := [] }

/-- 'laws.FnExactIsFormula': WHATEVER THE INPUT: true; the input reads as it did. -/
def fnExactIsFormulaSpec : ChangeSpec := { name := "fnExactIsFormula", fn := fun _ => fun
  | [d] => { results := [.lit (.bool true)], args := [d] }
  | _ => none }
def fnExactIsFormulaRow : OpenClaim := { program := "ytfdoecnpnfojpaa", sum := "17c5b600e2e7463bcfeb5b06938c3f0bfd658d1b263b164ccbba5c23190f3d63", func := "loop.example/g01089/laws.FnExactIsFormula", spec := "fnExactIsFormula", unfollowed := true, recurses := true, apart := false }
def FnExactIsFormulaSaid : Prop := fnExactIsFormulaRow.holds Try.pinned (OpenSpec.ofChange fnExactIsFormulaSpec)

/-- ITS FALSE NEIGHBOUR: 'it returns false'. Refute it at one input. -/
def fnExactIsFormulaWrong : ChangeSpec := { name := "fnExactIsFormula", fn := fun _ => fun
  | [d] => { results := [.lit (.bool false)], args := [d] }
  | _ => none }
def FnExactIsFormulaWrongFalsely : Prop := fnExactIsFormulaRow.holds Try.pinned (OpenSpec.ofChange fnExactIsFormulaWrong)

/-- 'laws.FnExactIsPointFormula': WHATEVER THE INPUT: true; the input reads as it did. -/
def fnExactIsPointFormulaSpec : ChangeSpec := { name := "fnExactIsPointFormula", fn := fun _ => fun
  | [d] => { results := [.lit (.bool true)], args := [d] }
  | _ => none }
def fnExactIsPointFormulaRow : OpenClaim := { program := "ytfdoecnpnfojpaa", sum := "17c5b600e2e7463bcfeb5b06938c3f0bfd658d1b263b164ccbba5c23190f3d63", func := "loop.example/g01089/laws.FnExactIsPointFormula", spec := "fnExactIsPointFormula", unfollowed := true, recurses := true, apart := false }
def FnExactIsPointFormulaSaid : Prop := fnExactIsPointFormulaRow.holds Try.pinned (OpenSpec.ofChange fnExactIsPointFormulaSpec)

/-- ITS FALSE NEIGHBOUR: 'it returns false'. Refute it at one input. -/
def fnExactIsPointFormulaWrong : ChangeSpec := { name := "fnExactIsPointFormula", fn := fun _ => fun
  | [d] => { results := [.lit (.bool false)], args := [d] }
  | _ => none }
def FnExactIsPointFormulaWrongFalsely : Prop := fnExactIsPointFormulaRow.holds Try.pinned (OpenSpec.ofChange fnExactIsPointFormulaWrong)

/-- 'laws.FnExactIsSahlqvist': WHATEVER THE INPUT: true; the input reads as it did. -/
def fnExactIsSahlqvistSpec : ChangeSpec := { name := "fnExactIsSahlqvist", fn := fun _ => fun
  | [d] => { results := [.lit (.bool true)], args := [d] }
  | _ => none }
def fnExactIsSahlqvistRow : OpenClaim := { program := "ytfdoecnpnfojpaa", sum := "17c5b600e2e7463bcfeb5b06938c3f0bfd658d1b263b164ccbba5c23190f3d63", func := "loop.example/g01089/laws.FnExactIsSahlqvist", spec := "fnExactIsSahlqvist", unfollowed := true, recurses := true, apart := false }
def FnExactIsSahlqvistSaid : Prop := fnExactIsSahlqvistRow.holds Try.pinned (OpenSpec.ofChange fnExactIsSahlqvistSpec)

/-- ITS FALSE NEIGHBOUR: 'it returns false'. Refute it at one input. -/
def fnExactIsSahlqvistWrong : ChangeSpec := { name := "fnExactIsSahlqvist", fn := fun _ => fun
  | [d] => { results := [.lit (.bool false)], args := [d] }
  | _ => none }
def FnExactIsSahlqvistWrongFalsely : Prop := fnExactIsSahlqvistRow.holds Try.pinned (OpenSpec.ofChange fnExactIsSahlqvistWrong)

/-- 'laws.FnExactFreePoints': WHATEVER THE INPUT: true; the input reads as it did. -/
def fnExactFreePointsSpec : ChangeSpec := { name := "fnExactFreePoints", fn := fun _ => fun
  | [d] => { results := [.lit (.bool true)], args := [d] }
  | _ => none }
def fnExactFreePointsRow : OpenClaim := { program := "ytfdoecnpnfojpaa", sum := "17c5b600e2e7463bcfeb5b06938c3f0bfd658d1b263b164ccbba5c23190f3d63", func := "loop.example/g01089/laws.FnExactFreePoints", spec := "fnExactFreePoints", unfollowed := true, recurses := true, apart := false }
def FnExactFreePointsSaid : Prop := fnExactFreePointsRow.holds Try.pinned (OpenSpec.ofChange fnExactFreePointsSpec)

/-- ITS FALSE NEIGHBOUR: 'it returns false'. Refute it at one input. -/
def fnExactFreePointsWrong : ChangeSpec := { name := "fnExactFreePoints", fn := fun _ => fun
  | [d] => { results := [.lit (.bool false)], args := [d] }
  | _ => none }
def FnExactFreePointsWrongFalsely : Prop := fnExactFreePointsRow.holds Try.pinned (OpenSpec.ofChange fnExactFreePointsWrong)

/-- 'laws.FnExactPointText': WHATEVER THE INPUT: true; the input reads as it did. -/
def fnExactPointTextSpec : ChangeSpec := { name := "fnExactPointText", fn := fun _ => fun
  | [d] => { results := [.lit (.bool true)], args := [d] }
  | _ => none }
def fnExactPointTextRow : OpenClaim := { program := "ytfdoecnpnfojpaa", sum := "17c5b600e2e7463bcfeb5b06938c3f0bfd658d1b263b164ccbba5c23190f3d63", func := "loop.example/g01089/laws.FnExactPointText", spec := "fnExactPointText", unfollowed := true, recurses := true, apart := false }
def FnExactPointTextSaid : Prop := fnExactPointTextRow.holds Try.pinned (OpenSpec.ofChange fnExactPointTextSpec)

/-- ITS FALSE NEIGHBOUR: 'it returns false'. Refute it at one input. -/
def fnExactPointTextWrong : ChangeSpec := { name := "fnExactPointText", fn := fun _ => fun
  | [d] => { results := [.lit (.bool false)], args := [d] }
  | _ => none }
def FnExactPointTextWrongFalsely : Prop := fnExactPointTextRow.holds Try.pinned (OpenSpec.ofChange fnExactPointTextWrong)

/-- 'laws.FnExactTranslateFormula': WHATEVER THE INPUT: true; the input reads as it did. -/
def fnExactTranslateFormulaSpec : ChangeSpec := { name := "fnExactTranslateFormula", fn := fun _ => fun
  | [d1, d2] => { results := [.lit (.bool true)], args := [d1, d2] }
  | _ => none }
def fnExactTranslateFormulaRow : OpenClaim := { program := "ytfdoecnpnfojpaa", sum := "17c5b600e2e7463bcfeb5b06938c3f0bfd658d1b263b164ccbba5c23190f3d63", func := "loop.example/g01089/laws.FnExactTranslateFormula", spec := "fnExactTranslateFormula", unfollowed := true, recurses := true, apart := false }
def FnExactTranslateFormulaSaid : Prop := fnExactTranslateFormulaRow.holds Try.pinned (OpenSpec.ofChange fnExactTranslateFormulaSpec)

/-- ITS FALSE NEIGHBOUR: 'it returns false'. Refute it at one input. -/
def fnExactTranslateFormulaWrong : ChangeSpec := { name := "fnExactTranslateFormula", fn := fun _ => fun
  | [d1, d2] => { results := [.lit (.bool false)], args := [d1, d2] }
  | _ => none }
def FnExactTranslateFormulaWrongFalsely : Prop := fnExactTranslateFormulaRow.holds Try.pinned (OpenSpec.ofChange fnExactTranslateFormulaWrong)

/-- 'laws.FnExactJoinAll': WHATEVER THE INPUT: true; the input reads as it did. -/
def fnExactJoinAllSpec : ChangeSpec := { name := "fnExactJoinAll", fn := fun _ => fun
  | [d1, d2] => { results := [.lit (.bool true)], args := [d1, d2] }
  | _ => none }
def fnExactJoinAllRow : OpenClaim := { program := "ytfdoecnpnfojpaa", sum := "17c5b600e2e7463bcfeb5b06938c3f0bfd658d1b263b164ccbba5c23190f3d63", func := "loop.example/g01089/laws.FnExactJoinAll", spec := "fnExactJoinAll", unfollowed := true, recurses := true, apart := false }
def FnExactJoinAllSaid : Prop := fnExactJoinAllRow.holds Try.pinned (OpenSpec.ofChange fnExactJoinAllSpec)

/-- ITS FALSE NEIGHBOUR: 'it returns false'. Refute it at one input. -/
def fnExactJoinAllWrong : ChangeSpec := { name := "fnExactJoinAll", fn := fun _ => fun
  | [d1, d2] => { results := [.lit (.bool false)], args := [d1, d2] }
  | _ => none }
def FnExactJoinAllWrongFalsely : Prop := fnExactJoinAllRow.holds Try.pinned (OpenSpec.ofChange fnExactJoinAllWrong)

/-- 'laws.FnExactIsMorphism': WHATEVER THE INPUT: true; the input reads as it did. -/
def fnExactIsMorphismSpec : ChangeSpec := { name := "fnExactIsMorphism", fn := fun _ => fun
  | [d1, d2, d3] => { results := [.lit (.bool true)], args := [d1, d2, d3] }
  | _ => none }
def fnExactIsMorphismRow : OpenClaim := { program := "ytfdoecnpnfojpaa", sum := "17c5b600e2e7463bcfeb5b06938c3f0bfd658d1b263b164ccbba5c23190f3d63", func := "loop.example/g01089/laws.FnExactIsMorphism", spec := "fnExactIsMorphism", unfollowed := true, recurses := true, apart := false }
def FnExactIsMorphismSaid : Prop := fnExactIsMorphismRow.holds Try.pinned (OpenSpec.ofChange fnExactIsMorphismSpec)

/-- ITS FALSE NEIGHBOUR: 'it returns false'. Refute it at one input. -/
def fnExactIsMorphismWrong : ChangeSpec := { name := "fnExactIsMorphism", fn := fun _ => fun
  | [d1, d2, d3] => { results := [.lit (.bool false)], args := [d1, d2, d3] }
  | _ => none }
def FnExactIsMorphismWrongFalsely : Prop := fnExactIsMorphismRow.holds Try.pinned (OpenSpec.ofChange fnExactIsMorphismWrong)

/- THE SECOND FORM. 'bulk': how many values and letters a reading holds, each counted each time it is reached (what is shared counts as often as it is met; a slice's spare places count too). A statement '..UptoSaid' is the law's where the arguments, and the package variables that the reading takes, are together of bulk at most 1048576: NARROWER than '..Said'. Prove '..Said' where nothing that the law and all that it calls make is longer than what came in: it says more and counts as full. Else prove '..UptoSaid'. A law counts once. -/
mutual
def uptoBulk {H : Type} : DataW H → Nat
  | .lit (.string bytes) => bytes.length + 1
  | .lit _ => 1
  | .nil => 1
  | .ptr d => uptoBulk d + 1
  | .slice elems spare => uptoBulkAll elems + uptoBulkAll spare + 1
  | .agg parts => uptoBulkAll parts + 1
  | .iface _ d => uptoBulk d + 1
  | .map entries => uptoBulkEntries entries + 1
  | .held _ => 1
def uptoBulkAll {H : Type} : List (DataW H) → Nat
  | [] => 0
  | d :: r => uptoBulk d + uptoBulkAll r
def uptoBulkEntries {H : Type} : List (Lit × DataW H) → Nat
  | [] => 0
  | x :: r => uptoBulkEntry x + uptoBulkEntries r
def uptoBulkEntry {H : Type} : Lit × DataW H → Nat
  | (.string bytes, d) => bytes.length + uptoBulk d + 1
  | (_, d) => uptoBulk d + 1
 end
def uptoSmall : (H : Type) → List (DataW H) → Bool := fun _ ds => decide (uptoBulkAll ds ≤ 1048576)
def OpenSpec.upto (s : _root_.Go.ChangeSpec) : _root_.Go.OpenSpec := { _root_.Go.OpenSpec.ofChange s with cond := some uptoSmall }

/-- 'laws.FnExactIsFormula', WHERE WHAT IT READS IS OF BULK AT MOST 1048576: true; the input reads as it did. -/
def fnExactIsFormulaUptoRow : OpenClaim := { program := "ytfdoecnpnfojpaa", sum := "17c5b600e2e7463bcfeb5b06938c3f0bfd658d1b263b164ccbba5c23190f3d63", func := "loop.example/g01089/laws.FnExactIsFormula", spec := "fnExactIsFormula", unfollowed := true, recurses := true, apart := false, narrowed := true }
def FnExactIsFormulaUptoSaid : Prop := fnExactIsFormulaUptoRow.holds Try.pinned (OpenSpec.upto fnExactIsFormulaSpec)

/-- 'laws.FnExactIsPointFormula', WHERE WHAT IT READS IS OF BULK AT MOST 1048576: true; the input reads as it did. -/
def fnExactIsPointFormulaUptoRow : OpenClaim := { program := "ytfdoecnpnfojpaa", sum := "17c5b600e2e7463bcfeb5b06938c3f0bfd658d1b263b164ccbba5c23190f3d63", func := "loop.example/g01089/laws.FnExactIsPointFormula", spec := "fnExactIsPointFormula", unfollowed := true, recurses := true, apart := false, narrowed := true }
def FnExactIsPointFormulaUptoSaid : Prop := fnExactIsPointFormulaUptoRow.holds Try.pinned (OpenSpec.upto fnExactIsPointFormulaSpec)

/-- 'laws.FnExactIsSahlqvist', WHERE WHAT IT READS IS OF BULK AT MOST 1048576: true; the input reads as it did. -/
def fnExactIsSahlqvistUptoRow : OpenClaim := { program := "ytfdoecnpnfojpaa", sum := "17c5b600e2e7463bcfeb5b06938c3f0bfd658d1b263b164ccbba5c23190f3d63", func := "loop.example/g01089/laws.FnExactIsSahlqvist", spec := "fnExactIsSahlqvist", unfollowed := true, recurses := true, apart := false, narrowed := true }
def FnExactIsSahlqvistUptoSaid : Prop := fnExactIsSahlqvistUptoRow.holds Try.pinned (OpenSpec.upto fnExactIsSahlqvistSpec)

/-- 'laws.FnExactFreePoints', WHERE WHAT IT READS IS OF BULK AT MOST 1048576: true; the input reads as it did. -/
def fnExactFreePointsUptoRow : OpenClaim := { program := "ytfdoecnpnfojpaa", sum := "17c5b600e2e7463bcfeb5b06938c3f0bfd658d1b263b164ccbba5c23190f3d63", func := "loop.example/g01089/laws.FnExactFreePoints", spec := "fnExactFreePoints", unfollowed := true, recurses := true, apart := false, narrowed := true }
def FnExactFreePointsUptoSaid : Prop := fnExactFreePointsUptoRow.holds Try.pinned (OpenSpec.upto fnExactFreePointsSpec)

/-- 'laws.FnExactPointText', WHERE WHAT IT READS IS OF BULK AT MOST 1048576: true; the input reads as it did. -/
def fnExactPointTextUptoRow : OpenClaim := { program := "ytfdoecnpnfojpaa", sum := "17c5b600e2e7463bcfeb5b06938c3f0bfd658d1b263b164ccbba5c23190f3d63", func := "loop.example/g01089/laws.FnExactPointText", spec := "fnExactPointText", unfollowed := true, recurses := true, apart := false, narrowed := true }
def FnExactPointTextUptoSaid : Prop := fnExactPointTextUptoRow.holds Try.pinned (OpenSpec.upto fnExactPointTextSpec)

/-- 'laws.FnExactTranslateFormula', WHERE WHAT IT READS IS OF BULK AT MOST 1048576: true; the input reads as it did. -/
def fnExactTranslateFormulaUptoRow : OpenClaim := { program := "ytfdoecnpnfojpaa", sum := "17c5b600e2e7463bcfeb5b06938c3f0bfd658d1b263b164ccbba5c23190f3d63", func := "loop.example/g01089/laws.FnExactTranslateFormula", spec := "fnExactTranslateFormula", unfollowed := true, recurses := true, apart := false, narrowed := true }
def FnExactTranslateFormulaUptoSaid : Prop := fnExactTranslateFormulaUptoRow.holds Try.pinned (OpenSpec.upto fnExactTranslateFormulaSpec)

/-- 'laws.FnExactJoinAll', WHERE WHAT IT READS IS OF BULK AT MOST 1048576: true; the input reads as it did. -/
def fnExactJoinAllUptoRow : OpenClaim := { program := "ytfdoecnpnfojpaa", sum := "17c5b600e2e7463bcfeb5b06938c3f0bfd658d1b263b164ccbba5c23190f3d63", func := "loop.example/g01089/laws.FnExactJoinAll", spec := "fnExactJoinAll", unfollowed := true, recurses := true, apart := false, narrowed := true }
def FnExactJoinAllUptoSaid : Prop := fnExactJoinAllUptoRow.holds Try.pinned (OpenSpec.upto fnExactJoinAllSpec)

/-- 'laws.FnExactIsMorphism', WHERE WHAT IT READS IS OF BULK AT MOST 1048576: true; the input reads as it did. -/
def fnExactIsMorphismUptoRow : OpenClaim := { program := "ytfdoecnpnfojpaa", sum := "17c5b600e2e7463bcfeb5b06938c3f0bfd658d1b263b164ccbba5c23190f3d63", func := "loop.example/g01089/laws.FnExactIsMorphism", spec := "fnExactIsMorphism", unfollowed := true, recurses := true, apart := false, narrowed := true }
def FnExactIsMorphismUptoSaid : Prop := fnExactIsMorphismUptoRow.holds Try.pinned (OpenSpec.upto fnExactIsMorphismSpec)

end Rows
end Go.Proofs.Ytfdoecnpnfojpaa
