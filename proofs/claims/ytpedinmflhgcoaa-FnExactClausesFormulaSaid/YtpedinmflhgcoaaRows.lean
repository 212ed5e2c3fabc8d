/-
  No cell of these rows narrows 'for every input' (looked for: loops, veiled, ifaces, maps, wideKeys, modest, calm, conditions, laid).
  DERIVED. THE GIVEN ROWS OF THIS SEAT. 8 by the template 'for every input the law returns true; each argument reads behind the call as it read before'; 0 by the template 'total and deterministic' (their statements: YtpedinmflhgcoaaTotals.lean).
  GIVEN WITH THE SEED: the statements are not yours to turn. If you find one false, say at which input.
  Laid BY PROGRAM, IN A SANDBOX (cutbox-rows.mjs): the forced cells as the released guide's own fill.sh prints them over the translation fef405752708bc6f… (all of the seat's roots in one cut). By AI agents, Wed Nov 11 2026. No macro, syntax, notation, axiom, sorry.
-/
import Derived.Test.YtpedinmflhgcoaaChecked
import GoSem.Claim
import GoSem.ClaimJoined
import GoSem.ClaimMapViews
import Derived.JoinedTies
import Derived.KernelRfl
namespace Go.Proofs.Ytpedinmflhgcoaa
/- THE CELL 'sum', in the pinned program and in every row, IS THE sha256 OF THE DUMP (.gsa) THAT YtpedinmflhgcoaaProg.lean LOADS. Nothing in Lean hashes anything: it is a label: what it is worth is what the hold of that sum in a sandbox is worth. -/
noncomputable def Try.pinned : Pinned := { name := "ytpedinmflhgcoaa", sum := "fef405752708bc6fc6666bed0f1b36043e1a11291e53d56c6c00a2586ac5ea3c", checked := Try.checked }
namespace Rows
def none {H : Type} : Left H := { results := [], args := [] }

/-- 'laws.FnExactInverseRelation': WHATEVER THE INPUT: true; the input reads as it did. -/
def fnExactInverseRelationSpec : ChangeSpec := { name := "fnExactInverseRelation", fn := fun _ => fun
  | [d] => { results := [.lit (.bool true)], args := [d] }
  | _ => none }
def fnExactInverseRelationRow : OpenClaim := { program := "ytpedinmflhgcoaa", sum := "fef405752708bc6fc6666bed0f1b36043e1a11291e53d56c6c00a2586ac5ea3c", func := "loop.example/g01089/laws.FnExactInverseRelation", spec := "fnExactInverseRelation", apart := false }
def FnExactInverseRelationSaid : Prop := fnExactInverseRelationRow.holds Try.pinned (OpenSpec.ofChange fnExactInverseRelationSpec)

/-- ITS FALSE NEIGHBOUR: 'it returns false'. Refute it at one input. -/
def fnExactInverseRelationWrong : ChangeSpec := { name := "fnExactInverseRelation", fn := fun _ => fun
  | [d] => { results := [.lit (.bool false)], args := [d] }
  | _ => none }
def FnExactInverseRelationWrongFalsely : Prop := fnExactInverseRelationRow.holds Try.pinned (OpenSpec.ofChange fnExactInverseRelationWrong)

/-- 'laws.FnRelations': WHATEVER THE INPUT: true; the input reads as it did. -/
def fnRelationsSpec : ChangeSpec := { name := "fnRelations", fn := fun _ => fun
  | [d] => { results := [.lit (.bool true)], args := [d] }
  | _ => none }
def fnRelationsRow : OpenClaim := { program := "ytpedinmflhgcoaa", sum := "fef405752708bc6fc6666bed0f1b36043e1a11291e53d56c6c00a2586ac5ea3c", func := "loop.example/g01089/laws.FnRelations", spec := "fnRelations", apart := false }
def FnRelationsSaid : Prop := fnRelationsRow.holds Try.pinned (OpenSpec.ofChange fnRelationsSpec)

/-- ITS FALSE NEIGHBOUR: 'it returns false'. Refute it at one input. -/
def fnRelationsWrong : ChangeSpec := { name := "fnRelations", fn := fun _ => fun
  | [d] => { results := [.lit (.bool false)], args := [d] }
  | _ => none }
def FnRelationsWrongFalsely : Prop := fnRelationsRow.holds Try.pinned (OpenSpec.ofChange fnRelationsWrong)

/-- 'laws.FnExactFrameFlags': WHATEVER THE INPUT: true; the input reads as it did. -/
def fnExactFrameFlagsSpec : ChangeSpec := { name := "fnExactFrameFlags", fn := fun _ => fun
  | [d] => { results := [.lit (.bool true)], args := [d] }
  | _ => none }
def fnExactFrameFlagsRow : OpenClaim := { program := "ytpedinmflhgcoaa", sum := "fef405752708bc6fc6666bed0f1b36043e1a11291e53d56c6c00a2586ac5ea3c", func := "loop.example/g01089/laws.FnExactFrameFlags", spec := "fnExactFrameFlags", apart := false }
def FnExactFrameFlagsSaid : Prop := fnExactFrameFlagsRow.holds Try.pinned (OpenSpec.ofChange fnExactFrameFlagsSpec)

/-- ITS FALSE NEIGHBOUR: 'it returns false'. Refute it at one input. -/
def fnExactFrameFlagsWrong : ChangeSpec := { name := "fnExactFrameFlags", fn := fun _ => fun
  | [d] => { results := [.lit (.bool false)], args := [d] }
  | _ => none }
def FnExactFrameFlagsWrongFalsely : Prop := fnExactFrameFlagsRow.holds Try.pinned (OpenSpec.ofChange fnExactFrameFlagsWrong)

/-- 'laws.FnExactCloseFrame': WHATEVER THE INPUT: true; the input reads as it did. -/
def fnExactCloseFrameSpec : ChangeSpec := { name := "fnExactCloseFrame", fn := fun _ => fun
  | [d1, d2] => { results := [.lit (.bool true)], args := [d1, d2] }
  | _ => none }
def fnExactCloseFrameRow : OpenClaim := { program := "ytpedinmflhgcoaa", sum := "fef405752708bc6fc6666bed0f1b36043e1a11291e53d56c6c00a2586ac5ea3c", func := "loop.example/g01089/laws.FnExactCloseFrame", spec := "fnExactCloseFrame", apart := false }
def FnExactCloseFrameSaid : Prop := fnExactCloseFrameRow.holds Try.pinned (OpenSpec.ofChange fnExactCloseFrameSpec)

/-- ITS FALSE NEIGHBOUR: 'it returns false'. Refute it at one input. -/
def fnExactCloseFrameWrong : ChangeSpec := { name := "fnExactCloseFrame", fn := fun _ => fun
  | [d1, d2] => { results := [.lit (.bool false)], args := [d1, d2] }
  | _ => none }
def FnExactCloseFrameWrongFalsely : Prop := fnExactCloseFrameRow.holds Try.pinned (OpenSpec.ofChange fnExactCloseFrameWrong)

/-- 'laws.FnClosures': WHATEVER THE INPUT: true; the input reads as it did. -/
def fnClosuresSpec : ChangeSpec := { name := "fnClosures", fn := fun _ => fun
  | [d] => { results := [.lit (.bool true)], args := [d] }
  | _ => none }
def fnClosuresRow : OpenClaim := { program := "ytpedinmflhgcoaa", sum := "fef405752708bc6fc6666bed0f1b36043e1a11291e53d56c6c00a2586ac5ea3c", func := "loop.example/g01089/laws.FnClosures", spec := "fnClosures", apart := false }
def FnClosuresSaid : Prop := fnClosuresRow.holds Try.pinned (OpenSpec.ofChange fnClosuresSpec)

/-- ITS FALSE NEIGHBOUR: 'it returns false'. Refute it at one input. -/
def fnClosuresWrong : ChangeSpec := { name := "fnClosures", fn := fun _ => fun
  | [d] => { results := [.lit (.bool false)], args := [d] }
  | _ => none }
def FnClosuresWrongFalsely : Prop := fnClosuresRow.holds Try.pinned (OpenSpec.ofChange fnClosuresWrong)

/-- 'laws.FnExactJoinAll': WHATEVER THE INPUT: true; the input reads as it did. -/
def fnExactJoinAllSpec : ChangeSpec := { name := "fnExactJoinAll", fn := fun _ => fun
  | [d1, d2] => { results := [.lit (.bool true)], args := [d1, d2] }
  | _ => none }
def fnExactJoinAllRow : OpenClaim := { program := "ytpedinmflhgcoaa", sum := "fef405752708bc6fc6666bed0f1b36043e1a11291e53d56c6c00a2586ac5ea3c", func := "loop.example/g01089/laws.FnExactJoinAll", spec := "fnExactJoinAll", apart := false }
def FnExactJoinAllSaid : Prop := fnExactJoinAllRow.holds Try.pinned (OpenSpec.ofChange fnExactJoinAllSpec)

/-- ITS FALSE NEIGHBOUR: 'it returns false'. Refute it at one input. -/
def fnExactJoinAllWrong : ChangeSpec := { name := "fnExactJoinAll", fn := fun _ => fun
  | [d1, d2] => { results := [.lit (.bool false)], args := [d1, d2] }
  | _ => none }
def FnExactJoinAllWrongFalsely : Prop := fnExactJoinAllRow.holds Try.pinned (OpenSpec.ofChange fnExactJoinAllWrong)

/-- 'laws.FnExactCompareFormulas': WHATEVER THE INPUT: true; the input reads as it did. -/
def fnExactCompareFormulasSpec : ChangeSpec := { name := "fnExactCompareFormulas", fn := fun _ => fun
  | [d1, d2] => { results := [.lit (.bool true)], args := [d1, d2] }
  | _ => none }
def fnExactCompareFormulasRow : OpenClaim := { program := "ytpedinmflhgcoaa", sum := "fef405752708bc6fc6666bed0f1b36043e1a11291e53d56c6c00a2586ac5ea3c", func := "loop.example/g01089/laws.FnExactCompareFormulas", spec := "fnExactCompareFormulas", inPlace := ["internal/bytealg.abigen_runtime_cmpstring"], recurses := true, apart := false }
def FnExactCompareFormulasSaid : Prop := fnExactCompareFormulasRow.holds Try.pinned (OpenSpec.ofChange fnExactCompareFormulasSpec)

/-- ITS FALSE NEIGHBOUR: 'it returns false'. Refute it at one input. -/
def fnExactCompareFormulasWrong : ChangeSpec := { name := "fnExactCompareFormulas", fn := fun _ => fun
  | [d1, d2] => { results := [.lit (.bool false)], args := [d1, d2] }
  | _ => none }
def FnExactCompareFormulasWrongFalsely : Prop := fnExactCompareFormulasRow.holds Try.pinned (OpenSpec.ofChange fnExactCompareFormulasWrong)

/-- 'laws.FnExactClausesFormula': WHATEVER THE INPUT: true; the input reads as it did. -/
def fnExactClausesFormulaSpec : ChangeSpec := { name := "fnExactClausesFormula", fn := fun _ => fun
  | [d] => { results := [.lit (.bool true)], args := [d] }
  | _ => none }
def fnExactClausesFormulaRow : OpenClaim := { program := "ytpedinmflhgcoaa", sum := "fef405752708bc6fc6666bed0f1b36043e1a11291e53d56c6c00a2586ac5ea3c", func := "loop.example/g01089/laws.FnExactClausesFormula", spec := "fnExactClausesFormula", apart := false }
def FnExactClausesFormulaSaid : Prop := fnExactClausesFormulaRow.holds Try.pinned (OpenSpec.ofChange fnExactClausesFormulaSpec)

/-- ITS FALSE NEIGHBOUR: 'it returns false'. Refute it at one input. -/
def fnExactClausesFormulaWrong : ChangeSpec := { name := "fnExactClausesFormula", fn := fun _ => fun
  | [d] => { results := [.lit (.bool false)], args := [d] }
  | _ => none }
def FnExactClausesFormulaWrongFalsely : Prop := fnExactClausesFormulaRow.holds Try.pinned (OpenSpec.ofChange fnExactClausesFormulaWrong)

/- THE SECOND FORM. 'bulk': how many values and letters a reading holds, each counted each time it is reached (what is shared counts as often as it is met; a slice's spare places count too). A statement '..UptoSaid' is the law's where the arguments, and the package variables that the reading takes, are together of bulk at most 1048576: NARROWER than '..Said'. Prove '..Said' where nothing that the law and all that it calls make is longer than what came in: it says more and counts as full. Else prove '..UptoSaid'. A law counts once. -/
mutual
def uptoBulk {H : Type} : DataW H → Nat
  | .lit (.string bytes) => bytes.length + 1
  | .lit _ => 1
  | .nil => 1
  | .ptr d => uptoBulk d + 1
  | .slice elems spare => uptoBulkAll elems + uptoBulkAll spare + 1
  | .agg parts => uptoBulkAll parts + 1
  | .iface _ d => uptoBulk d + 1
  | .map entries => uptoBulkEntries entries + 1
  | .held _ => 1
def uptoBulkAll {H : Type} : List (DataW H) → Nat
  | [] => 0
  | d :: r => uptoBulk d + uptoBulkAll r
def uptoBulkEntries {H : Type} : List (Lit × DataW H) → Nat
  | [] => 0
  | x :: r => uptoBulkEntry x + uptoBulkEntries r
def uptoBulkEntry {H : Type} : Lit × DataW H → Nat
  | (.string bytes, d) => bytes.length + uptoBulk d + 1
  | (_, d) => uptoBulk d + 1
 end
def uptoSmall : (H : Type) → List (DataW H) → Bool := fun _ ds => decide (uptoBulkAll ds ≤ 1048576)
def OpenSpec.upto (s : _root_.Go.ChangeSpec) : _root_.Go.OpenSpec := { _root_.Go.OpenSpec.ofChange s with cond := some uptoSmall }

/-- 'laws.FnExactInverseRelation', WHERE WHAT IT READS IS OF BULK AT MOST 1048576: true; the input reads as it did. -/
def fnExactInverseRelationUptoRow : OpenClaim := { program := "ytpedinmflhgcoaa", sum := "fef405752708bc6fc6666bed0f1b36043e1a11291e53d56c6c00a2586ac5ea3c", func := "loop.example/g01089/laws.FnExactInverseRelation", spec := "fnExactInverseRelation", apart := false, narrowed := true }
def FnExactInverseRelationUptoSaid : Prop := fnExactInverseRelationUptoRow.holds Try.pinned (OpenSpec.upto fnExactInverseRelationSpec)

/-- 'laws.FnRelations', WHERE WHAT IT READS IS OF BULK AT MOST 1048576: true; the input reads as it did. -/
def fnRelationsUptoRow : OpenClaim := { program := "ytpedinmflhgcoaa", sum := "fef405752708bc6fc6666bed0f1b36043e1a11291e53d56c6c00a2586ac5ea3c", func := "loop.example/g01089/laws.FnRelations", spec := "fnRelations", apart := false, narrowed := true }
def FnRelationsUptoSaid : Prop := fnRelationsUptoRow.holds Try.pinned (OpenSpec.upto fnRelationsSpec)

/-- 'laws.FnExactFrameFlags', WHERE WHAT IT READS IS OF BULK AT MOST 1048576: true; the input reads as it did. -/
def fnExactFrameFlagsUptoRow : OpenClaim := { program := "ytpedinmflhgcoaa", sum := "fef405752708bc6fc6666bed0f1b36043e1a11291e53d56c6c00a2586ac5ea3c", func := "loop.example/g01089/laws.FnExactFrameFlags", spec := "fnExactFrameFlags", apart := false, narrowed := true }
def FnExactFrameFlagsUptoSaid : Prop := fnExactFrameFlagsUptoRow.holds Try.pinned (OpenSpec.upto fnExactFrameFlagsSpec)

/-- 'laws.FnExactCloseFrame', WHERE WHAT IT READS IS OF BULK AT MOST 1048576: true; the input reads as it did. -/
def fnExactCloseFrameUptoRow : OpenClaim := { program := "ytpedinmflhgcoaa", sum := "fef405752708bc6fc6666bed0f1b36043e1a11291e53d56c6c00a2586ac5ea3c", func := "loop.example/g01089/laws.FnExactCloseFrame", spec := "fnExactCloseFrame", apart := false, narrowed := true }
def FnExactCloseFrameUptoSaid : Prop := fnExactCloseFrameUptoRow.holds Try.pinned (OpenSpec.upto fnExactCloseFrameSpec)

/-- 'laws.FnClosures', WHERE WHAT IT READS IS OF BULK AT MOST 1048576: true; the input reads as it did. -/
def fnClosuresUptoRow : OpenClaim := { program := "ytpedinmflhgcoaa", sum := "fef405752708bc6fc6666bed0f1b36043e1a11291e53d56c6c00a2586ac5ea3c", func := "loop.example/g01089/laws.FnClosures", spec := "fnClosures", apart := false, narrowed := true }
def FnClosuresUptoSaid : Prop := fnClosuresUptoRow.holds Try.pinned (OpenSpec.upto fnClosuresSpec)

/-- 'laws.FnExactJoinAll', WHERE WHAT IT READS IS OF BULK AT MOST 1048576: true; the input reads as it did. -/
def fnExactJoinAllUptoRow : OpenClaim := { program := "ytpedinmflhgcoaa", sum := "fef405752708bc6fc6666bed0f1b36043e1a11291e53d56c6c00a2586ac5ea3c", func := "loop.example/g01089/laws.FnExactJoinAll", spec := "fnExactJoinAll", apart := false, narrowed := true }
def FnExactJoinAllUptoSaid : Prop := fnExactJoinAllUptoRow.holds Try.pinned (OpenSpec.upto fnExactJoinAllSpec)

/-- 'laws.FnExactCompareFormulas', WHERE WHAT IT READS IS OF BULK AT MOST 1048576: true; the input reads as it did. -/
def fnExactCompareFormulasUptoRow : OpenClaim := { program := "ytpedinmflhgcoaa", sum := "fef405752708bc6fc6666bed0f1b36043e1a11291e53d56c6c00a2586ac5ea3c", func := "loop.example/g01089/laws.FnExactCompareFormulas", spec := "fnExactCompareFormulas", inPlace := ["internal/bytealg.abigen_runtime_cmpstring"], recurses := true, apart := false, narrowed := true }
def FnExactCompareFormulasUptoSaid : Prop := fnExactCompareFormulasUptoRow.holds Try.pinned (OpenSpec.upto fnExactCompareFormulasSpec)

/-- 'laws.FnExactClausesFormula', WHERE WHAT IT READS IS OF BULK AT MOST 1048576: true; the input reads as it did. -/
def fnExactClausesFormulaUptoRow : OpenClaim := { program := "ytpedinmflhgcoaa", sum := "fef405752708bc6fc6666bed0f1b36043e1a11291e53d56c6c00a2586ac5ea3c", func := "loop.example/g01089/laws.FnExactClausesFormula", spec := "fnExactClausesFormula", apart := false, narrowed := true }
def FnExactClausesFormulaUptoSaid : Prop := fnExactClausesFormulaUptoRow.holds Try.pinned (OpenSpec.upto fnExactClausesFormulaSpec)

end Rows
end Go.Proofs.Ytpedinmflhgcoaa
