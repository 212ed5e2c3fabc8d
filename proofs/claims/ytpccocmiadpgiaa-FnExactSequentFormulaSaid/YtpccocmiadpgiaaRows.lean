/-
  No cell of these rows narrows 'for every input' (looked for: loops, veiled, ifaces, maps, wideKeys, modest, calm, conditions, laid).
  DERIVED. THE GIVEN ROWS OF THIS SEAT. 3 by the template 'for every input the law returns true; each argument reads behind the call as it read before'; 0 by the template 'total and deterministic' (their statements: YtpccocmiadpgiaaTotals.lean).
  GIVEN WITH THE SEED: the statements are not yours to turn. If you find one false, say at which input.
  Laid BY PROGRAM, IN A SANDBOX (cutbox-rows.mjs): the forced cells as the released guide's own fill.sh prints them over the translation 2072e1d875d6839d… (all of the seat's roots in one cut). By AI agents, Wed Nov 11 2026. No macro, syntax, notation, axiom, sorry.
-/
import Derived.Test.YtpccocmiadpgiaaChecked
import GoSem.Claim
import GoSem.ClaimJoined
import GoSem.ClaimMapViews
import Derived.JoinedTies
import Derived.KernelRfl
namespace Go.Proofs.Ytpccocmiadpgiaa
/- THE CELL 'sum', in the pinned program and in every row, IS THE sha256 OF THE DUMP (.gsa) THAT YtpccocmiadpgiaaProg.lean LOADS. Nothing in Lean hashes anything: it is a label: what it is worth is what the hold of that sum in a sandbox is worth. -/
noncomputable def Try.pinned : Pinned := { name := "ytpccocmiadpgiaa", sum := "2072e1d875d6839dd726452c2d6f3096072d25df787d396d0fc2e9b77b026259", checked := Try.checked }
namespace Rows
def none {H : Type} : Left H := { results := [], args := [] }

/-- 'laws.FnExactIsSequentLogic': WHATEVER THE INPUT: true; the input reads as it did. -/
def fnExactIsSequentLogicSpec : ChangeSpec := { name := "fnExactIsSequentLogic", fn := fun _ => fun
  | [d] => { results := [.lit (.bool true)], args := [d] }
  | _ => none }
def fnExactIsSequentLogicRow : OpenClaim := { program := "ytpccocmiadpgiaa", sum := "2072e1d875d6839dd726452c2d6f3096072d25df787d396d0fc2e9b77b026259", func := "loop.example/g01089/laws.FnExactIsSequentLogic", spec := "fnExactIsSequentLogic", apart := false }
def FnExactIsSequentLogicSaid : Prop := fnExactIsSequentLogicRow.holds Try.pinned (OpenSpec.ofChange fnExactIsSequentLogicSpec)

/-- ITS FALSE NEIGHBOUR: 'it returns false'. Refute it at one input. -/
def fnExactIsSequentLogicWrong : ChangeSpec := { name := "fnExactIsSequentLogic", fn := fun _ => fun
  | [d] => { results := [.lit (.bool false)], args := [d] }
  | _ => none }
def FnExactIsSequentLogicWrongFalsely : Prop := fnExactIsSequentLogicRow.holds Try.pinned (OpenSpec.ofChange fnExactIsSequentLogicWrong)

/-- 'laws.FnExactIsModalSequent': WHATEVER THE INPUT: true; the input reads as it did. -/
def fnExactIsModalSequentSpec : ChangeSpec := { name := "fnExactIsModalSequent", fn := fun _ => fun
  | [d] => { results := [.lit (.bool true)], args := [d] }
  | _ => none }
def fnExactIsModalSequentRow : OpenClaim := { program := "ytpccocmiadpgiaa", sum := "2072e1d875d6839dd726452c2d6f3096072d25df787d396d0fc2e9b77b026259", func := "loop.example/g01089/laws.FnExactIsModalSequent", spec := "fnExactIsModalSequent", inPlace := ["internal/bytealg.IndexByteString", "internal/bytealg.IndexString"], recurses := true, named := ["internal/bytealg.MaxLen"], apart := false }
def FnExactIsModalSequentSaid : Prop := fnExactIsModalSequentRow.holds Try.pinned (OpenSpec.ofChange fnExactIsModalSequentSpec)

/-- ITS FALSE NEIGHBOUR: 'it returns false'. Refute it at one input. -/
def fnExactIsModalSequentWrong : ChangeSpec := { name := "fnExactIsModalSequent", fn := fun _ => fun
  | [d] => { results := [.lit (.bool false)], args := [d] }
  | _ => none }
def FnExactIsModalSequentWrongFalsely : Prop := fnExactIsModalSequentRow.holds Try.pinned (OpenSpec.ofChange fnExactIsModalSequentWrong)

/-- 'laws.FnExactSequentFormula': WHATEVER THE INPUT: true; the input reads as it did. -/
def fnExactSequentFormulaSpec : ChangeSpec := { name := "fnExactSequentFormula", fn := fun _ => fun
  | [d] => { results := [.lit (.bool true)], args := [d] }
  | _ => none }
def fnExactSequentFormulaRow : OpenClaim := { program := "ytpccocmiadpgiaa", sum := "2072e1d875d6839dd726452c2d6f3096072d25df787d396d0fc2e9b77b026259", func := "loop.example/g01089/laws.FnExactSequentFormula", spec := "fnExactSequentFormula", inPlace := ["internal/bytealg.IndexByteString", "internal/bytealg.IndexString"], recurses := true, named := ["internal/bytealg.MaxLen"], apart := false }
def FnExactSequentFormulaSaid : Prop := fnExactSequentFormulaRow.holds Try.pinned (OpenSpec.ofChange fnExactSequentFormulaSpec)

/-- ITS FALSE NEIGHBOUR: 'it returns false'. Refute it at one input. -/
def fnExactSequentFormulaWrong : ChangeSpec := { name := "fnExactSequentFormula", fn := fun _ => fun
  | [d] => { results := [.lit (.bool false)], args := [d] }
  | _ => none }
def FnExactSequentFormulaWrongFalsely : Prop := fnExactSequentFormulaRow.holds Try.pinned (OpenSpec.ofChange fnExactSequentFormulaWrong)

/- THE SECOND FORM. 'bulk': how many values and letters a reading holds, each counted each time it is reached (what is shared counts as often as it is met; a slice's spare places count too). A statement '..UptoSaid' is the law's where the arguments, and the package variables that the reading takes, are together of bulk at most 1048576: NARROWER than '..Said'. Prove '..Said' where nothing that the law and all that it calls make is longer than what came in: it says more and counts as full. Else prove '..UptoSaid'. A law counts once. -/
mutual
def uptoBulk {H : Type} : DataW H → Nat
  | .lit (.string bytes) => bytes.length + 1
  | .lit _ => 1
  | .nil => 1
  | .ptr d => uptoBulk d + 1
  | .slice elems spare => uptoBulkAll elems + uptoBulkAll spare + 1
  | .agg parts => uptoBulkAll parts + 1
  | .iface _ d => uptoBulk d + 1
  | .map entries => uptoBulkEntries entries + 1
  | .held _ => 1
def uptoBulkAll {H : Type} : List (DataW H) → Nat
  | [] => 0
  | d :: r => uptoBulk d + uptoBulkAll r
def uptoBulkEntries {H : Type} : List (Lit × DataW H) → Nat
  | [] => 0
  | x :: r => uptoBulkEntry x + uptoBulkEntries r
def uptoBulkEntry {H : Type} : Lit × DataW H → Nat
  | (.string bytes, d) => bytes.length + uptoBulk d + 1
  | (_, d) => uptoBulk d + 1
 end
def uptoSmall : (H : Type) → List (DataW H) → Bool := fun _ ds => decide (uptoBulkAll ds ≤ 1048576)
def OpenSpec.upto (s : _root_.Go.ChangeSpec) : _root_.Go.OpenSpec := { _root_.Go.OpenSpec.ofChange s with cond := some uptoSmall }

/-- 'laws.FnExactIsSequentLogic', WHERE WHAT IT READS IS OF BULK AT MOST 1048576: true; the input reads as it did. -/
def fnExactIsSequentLogicUptoRow : OpenClaim := { program := "ytpccocmiadpgiaa", sum := "2072e1d875d6839dd726452c2d6f3096072d25df787d396d0fc2e9b77b026259", func := "loop.example/g01089/laws.FnExactIsSequentLogic", spec := "fnExactIsSequentLogic", apart := false, narrowed := true }
def FnExactIsSequentLogicUptoSaid : Prop := fnExactIsSequentLogicUptoRow.holds Try.pinned (OpenSpec.upto fnExactIsSequentLogicSpec)

/-- 'laws.FnExactIsModalSequent', WHERE WHAT IT READS IS OF BULK AT MOST 1048576: true; the input reads as it did. -/
def fnExactIsModalSequentUptoRow : OpenClaim := { program := "ytpccocmiadpgiaa", sum := "2072e1d875d6839dd726452c2d6f3096072d25df787d396d0fc2e9b77b026259", func := "loop.example/g01089/laws.FnExactIsModalSequent", spec := "fnExactIsModalSequent", inPlace := ["internal/bytealg.IndexByteString", "internal/bytealg.IndexString"], recurses := true, named := ["internal/bytealg.MaxLen"], apart := false, narrowed := true }
def FnExactIsModalSequentUptoSaid : Prop := fnExactIsModalSequentUptoRow.holds Try.pinned (OpenSpec.upto fnExactIsModalSequentSpec)

/-- 'laws.FnExactSequentFormula', WHERE WHAT IT READS IS OF BULK AT MOST 1048576: true; the input reads as it did. -/
def fnExactSequentFormulaUptoRow : OpenClaim := { program := "ytpccocmiadpgiaa", sum := "2072e1d875d6839dd726452c2d6f3096072d25df787d396d0fc2e9b77b026259", func := "loop.example/g01089/laws.FnExactSequentFormula", spec := "fnExactSequentFormula", inPlace := ["internal/bytealg.IndexByteString", "internal/bytealg.IndexString"], recurses := true, named := ["internal/bytealg.MaxLen"], apart := false, narrowed := true }
def FnExactSequentFormulaUptoSaid : Prop := fnExactSequentFormulaUptoRow.holds Try.pinned (OpenSpec.upto fnExactSequentFormulaSpec)

end Rows
end Go.Proofs.Ytpccocmiadpgiaa
