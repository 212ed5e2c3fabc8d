/-
  No cell of these rows narrows 'for every input' (looked for: loops, veiled, ifaces, maps, wideKeys, modest, calm, conditions, laid).
  DERIVED. THE GIVEN ROWS OF THIS SEAT. 14 by the template 'for every input the law returns true; each argument reads behind the call as it read before'; 0 by the template 'total and deterministic' (their statements: YtckkkleegohkfaaTotals.lean).
  GIVEN WITH THE SEED: the statements are not yours to turn. If you find one false, say at which input.
  Laid BY PROGRAM, IN A SANDBOX (cutbox-rows.mjs): the forced cells as the released guide's own fill.sh prints them over the translation bf1c39ee41523e11… (all of the seat's roots in one cut). By AI agents, Wed Nov 11 2026. No macro, syntax, notation, axiom, sorry.
-/
import Derived.Test.YtckkkleegohkfaaChecked
import GoSem.Claim
import GoSem.ClaimJoined
import GoSem.ClaimMapViews
import Derived.JoinedTies
import Derived.KernelRfl
namespace Go.Proofs.Ytckkkleegohkfaa
/- THE CELL 'sum', in the pinned program and in every row, IS THE sha256 OF THE DUMP (.gsa) THAT YtckkkleegohkfaaProg.lean LOADS. Nothing in Lean hashes anything: it is a label: what it is worth is what the hold of that sum in a sandbox is worth. -/
noncomputable def Try.pinned : Pinned := { name := "ytckkkleegohkfaa", sum := "bf1c39ee41523e11b6bfd1074807a4345f74a8ffd4751069035c49162db5156a", checked := Try.checked }
namespace Rows
def none {H : Type} : Left H := { results := [], args := [] }

/-- 'laws.FnMasks': WHATEVER THE INPUT: true; the input reads as it did. -/
def fnMasksSpec : ChangeSpec := { name := "fnMasks", fn := fun _ => fun
  | [d] => { results := [.lit (.bool true)], args := [d] }
  | _ => none }
def fnMasksRow : OpenClaim := { program := "ytckkkleegohkfaa", sum := "bf1c39ee41523e11b6bfd1074807a4345f74a8ffd4751069035c49162db5156a", func := "loop.example/g01089/laws.FnMasks", spec := "fnMasks", apart := false }
def FnMasksSaid : Prop := fnMasksRow.holds Try.pinned (OpenSpec.ofChange fnMasksSpec)

/-- ITS FALSE NEIGHBOUR: 'it returns false'. Refute it at one input. -/
def fnMasksWrong : ChangeSpec := { name := "fnMasks", fn := fun _ => fun
  | [d] => { results := [.lit (.bool false)], args := [d] }
  | _ => none }
def FnMasksWrongFalsely : Prop := fnMasksRow.holds Try.pinned (OpenSpec.ofChange fnMasksWrong)

/-- 'laws.FnRelations': WHATEVER THE INPUT: true; the input reads as it did. -/
def fnRelationsSpec : ChangeSpec := { name := "fnRelations", fn := fun _ => fun
  | [d] => { results := [.lit (.bool true)], args := [d] }
  | _ => none }
def fnRelationsRow : OpenClaim := { program := "ytckkkleegohkfaa", sum := "bf1c39ee41523e11b6bfd1074807a4345f74a8ffd4751069035c49162db5156a", func := "loop.example/g01089/laws.FnRelations", spec := "fnRelations", apart := false }
def FnRelationsSaid : Prop := fnRelationsRow.holds Try.pinned (OpenSpec.ofChange fnRelationsSpec)

/-- ITS FALSE NEIGHBOUR: 'it returns false'. Refute it at one input. -/
def fnRelationsWrong : ChangeSpec := { name := "fnRelations", fn := fun _ => fun
  | [d] => { results := [.lit (.bool false)], args := [d] }
  | _ => none }
def FnRelationsWrongFalsely : Prop := fnRelationsRow.holds Try.pinned (OpenSpec.ofChange fnRelationsWrong)

/-- 'laws.FnExactIsMask': WHATEVER THE INPUT: true; the input reads as it did. -/
def fnExactIsMaskSpec : ChangeSpec := { name := "fnExactIsMask", fn := fun _ => fun
  | [d1, d2] => { results := [.lit (.bool true)], args := [d1, d2] }
  | _ => none }
def fnExactIsMaskRow : OpenClaim := { program := "ytckkkleegohkfaa", sum := "bf1c39ee41523e11b6bfd1074807a4345f74a8ffd4751069035c49162db5156a", func := "loop.example/g01089/laws.FnExactIsMask", spec := "fnExactIsMask", apart := false }
def FnExactIsMaskSaid : Prop := fnExactIsMaskRow.holds Try.pinned (OpenSpec.ofChange fnExactIsMaskSpec)

/-- ITS FALSE NEIGHBOUR: 'it returns false'. Refute it at one input. -/
def fnExactIsMaskWrong : ChangeSpec := { name := "fnExactIsMask", fn := fun _ => fun
  | [d1, d2] => { results := [.lit (.bool false)], args := [d1, d2] }
  | _ => none }
def FnExactIsMaskWrongFalsely : Prop := fnExactIsMaskRow.holds Try.pinned (OpenSpec.ofChange fnExactIsMaskWrong)

/-- 'laws.FnExactMaskOf': WHATEVER THE INPUT: true; the input reads as it did. -/
def fnExactMaskOfSpec : ChangeSpec := { name := "fnExactMaskOf", fn := fun _ => fun
  | [d1, d2] => { results := [.lit (.bool true)], args := [d1, d2] }
  | _ => none }
def fnExactMaskOfRow : OpenClaim := { program := "ytckkkleegohkfaa", sum := "bf1c39ee41523e11b6bfd1074807a4345f74a8ffd4751069035c49162db5156a", func := "loop.example/g01089/laws.FnExactMaskOf", spec := "fnExactMaskOf", apart := false }
def FnExactMaskOfSaid : Prop := fnExactMaskOfRow.holds Try.pinned (OpenSpec.ofChange fnExactMaskOfSpec)

/-- ITS FALSE NEIGHBOUR: 'it returns false'. Refute it at one input. -/
def fnExactMaskOfWrong : ChangeSpec := { name := "fnExactMaskOf", fn := fun _ => fun
  | [d1, d2] => { results := [.lit (.bool false)], args := [d1, d2] }
  | _ => none }
def FnExactMaskOfWrongFalsely : Prop := fnExactMaskOfRow.holds Try.pinned (OpenSpec.ofChange fnExactMaskOfWrong)

/-- 'laws.FnExactMembersOf': WHATEVER THE INPUT: true; the input reads as it did. -/
def fnExactMembersOfSpec : ChangeSpec := { name := "fnExactMembersOf", fn := fun _ => fun
  | [d1, d2] => { results := [.lit (.bool true)], args := [d1, d2] }
  | _ => none }
def fnExactMembersOfRow : OpenClaim := { program := "ytckkkleegohkfaa", sum := "bf1c39ee41523e11b6bfd1074807a4345f74a8ffd4751069035c49162db5156a", func := "loop.example/g01089/laws.FnExactMembersOf", spec := "fnExactMembersOf", apart := false }
def FnExactMembersOfSaid : Prop := fnExactMembersOfRow.holds Try.pinned (OpenSpec.ofChange fnExactMembersOfSpec)

/-- ITS FALSE NEIGHBOUR: 'it returns false'. Refute it at one input. -/
def fnExactMembersOfWrong : ChangeSpec := { name := "fnExactMembersOf", fn := fun _ => fun
  | [d1, d2] => { results := [.lit (.bool false)], args := [d1, d2] }
  | _ => none }
def FnExactMembersOfWrongFalsely : Prop := fnExactMembersOfRow.holds Try.pinned (OpenSpec.ofChange fnExactMembersOfWrong)

/-- 'laws.FnExactCountMembers': WHATEVER THE INPUT: true; the input reads as it did. -/
def fnExactCountMembersSpec : ChangeSpec := { name := "fnExactCountMembers", fn := fun _ => fun
  | [d1, d2] => { results := [.lit (.bool true)], args := [d1, d2] }
  | _ => none }
def fnExactCountMembersRow : OpenClaim := { program := "ytckkkleegohkfaa", sum := "bf1c39ee41523e11b6bfd1074807a4345f74a8ffd4751069035c49162db5156a", func := "loop.example/g01089/laws.FnExactCountMembers", spec := "fnExactCountMembers", apart := false }
def FnExactCountMembersSaid : Prop := fnExactCountMembersRow.holds Try.pinned (OpenSpec.ofChange fnExactCountMembersSpec)

/-- ITS FALSE NEIGHBOUR: 'it returns false'. Refute it at one input. -/
def fnExactCountMembersWrong : ChangeSpec := { name := "fnExactCountMembers", fn := fun _ => fun
  | [d1, d2] => { results := [.lit (.bool false)], args := [d1, d2] }
  | _ => none }
def FnExactCountMembersWrongFalsely : Prop := fnExactCountMembersRow.holds Try.pinned (OpenSpec.ofChange fnExactCountMembersWrong)

/-- 'laws.FnExactSubMasks': WHATEVER THE INPUT: true; the input reads as it did. -/
def fnExactSubMasksSpec : ChangeSpec := { name := "fnExactSubMasks", fn := fun _ => fun
  | [d1, d2] => { results := [.lit (.bool true)], args := [d1, d2] }
  | _ => none }
def fnExactSubMasksRow : OpenClaim := { program := "ytckkkleegohkfaa", sum := "bf1c39ee41523e11b6bfd1074807a4345f74a8ffd4751069035c49162db5156a", func := "loop.example/g01089/laws.FnExactSubMasks", spec := "fnExactSubMasks", apart := false }
def FnExactSubMasksSaid : Prop := fnExactSubMasksRow.holds Try.pinned (OpenSpec.ofChange fnExactSubMasksSpec)

/-- ITS FALSE NEIGHBOUR: 'it returns false'. Refute it at one input. -/
def fnExactSubMasksWrong : ChangeSpec := { name := "fnExactSubMasks", fn := fun _ => fun
  | [d1, d2] => { results := [.lit (.bool false)], args := [d1, d2] }
  | _ => none }
def FnExactSubMasksWrongFalsely : Prop := fnExactSubMasksRow.holds Try.pinned (OpenSpec.ofChange fnExactSubMasksWrong)

/-- 'laws.FnExactChooseMasks': WHATEVER THE INPUT: true; the input reads as it did. -/
def fnExactChooseMasksSpec : ChangeSpec := { name := "fnExactChooseMasks", fn := fun _ => fun
  | [d1, d2] => { results := [.lit (.bool true)], args := [d1, d2] }
  | _ => none }
def fnExactChooseMasksRow : OpenClaim := { program := "ytckkkleegohkfaa", sum := "bf1c39ee41523e11b6bfd1074807a4345f74a8ffd4751069035c49162db5156a", func := "loop.example/g01089/laws.FnExactChooseMasks", spec := "fnExactChooseMasks", apart := false }
def FnExactChooseMasksSaid : Prop := fnExactChooseMasksRow.holds Try.pinned (OpenSpec.ofChange fnExactChooseMasksSpec)

/-- ITS FALSE NEIGHBOUR: 'it returns false'. Refute it at one input. -/
def fnExactChooseMasksWrong : ChangeSpec := { name := "fnExactChooseMasks", fn := fun _ => fun
  | [d1, d2] => { results := [.lit (.bool false)], args := [d1, d2] }
  | _ => none }
def FnExactChooseMasksWrongFalsely : Prop := fnExactChooseMasksRow.holds Try.pinned (OpenSpec.ofChange fnExactChooseMasksWrong)

/-- 'laws.FnExactImageMask': WHATEVER THE INPUT: true; the input reads as it did. -/
def fnExactImageMaskSpec : ChangeSpec := { name := "fnExactImageMask", fn := fun _ => fun
  | [d1, d2] => { results := [.lit (.bool true)], args := [d1, d2] }
  | _ => none }
def fnExactImageMaskRow : OpenClaim := { program := "ytckkkleegohkfaa", sum := "bf1c39ee41523e11b6bfd1074807a4345f74a8ffd4751069035c49162db5156a", func := "loop.example/g01089/laws.FnExactImageMask", spec := "fnExactImageMask", apart := false }
def FnExactImageMaskSaid : Prop := fnExactImageMaskRow.holds Try.pinned (OpenSpec.ofChange fnExactImageMaskSpec)

/-- ITS FALSE NEIGHBOUR: 'it returns false'. Refute it at one input. -/
def fnExactImageMaskWrong : ChangeSpec := { name := "fnExactImageMask", fn := fun _ => fun
  | [d1, d2] => { results := [.lit (.bool false)], args := [d1, d2] }
  | _ => none }
def FnExactImageMaskWrongFalsely : Prop := fnExactImageMaskRow.holds Try.pinned (OpenSpec.ofChange fnExactImageMaskWrong)

/-- 'laws.FnExactBoxMask': WHATEVER THE INPUT: true; the input reads as it did. -/
def fnExactBoxMaskSpec : ChangeSpec := { name := "fnExactBoxMask", fn := fun _ => fun
  | [d1, d2] => { results := [.lit (.bool true)], args := [d1, d2] }
  | _ => none }
def fnExactBoxMaskRow : OpenClaim := { program := "ytckkkleegohkfaa", sum := "bf1c39ee41523e11b6bfd1074807a4345f74a8ffd4751069035c49162db5156a", func := "loop.example/g01089/laws.FnExactBoxMask", spec := "fnExactBoxMask", apart := false }
def FnExactBoxMaskSaid : Prop := fnExactBoxMaskRow.holds Try.pinned (OpenSpec.ofChange fnExactBoxMaskSpec)

/-- ITS FALSE NEIGHBOUR: 'it returns false'. Refute it at one input. -/
def fnExactBoxMaskWrong : ChangeSpec := { name := "fnExactBoxMask", fn := fun _ => fun
  | [d1, d2] => { results := [.lit (.bool false)], args := [d1, d2] }
  | _ => none }
def FnExactBoxMaskWrongFalsely : Prop := fnExactBoxMaskRow.holds Try.pinned (OpenSpec.ofChange fnExactBoxMaskWrong)

/-- 'laws.FnExactComposeRelations': WHATEVER THE INPUT: true; the input reads as it did. -/
def fnExactComposeRelationsSpec : ChangeSpec := { name := "fnExactComposeRelations", fn := fun _ => fun
  | [d1, d2] => { results := [.lit (.bool true)], args := [d1, d2] }
  | _ => none }
def fnExactComposeRelationsRow : OpenClaim := { program := "ytckkkleegohkfaa", sum := "bf1c39ee41523e11b6bfd1074807a4345f74a8ffd4751069035c49162db5156a", func := "loop.example/g01089/laws.FnExactComposeRelations", spec := "fnExactComposeRelations", apart := false }
def FnExactComposeRelationsSaid : Prop := fnExactComposeRelationsRow.holds Try.pinned (OpenSpec.ofChange fnExactComposeRelationsSpec)

/-- ITS FALSE NEIGHBOUR: 'it returns false'. Refute it at one input. -/
def fnExactComposeRelationsWrong : ChangeSpec := { name := "fnExactComposeRelations", fn := fun _ => fun
  | [d1, d2] => { results := [.lit (.bool false)], args := [d1, d2] }
  | _ => none }
def FnExactComposeRelationsWrongFalsely : Prop := fnExactComposeRelationsRow.holds Try.pinned (OpenSpec.ofChange fnExactComposeRelationsWrong)

/-- 'laws.FnExactInverseRelation': WHATEVER THE INPUT: true; the input reads as it did. -/
def fnExactInverseRelationSpec : ChangeSpec := { name := "fnExactInverseRelation", fn := fun _ => fun
  | [d] => { results := [.lit (.bool true)], args := [d] }
  | _ => none }
def fnExactInverseRelationRow : OpenClaim := { program := "ytckkkleegohkfaa", sum := "bf1c39ee41523e11b6bfd1074807a4345f74a8ffd4751069035c49162db5156a", func := "loop.example/g01089/laws.FnExactInverseRelation", spec := "fnExactInverseRelation", apart := false }
def FnExactInverseRelationSaid : Prop := fnExactInverseRelationRow.holds Try.pinned (OpenSpec.ofChange fnExactInverseRelationSpec)

/-- ITS FALSE NEIGHBOUR: 'it returns false'. Refute it at one input. -/
def fnExactInverseRelationWrong : ChangeSpec := { name := "fnExactInverseRelation", fn := fun _ => fun
  | [d] => { results := [.lit (.bool false)], args := [d] }
  | _ => none }
def FnExactInverseRelationWrongFalsely : Prop := fnExactInverseRelationRow.holds Try.pinned (OpenSpec.ofChange fnExactInverseRelationWrong)

/-- 'laws.FnExactTransitiveClosure': WHATEVER THE INPUT: true; the input reads as it did. -/
def fnExactTransitiveClosureSpec : ChangeSpec := { name := "fnExactTransitiveClosure", fn := fun _ => fun
  | [d] => { results := [.lit (.bool true)], args := [d] }
  | _ => none }
def fnExactTransitiveClosureRow : OpenClaim := { program := "ytckkkleegohkfaa", sum := "bf1c39ee41523e11b6bfd1074807a4345f74a8ffd4751069035c49162db5156a", func := "loop.example/g01089/laws.FnExactTransitiveClosure", spec := "fnExactTransitiveClosure", apart := false }
def FnExactTransitiveClosureSaid : Prop := fnExactTransitiveClosureRow.holds Try.pinned (OpenSpec.ofChange fnExactTransitiveClosureSpec)

/-- ITS FALSE NEIGHBOUR: 'it returns false'. Refute it at one input. -/
def fnExactTransitiveClosureWrong : ChangeSpec := { name := "fnExactTransitiveClosure", fn := fun _ => fun
  | [d] => { results := [.lit (.bool false)], args := [d] }
  | _ => none }
def FnExactTransitiveClosureWrongFalsely : Prop := fnExactTransitiveClosureRow.holds Try.pinned (OpenSpec.ofChange fnExactTransitiveClosureWrong)

/-- 'laws.FnExactReflexiveClosure': WHATEVER THE INPUT: true; the input reads as it did. -/
def fnExactReflexiveClosureSpec : ChangeSpec := { name := "fnExactReflexiveClosure", fn := fun _ => fun
  | [d] => { results := [.lit (.bool true)], args := [d] }
  | _ => none }
def fnExactReflexiveClosureRow : OpenClaim := { program := "ytckkkleegohkfaa", sum := "bf1c39ee41523e11b6bfd1074807a4345f74a8ffd4751069035c49162db5156a", func := "loop.example/g01089/laws.FnExactReflexiveClosure", spec := "fnExactReflexiveClosure", apart := false }
def FnExactReflexiveClosureSaid : Prop := fnExactReflexiveClosureRow.holds Try.pinned (OpenSpec.ofChange fnExactReflexiveClosureSpec)

/-- ITS FALSE NEIGHBOUR: 'it returns false'. Refute it at one input. -/
def fnExactReflexiveClosureWrong : ChangeSpec := { name := "fnExactReflexiveClosure", fn := fun _ => fun
  | [d] => { results := [.lit (.bool false)], args := [d] }
  | _ => none }
def FnExactReflexiveClosureWrongFalsely : Prop := fnExactReflexiveClosureRow.holds Try.pinned (OpenSpec.ofChange fnExactReflexiveClosureWrong)

/- THE SECOND FORM. 'bulk': how many values and letters a reading holds, each counted each time it is reached (what is shared counts as often as it is met; a slice's spare places count too). A statement '..UptoSaid' is the law's where the arguments, and the package variables that the reading takes, are together of bulk at most 1048576: NARROWER than '..Said'. Prove '..Said' where nothing that the law and all that it calls make is longer than what came in: it says more and counts as full. Else prove '..UptoSaid'. A law counts once. -/
mutual
def uptoBulk {H : Type} : DataW H → Nat
  | .lit (.string bytes) => bytes.length + 1
  | .lit _ => 1
  | .nil => 1
  | .ptr d => uptoBulk d + 1
  | .slice elems spare => uptoBulkAll elems + uptoBulkAll spare + 1
  | .agg parts => uptoBulkAll parts + 1
  | .iface _ d => uptoBulk d + 1
  | .map entries => uptoBulkEntries entries + 1
  | .held _ => 1
def uptoBulkAll {H : Type} : List (DataW H) → Nat
  | [] => 0
  | d :: r => uptoBulk d + uptoBulkAll r
def uptoBulkEntries {H : Type} : List (Lit × DataW H) → Nat
  | [] => 0
  | x :: r => uptoBulkEntry x + uptoBulkEntries r
def uptoBulkEntry {H : Type} : Lit × DataW H → Nat
  | (.string bytes, d) => bytes.length + uptoBulk d + 1
  | (_, d) => uptoBulk d + 1
 end
def uptoSmall : (H : Type) → List (DataW H) → Bool := fun _ ds => decide (uptoBulkAll ds ≤ 1048576)
def OpenSpec.upto (s : _root_.Go.ChangeSpec) : _root_.Go.OpenSpec := { _root_.Go.OpenSpec.ofChange s with cond := some uptoSmall }

/-- 'laws.FnMasks', WHERE WHAT IT READS IS OF BULK AT MOST 1048576: true; the input reads as it did. -/
def fnMasksUptoRow : OpenClaim := { program := "ytckkkleegohkfaa", sum := "bf1c39ee41523e11b6bfd1074807a4345f74a8ffd4751069035c49162db5156a", func := "loop.example/g01089/laws.FnMasks", spec := "fnMasks", apart := false, narrowed := true }
def FnMasksUptoSaid : Prop := fnMasksUptoRow.holds Try.pinned (OpenSpec.upto fnMasksSpec)

/-- 'laws.FnRelations', WHERE WHAT IT READS IS OF BULK AT MOST 1048576: true; the input reads as it did. -/
def fnRelationsUptoRow : OpenClaim := { program := "ytckkkleegohkfaa", sum := "bf1c39ee41523e11b6bfd1074807a4345f74a8ffd4751069035c49162db5156a", func := "loop.example/g01089/laws.FnRelations", spec := "fnRelations", apart := false, narrowed := true }
def FnRelationsUptoSaid : Prop := fnRelationsUptoRow.holds Try.pinned (OpenSpec.upto fnRelationsSpec)

/-- 'laws.FnExactIsMask', WHERE WHAT IT READS IS OF BULK AT MOST 1048576: true; the input reads as it did. -/
def fnExactIsMaskUptoRow : OpenClaim := { program := "ytckkkleegohkfaa", sum := "bf1c39ee41523e11b6bfd1074807a4345f74a8ffd4751069035c49162db5156a", func := "loop.example/g01089/laws.FnExactIsMask", spec := "fnExactIsMask", apart := false, narrowed := true }
def FnExactIsMaskUptoSaid : Prop := fnExactIsMaskUptoRow.holds Try.pinned (OpenSpec.upto fnExactIsMaskSpec)

/-- 'laws.FnExactMaskOf', WHERE WHAT IT READS IS OF BULK AT MOST 1048576: true; the input reads as it did. -/
def fnExactMaskOfUptoRow : OpenClaim := { program := "ytckkkleegohkfaa", sum := "bf1c39ee41523e11b6bfd1074807a4345f74a8ffd4751069035c49162db5156a", func := "loop.example/g01089/laws.FnExactMaskOf", spec := "fnExactMaskOf", apart := false, narrowed := true }
def FnExactMaskOfUptoSaid : Prop := fnExactMaskOfUptoRow.holds Try.pinned (OpenSpec.upto fnExactMaskOfSpec)

/-- 'laws.FnExactMembersOf', WHERE WHAT IT READS IS OF BULK AT MOST 1048576: true; the input reads as it did. -/
def fnExactMembersOfUptoRow : OpenClaim := { program := "ytckkkleegohkfaa", sum := "bf1c39ee41523e11b6bfd1074807a4345f74a8ffd4751069035c49162db5156a", func := "loop.example/g01089/laws.FnExactMembersOf", spec := "fnExactMembersOf", apart := false, narrowed := true }
def FnExactMembersOfUptoSaid : Prop := fnExactMembersOfUptoRow.holds Try.pinned (OpenSpec.upto fnExactMembersOfSpec)

/-- 'laws.FnExactCountMembers', WHERE WHAT IT READS IS OF BULK AT MOST 1048576: true; the input reads as it did. -/
def fnExactCountMembersUptoRow : OpenClaim := { program := "ytckkkleegohkfaa", sum := "bf1c39ee41523e11b6bfd1074807a4345f74a8ffd4751069035c49162db5156a", func := "loop.example/g01089/laws.FnExactCountMembers", spec := "fnExactCountMembers", apart := false, narrowed := true }
def FnExactCountMembersUptoSaid : Prop := fnExactCountMembersUptoRow.holds Try.pinned (OpenSpec.upto fnExactCountMembersSpec)

/-- 'laws.FnExactSubMasks', WHERE WHAT IT READS IS OF BULK AT MOST 1048576: true; the input reads as it did. -/
def fnExactSubMasksUptoRow : OpenClaim := { program := "ytckkkleegohkfaa", sum := "bf1c39ee41523e11b6bfd1074807a4345f74a8ffd4751069035c49162db5156a", func := "loop.example/g01089/laws.FnExactSubMasks", spec := "fnExactSubMasks", apart := false, narrowed := true }
def FnExactSubMasksUptoSaid : Prop := fnExactSubMasksUptoRow.holds Try.pinned (OpenSpec.upto fnExactSubMasksSpec)

/-- 'laws.FnExactChooseMasks', WHERE WHAT IT READS IS OF BULK AT MOST 1048576: true; the input reads as it did. -/
def fnExactChooseMasksUptoRow : OpenClaim := { program := "ytckkkleegohkfaa", sum := "bf1c39ee41523e11b6bfd1074807a4345f74a8ffd4751069035c49162db5156a", func := "loop.example/g01089/laws.FnExactChooseMasks", spec := "fnExactChooseMasks", apart := false, narrowed := true }
def FnExactChooseMasksUptoSaid : Prop := fnExactChooseMasksUptoRow.holds Try.pinned (OpenSpec.upto fnExactChooseMasksSpec)

/-- 'laws.FnExactImageMask', WHERE WHAT IT READS IS OF BULK AT MOST 1048576: true; the input reads as it did. -/
def fnExactImageMaskUptoRow : OpenClaim := { program := "ytckkkleegohkfaa", sum := "bf1c39ee41523e11b6bfd1074807a4345f74a8ffd4751069035c49162db5156a", func := "loop.example/g01089/laws.FnExactImageMask", spec := "fnExactImageMask", apart := false, narrowed := true }
def FnExactImageMaskUptoSaid : Prop := fnExactImageMaskUptoRow.holds Try.pinned (OpenSpec.upto fnExactImageMaskSpec)

/-- 'laws.FnExactBoxMask', WHERE WHAT IT READS IS OF BULK AT MOST 1048576: true; the input reads as it did. -/
def fnExactBoxMaskUptoRow : OpenClaim := { program := "ytckkkleegohkfaa", sum := "bf1c39ee41523e11b6bfd1074807a4345f74a8ffd4751069035c49162db5156a", func := "loop.example/g01089/laws.FnExactBoxMask", spec := "fnExactBoxMask", apart := false, narrowed := true }
def FnExactBoxMaskUptoSaid : Prop := fnExactBoxMaskUptoRow.holds Try.pinned (OpenSpec.upto fnExactBoxMaskSpec)

/-- 'laws.FnExactComposeRelations', WHERE WHAT IT READS IS OF BULK AT MOST 1048576: true; the input reads as it did. -/
def fnExactComposeRelationsUptoRow : OpenClaim := { program := "ytckkkleegohkfaa", sum := "bf1c39ee41523e11b6bfd1074807a4345f74a8ffd4751069035c49162db5156a", func := "loop.example/g01089/laws.FnExactComposeRelations", spec := "fnExactComposeRelations", apart := false, narrowed := true }
def FnExactComposeRelationsUptoSaid : Prop := fnExactComposeRelationsUptoRow.holds Try.pinned (OpenSpec.upto fnExactComposeRelationsSpec)

/-- 'laws.FnExactInverseRelation', WHERE WHAT IT READS IS OF BULK AT MOST 1048576: true; the input reads as it did. -/
def fnExactInverseRelationUptoRow : OpenClaim := { program := "ytckkkleegohkfaa", sum := "bf1c39ee41523e11b6bfd1074807a4345f74a8ffd4751069035c49162db5156a", func := "loop.example/g01089/laws.FnExactInverseRelation", spec := "fnExactInverseRelation", apart := false, narrowed := true }
def FnExactInverseRelationUptoSaid : Prop := fnExactInverseRelationUptoRow.holds Try.pinned (OpenSpec.upto fnExactInverseRelationSpec)

/-- 'laws.FnExactTransitiveClosure', WHERE WHAT IT READS IS OF BULK AT MOST 1048576: true; the input reads as it did. -/
def fnExactTransitiveClosureUptoRow : OpenClaim := { program := "ytckkkleegohkfaa", sum := "bf1c39ee41523e11b6bfd1074807a4345f74a8ffd4751069035c49162db5156a", func := "loop.example/g01089/laws.FnExactTransitiveClosure", spec := "fnExactTransitiveClosure", apart := false, narrowed := true }
def FnExactTransitiveClosureUptoSaid : Prop := fnExactTransitiveClosureUptoRow.holds Try.pinned (OpenSpec.upto fnExactTransitiveClosureSpec)

/-- 'laws.FnExactReflexiveClosure', WHERE WHAT IT READS IS OF BULK AT MOST 1048576: true; the input reads as it did. -/
def fnExactReflexiveClosureUptoRow : OpenClaim := { program := "ytckkkleegohkfaa", sum := "bf1c39ee41523e11b6bfd1074807a4345f74a8ffd4751069035c49162db5156a", func := "loop.example/g01089/laws.FnExactReflexiveClosure", spec := "fnExactReflexiveClosure", apart := false, narrowed := true }
def FnExactReflexiveClosureUptoSaid : Prop := fnExactReflexiveClosureUptoRow.holds Try.pinned (OpenSpec.upto fnExactReflexiveClosureSpec)

end Rows
end Go.Proofs.Ytckkkleegohkfaa
