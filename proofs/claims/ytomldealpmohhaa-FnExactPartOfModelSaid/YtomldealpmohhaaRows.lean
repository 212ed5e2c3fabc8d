/-
  No cell of these rows narrows 'for every input' (looked for: loops, veiled, ifaces, maps, wideKeys, modest, calm, conditions, laid).
  DERIVED. THE GIVEN ROWS OF THIS SEAT. 8 by the template 'for every input the law returns true; each argument reads behind the call as it read before'; 0 by the template 'total and deterministic' (their statements: YtomldealpmohhaaTotals.lean).
  GIVEN WITH THE SEED: the statements are not yours to turn. If you find one false, say at which input.
  Laid BY PROGRAM, IN A SANDBOX (cutbox-rows.mjs): the forced cells as the released guide's own fill.sh prints them over the translation 3f7e917d06f581c1… (all of the seat's roots in one cut). By AI agents, Wed Nov 11 2026. No macro, syntax, notation, axiom, sorry.
-/
import Derived.Test.YtomldealpmohhaaChecked
import GoSem.Claim
import GoSem.ClaimJoined
import GoSem.ClaimMapViews
import Derived.JoinedTies
import Derived.KernelRfl
namespace Go.Proofs.Ytomldealpmohhaa
/- THE CELL 'sum', in the pinned program and in every row, IS THE sha256 OF THE DUMP (.gsa) THAT YtomldealpmohhaaProg.lean LOADS. Nothing in Lean hashes anything: it is a label: what it is worth is what the hold of that sum in a sandbox is worth. -/
noncomputable def Try.pinned : Pinned := { name := "ytomldealpmohhaa", sum := "3f7e917d06f581c1ab292ccbf51f40733fc364f633ce5af733a1bf8c714c7538", checked := Try.checked }
namespace Rows
def none {H : Type} : Left H := { results := [], args := [] }

/-- 'laws.FnExactTruthSet': WHATEVER THE INPUT: true; the input reads as it did. -/
def fnExactTruthSetSpec : ChangeSpec := { name := "fnExactTruthSet", fn := fun _ => fun
  | [d1, d2] => { results := [.lit (.bool true)], args := [d1, d2] }
  | _ => none }
def fnExactTruthSetRow : OpenClaim := { program := "ytomldealpmohhaa", sum := "3f7e917d06f581c1ab292ccbf51f40733fc364f633ce5af733a1bf8c714c7538", func := "loop.example/g01089/laws.FnExactTruthSet", spec := "fnExactTruthSet", unfollowed := true, recurses := true, plainKeys := false, apart := false }
def FnExactTruthSetSaid : Prop := fnExactTruthSetRow.holds Try.pinned (OpenSpec.ofChange fnExactTruthSetSpec)

/-- ITS FALSE NEIGHBOUR: 'it returns false'. Refute it at one input. -/
def fnExactTruthSetWrong : ChangeSpec := { name := "fnExactTruthSet", fn := fun _ => fun
  | [d1, d2] => { results := [.lit (.bool false)], args := [d1, d2] }
  | _ => none }
def FnExactTruthSetWrongFalsely : Prop := fnExactTruthSetRow.holds Try.pinned (OpenSpec.ofChange fnExactTruthSetWrong)

/-- 'laws.FnExactIsTrueAt': WHATEVER THE INPUT: true; the input reads as it did. -/
def fnExactIsTrueAtSpec : ChangeSpec := { name := "fnExactIsTrueAt", fn := fun _ => fun
  | [d1, d2, d3] => { results := [.lit (.bool true)], args := [d1, d2, d3] }
  | _ => none }
def fnExactIsTrueAtRow : OpenClaim := { program := "ytomldealpmohhaa", sum := "3f7e917d06f581c1ab292ccbf51f40733fc364f633ce5af733a1bf8c714c7538", func := "loop.example/g01089/laws.FnExactIsTrueAt", spec := "fnExactIsTrueAt", unfollowed := true, recurses := true, plainKeys := false, apart := false }
def FnExactIsTrueAtSaid : Prop := fnExactIsTrueAtRow.holds Try.pinned (OpenSpec.ofChange fnExactIsTrueAtSpec)

/-- ITS FALSE NEIGHBOUR: 'it returns false'. Refute it at one input. -/
def fnExactIsTrueAtWrong : ChangeSpec := { name := "fnExactIsTrueAt", fn := fun _ => fun
  | [d1, d2, d3] => { results := [.lit (.bool false)], args := [d1, d2, d3] }
  | _ => none }
def FnExactIsTrueAtWrongFalsely : Prop := fnExactIsTrueAtRow.holds Try.pinned (OpenSpec.ofChange fnExactIsTrueAtWrong)

/-- 'laws.FnExactIsTrueIn': WHATEVER THE INPUT: true; the input reads as it did. -/
def fnExactIsTrueInSpec : ChangeSpec := { name := "fnExactIsTrueIn", fn := fun _ => fun
  | [d1, d2] => { results := [.lit (.bool true)], args := [d1, d2] }
  | _ => none }
def fnExactIsTrueInRow : OpenClaim := { program := "ytomldealpmohhaa", sum := "3f7e917d06f581c1ab292ccbf51f40733fc364f633ce5af733a1bf8c714c7538", func := "loop.example/g01089/laws.FnExactIsTrueIn", spec := "fnExactIsTrueIn", unfollowed := true, recurses := true, plainKeys := false, apart := false }
def FnExactIsTrueInSaid : Prop := fnExactIsTrueInRow.holds Try.pinned (OpenSpec.ofChange fnExactIsTrueInSpec)

/-- ITS FALSE NEIGHBOUR: 'it returns false'. Refute it at one input. -/
def fnExactIsTrueInWrong : ChangeSpec := { name := "fnExactIsTrueIn", fn := fun _ => fun
  | [d1, d2] => { results := [.lit (.bool false)], args := [d1, d2] }
  | _ => none }
def FnExactIsTrueInWrongFalsely : Prop := fnExactIsTrueInRow.holds Try.pinned (OpenSpec.ofChange fnExactIsTrueInWrong)

/-- 'laws.FnExactPartOfModel': WHATEVER THE INPUT: true; the input reads as it did. -/
def fnExactPartOfModelSpec : ChangeSpec := { name := "fnExactPartOfModel", fn := fun _ => fun
  | [d1, d2] => { results := [.lit (.bool true)], args := [d1, d2] }
  | _ => none }
def fnExactPartOfModelRow : OpenClaim := { program := "ytomldealpmohhaa", sum := "3f7e917d06f581c1ab292ccbf51f40733fc364f633ce5af733a1bf8c714c7538", func := "loop.example/g01089/laws.FnExactPartOfModel", spec := "fnExactPartOfModel", unfollowed := true, recurses := true, plainKeys := false, apart := false }
def FnExactPartOfModelSaid : Prop := fnExactPartOfModelRow.holds Try.pinned (OpenSpec.ofChange fnExactPartOfModelSpec)

/-- ITS FALSE NEIGHBOUR: 'it returns false'. Refute it at one input. -/
def fnExactPartOfModelWrong : ChangeSpec := { name := "fnExactPartOfModel", fn := fun _ => fun
  | [d1, d2] => { results := [.lit (.bool false)], args := [d1, d2] }
  | _ => none }
def FnExactPartOfModelWrongFalsely : Prop := fnExactPartOfModelRow.holds Try.pinned (OpenSpec.ofChange fnExactPartOfModelWrong)

/-- 'laws.FnExactReducedModel': WHATEVER THE INPUT: true; the input reads as it did. -/
def fnExactReducedModelSpec : ChangeSpec := { name := "fnExactReducedModel", fn := fun _ => fun
  | [d1, d2] => { results := [.lit (.bool true)], args := [d1, d2] }
  | _ => none }
def fnExactReducedModelRow : OpenClaim := { program := "ytomldealpmohhaa", sum := "3f7e917d06f581c1ab292ccbf51f40733fc364f633ce5af733a1bf8c714c7538", func := "loop.example/g01089/laws.FnExactReducedModel", spec := "fnExactReducedModel", unfollowed := true, recurses := true, plainKeys := false, apart := false }
def FnExactReducedModelSaid : Prop := fnExactReducedModelRow.holds Try.pinned (OpenSpec.ofChange fnExactReducedModelSpec)

/-- ITS FALSE NEIGHBOUR: 'it returns false'. Refute it at one input. -/
def fnExactReducedModelWrong : ChangeSpec := { name := "fnExactReducedModel", fn := fun _ => fun
  | [d1, d2] => { results := [.lit (.bool false)], args := [d1, d2] }
  | _ => none }
def FnExactReducedModelWrongFalsely : Prop := fnExactReducedModelRow.holds Try.pinned (OpenSpec.ofChange fnExactReducedModelWrong)

/-- 'laws.FnExactThenMorphisms': WHATEVER THE INPUT: true; the input reads as it did. -/
def fnExactThenMorphismsSpec : ChangeSpec := { name := "fnExactThenMorphisms", fn := fun _ => fun
  | [d1, d2, d3, d4, d5] => { results := [.lit (.bool true)], args := [d1, d2, d3, d4, d5] }
  | _ => none }
def fnExactThenMorphismsRow : OpenClaim := { program := "ytomldealpmohhaa", sum := "3f7e917d06f581c1ab292ccbf51f40733fc364f633ce5af733a1bf8c714c7538", func := "loop.example/g01089/laws.FnExactThenMorphisms", spec := "fnExactThenMorphisms", unfollowed := true, recurses := true, plainKeys := false, apart := false }
def FnExactThenMorphismsSaid : Prop := fnExactThenMorphismsRow.holds Try.pinned (OpenSpec.ofChange fnExactThenMorphismsSpec)

/-- ITS FALSE NEIGHBOUR: 'it returns false'. Refute it at one input. -/
def fnExactThenMorphismsWrong : ChangeSpec := { name := "fnExactThenMorphisms", fn := fun _ => fun
  | [d1, d2, d3, d4, d5] => { results := [.lit (.bool false)], args := [d1, d2, d3, d4, d5] }
  | _ => none }
def FnExactThenMorphismsWrongFalsely : Prop := fnExactThenMorphismsRow.holds Try.pinned (OpenSpec.ofChange fnExactThenMorphismsWrong)

/-- 'laws.FnExactPullValues': WHATEVER THE INPUT: true; the input reads as it did. -/
def fnExactPullValuesSpec : ChangeSpec := { name := "fnExactPullValues", fn := fun _ => fun
  | [d1, d2, d3, d4] => { results := [.lit (.bool true)], args := [d1, d2, d3, d4] }
  | _ => none }
def fnExactPullValuesRow : OpenClaim := { program := "ytomldealpmohhaa", sum := "3f7e917d06f581c1ab292ccbf51f40733fc364f633ce5af733a1bf8c714c7538", func := "loop.example/g01089/laws.FnExactPullValues", spec := "fnExactPullValues", unfollowed := true, recurses := true, plainKeys := false, apart := false }
def FnExactPullValuesSaid : Prop := fnExactPullValuesRow.holds Try.pinned (OpenSpec.ofChange fnExactPullValuesSpec)

/-- ITS FALSE NEIGHBOUR: 'it returns false'. Refute it at one input. -/
def fnExactPullValuesWrong : ChangeSpec := { name := "fnExactPullValues", fn := fun _ => fun
  | [d1, d2, d3, d4] => { results := [.lit (.bool false)], args := [d1, d2, d3, d4] }
  | _ => none }
def FnExactPullValuesWrongFalsely : Prop := fnExactPullValuesRow.holds Try.pinned (OpenSpec.ofChange fnExactPullValuesWrong)

/-- 'laws.FnExactIsModelMorphism': WHATEVER THE INPUT: true; the input reads as it did. -/
def fnExactIsModelMorphismSpec : ChangeSpec := { name := "fnExactIsModelMorphism", fn := fun _ => fun
  | [d1, d2, d3] => { results := [.lit (.bool true)], args := [d1, d2, d3] }
  | _ => none }
def fnExactIsModelMorphismRow : OpenClaim := { program := "ytomldealpmohhaa", sum := "3f7e917d06f581c1ab292ccbf51f40733fc364f633ce5af733a1bf8c714c7538", func := "loop.example/g01089/laws.FnExactIsModelMorphism", spec := "fnExactIsModelMorphism", unfollowed := true, recurses := true, plainKeys := false, apart := false }
def FnExactIsModelMorphismSaid : Prop := fnExactIsModelMorphismRow.holds Try.pinned (OpenSpec.ofChange fnExactIsModelMorphismSpec)

/-- ITS FALSE NEIGHBOUR: 'it returns false'. Refute it at one input. -/
def fnExactIsModelMorphismWrong : ChangeSpec := { name := "fnExactIsModelMorphism", fn := fun _ => fun
  | [d1, d2, d3] => { results := [.lit (.bool false)], args := [d1, d2, d3] }
  | _ => none }
def FnExactIsModelMorphismWrongFalsely : Prop := fnExactIsModelMorphismRow.holds Try.pinned (OpenSpec.ofChange fnExactIsModelMorphismWrong)

/- THE SECOND FORM. 'bulk': how many values and letters a reading holds, each counted each time it is reached (what is shared counts as often as it is met; a slice's spare places count too). A statement '..UptoSaid' is the law's where the arguments, and the package variables that the reading takes, are together of bulk at most 1048576: NARROWER than '..Said'. Prove '..Said' where nothing that the law and all that it calls make is longer than what came in: it says more and counts as full. Else prove '..UptoSaid'. A law counts once. -/
mutual
def uptoBulk {H : Type} : DataW H → Nat
  | .lit (.string bytes) => bytes.length + 1
  | .lit _ => 1
  | .nil => 1
  | .ptr d => uptoBulk d + 1
  | .slice elems spare => uptoBulkAll elems + uptoBulkAll spare + 1
  | .agg parts => uptoBulkAll parts + 1
  | .iface _ d => uptoBulk d + 1
  | .map entries => uptoBulkEntries entries + 1
  | .held _ => 1
def uptoBulkAll {H : Type} : List (DataW H) → Nat
  | [] => 0
  | d :: r => uptoBulk d + uptoBulkAll r
def uptoBulkEntries {H : Type} : List (Lit × DataW H) → Nat
  | [] => 0
  | x :: r => uptoBulkEntry x + uptoBulkEntries r
def uptoBulkEntry {H : Type} : Lit × DataW H → Nat
  | (.string bytes, d) => bytes.length + uptoBulk d + 1
  | (_, d) => uptoBulk d + 1
 end
def uptoSmall : (H : Type) → List (DataW H) → Bool := fun _ ds => decide (uptoBulkAll ds ≤ 1048576)
def OpenSpec.upto (s : _root_.Go.ChangeSpec) : _root_.Go.OpenSpec := { _root_.Go.OpenSpec.ofChange s with cond := some uptoSmall }

/-- 'laws.FnExactTruthSet', WHERE WHAT IT READS IS OF BULK AT MOST 1048576: true; the input reads as it did. -/
def fnExactTruthSetUptoRow : OpenClaim := { program := "ytomldealpmohhaa", sum := "3f7e917d06f581c1ab292ccbf51f40733fc364f633ce5af733a1bf8c714c7538", func := "loop.example/g01089/laws.FnExactTruthSet", spec := "fnExactTruthSet", unfollowed := true, recurses := true, plainKeys := false, apart := false, narrowed := true }
def FnExactTruthSetUptoSaid : Prop := fnExactTruthSetUptoRow.holds Try.pinned (OpenSpec.upto fnExactTruthSetSpec)

/-- 'laws.FnExactIsTrueAt', WHERE WHAT IT READS IS OF BULK AT MOST 1048576: true; the input reads as it did. -/
def fnExactIsTrueAtUptoRow : OpenClaim := { program := "ytomldealpmohhaa", sum := "3f7e917d06f581c1ab292ccbf51f40733fc364f633ce5af733a1bf8c714c7538", func := "loop.example/g01089/laws.FnExactIsTrueAt", spec := "fnExactIsTrueAt", unfollowed := true, recurses := true, plainKeys := false, apart := false, narrowed := true }
def FnExactIsTrueAtUptoSaid : Prop := fnExactIsTrueAtUptoRow.holds Try.pinned (OpenSpec.upto fnExactIsTrueAtSpec)

/-- 'laws.FnExactIsTrueIn', WHERE WHAT IT READS IS OF BULK AT MOST 1048576: true; the input reads as it did. -/
def fnExactIsTrueInUptoRow : OpenClaim := { program := "ytomldealpmohhaa", sum := "3f7e917d06f581c1ab292ccbf51f40733fc364f633ce5af733a1bf8c714c7538", func := "loop.example/g01089/laws.FnExactIsTrueIn", spec := "fnExactIsTrueIn", unfollowed := true, recurses := true, plainKeys := false, apart := false, narrowed := true }
def FnExactIsTrueInUptoSaid : Prop := fnExactIsTrueInUptoRow.holds Try.pinned (OpenSpec.upto fnExactIsTrueInSpec)

/-- 'laws.FnExactPartOfModel', WHERE WHAT IT READS IS OF BULK AT MOST 1048576: true; the input reads as it did. -/
def fnExactPartOfModelUptoRow : OpenClaim := { program := "ytomldealpmohhaa", sum := "3f7e917d06f581c1ab292ccbf51f40733fc364f633ce5af733a1bf8c714c7538", func := "loop.example/g01089/laws.FnExactPartOfModel", spec := "fnExactPartOfModel", unfollowed := true, recurses := true, plainKeys := false, apart := false, narrowed := true }
def FnExactPartOfModelUptoSaid : Prop := fnExactPartOfModelUptoRow.holds Try.pinned (OpenSpec.upto fnExactPartOfModelSpec)

/-- 'laws.FnExactReducedModel', WHERE WHAT IT READS IS OF BULK AT MOST 1048576: true; the input reads as it did. -/
def fnExactReducedModelUptoRow : OpenClaim := { program := "ytomldealpmohhaa", sum := "3f7e917d06f581c1ab292ccbf51f40733fc364f633ce5af733a1bf8c714c7538", func := "loop.example/g01089/laws.FnExactReducedModel", spec := "fnExactReducedModel", unfollowed := true, recurses := true, plainKeys := false, apart := false, narrowed := true }
def FnExactReducedModelUptoSaid : Prop := fnExactReducedModelUptoRow.holds Try.pinned (OpenSpec.upto fnExactReducedModelSpec)

/-- 'laws.FnExactThenMorphisms', WHERE WHAT IT READS IS OF BULK AT MOST 1048576: true; the input reads as it did. -/
def fnExactThenMorphismsUptoRow : OpenClaim := { program := "ytomldealpmohhaa", sum := "3f7e917d06f581c1ab292ccbf51f40733fc364f633ce5af733a1bf8c714c7538", func := "loop.example/g01089/laws.FnExactThenMorphisms", spec := "fnExactThenMorphisms", unfollowed := true, recurses := true, plainKeys := false, apart := false, narrowed := true }
def FnExactThenMorphismsUptoSaid : Prop := fnExactThenMorphismsUptoRow.holds Try.pinned (OpenSpec.upto fnExactThenMorphismsSpec)

/-- 'laws.FnExactPullValues', WHERE WHAT IT READS IS OF BULK AT MOST 1048576: true; the input reads as it did. -/
def fnExactPullValuesUptoRow : OpenClaim := { program := "ytomldealpmohhaa", sum := "3f7e917d06f581c1ab292ccbf51f40733fc364f633ce5af733a1bf8c714c7538", func := "loop.example/g01089/laws.FnExactPullValues", spec := "fnExactPullValues", unfollowed := true, recurses := true, plainKeys := false, apart := false, narrowed := true }
def FnExactPullValuesUptoSaid : Prop := fnExactPullValuesUptoRow.holds Try.pinned (OpenSpec.upto fnExactPullValuesSpec)

/-- 'laws.FnExactIsModelMorphism', WHERE WHAT IT READS IS OF BULK AT MOST 1048576: true; the input reads as it did. -/
def fnExactIsModelMorphismUptoRow : OpenClaim := { program := "ytomldealpmohhaa", sum := "3f7e917d06f581c1ab292ccbf51f40733fc364f633ce5af733a1bf8c714c7538", func := "loop.example/g01089/laws.FnExactIsModelMorphism", spec := "fnExactIsModelMorphism", unfollowed := true, recurses := true, plainKeys := false, apart := false, narrowed := true }
def FnExactIsModelMorphismUptoSaid : Prop := fnExactIsModelMorphismUptoRow.holds Try.pinned (OpenSpec.upto fnExactIsModelMorphismSpec)

end Rows
end Go.Proofs.Ytomldealpmohhaa
