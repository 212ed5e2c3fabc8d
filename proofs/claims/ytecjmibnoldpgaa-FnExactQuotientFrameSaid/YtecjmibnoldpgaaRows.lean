/-
  No cell of these rows narrows 'for every input' (looked for: loops, veiled, ifaces, maps, wideKeys, modest, calm, conditions, laid).
  DERIVED. THE GIVEN ROWS OF THIS SEAT. 8 by the template 'for every input the law returns true; each argument reads behind the call as it read before'; 0 by the template 'total and deterministic' (their statements: YtecjmibnoldpgaaTotals.lean).
  GIVEN WITH THE SEED: the statements are not yours to turn. If you find one false, say at which input.
  Laid BY PROGRAM, IN A SANDBOX (cutbox-rows.mjs): the forced cells as the released guide's own fill.sh prints them over the translation 904f3cd8ed137930… (all of the seat's roots in one cut). By AI agents, Wed Nov 11 2026. No macro, syntax, notation, axiom, sorry.
-/
import Derived.Test.YtecjmibnoldpgaaChecked
import GoSem.Claim
import GoSem.ClaimJoined
import GoSem.ClaimMapViews
import Derived.JoinedTies
import Derived.KernelRfl
namespace Go.Proofs.Ytecjmibnoldpgaa
/- THE CELL 'sum', in the pinned program and in every row, IS THE sha256 OF THE DUMP (.gsa) THAT YtecjmibnoldpgaaProg.lean LOADS. Nothing in Lean hashes anything: it is a label: what it is worth is what the hold of that sum in a sandbox is worth. -/
noncomputable def Try.pinned : Pinned := { name := "ytecjmibnoldpgaa", sum := "904f3cd8ed137930553797964c8a1bb54ef424e335de4ce2607e7fb81e783eed", checked := Try.checked }
namespace Rows
def none {H : Type} : Left H := { results := [], args := [] }

/-- 'laws.FnExactIsMorphism': WHATEVER THE INPUT: true; the input reads as it did. -/
def fnExactIsMorphismSpec : ChangeSpec := { name := "fnExactIsMorphism", fn := fun _ => fun
  | [d1, d2, d3] => { results := [.lit (.bool true)], args := [d1, d2, d3] }
  | _ => none }
def fnExactIsMorphismRow : OpenClaim := { program := "ytecjmibnoldpgaa", sum := "904f3cd8ed137930553797964c8a1bb54ef424e335de4ce2607e7fb81e783eed", func := "loop.example/g01089/laws.FnExactIsMorphism", spec := "fnExactIsMorphism", unfollowed := true, recurses := true, apart := false }
def FnExactIsMorphismSaid : Prop := fnExactIsMorphismRow.holds Try.pinned (OpenSpec.ofChange fnExactIsMorphismSpec)

/-- ITS FALSE NEIGHBOUR: 'it returns false'. Refute it at one input. -/
def fnExactIsMorphismWrong : ChangeSpec := { name := "fnExactIsMorphism", fn := fun _ => fun
  | [d1, d2, d3] => { results := [.lit (.bool false)], args := [d1, d2, d3] }
  | _ => none }
def FnExactIsMorphismWrongFalsely : Prop := fnExactIsMorphismRow.holds Try.pinned (OpenSpec.ofChange fnExactIsMorphismWrong)

/-- 'laws.FnExactIsModelMorphism': WHATEVER THE INPUT: true; the input reads as it did. -/
def fnExactIsModelMorphismSpec : ChangeSpec := { name := "fnExactIsModelMorphism", fn := fun _ => fun
  | [d1, d2, d3] => { results := [.lit (.bool true)], args := [d1, d2, d3] }
  | _ => none }
def fnExactIsModelMorphismRow : OpenClaim := { program := "ytecjmibnoldpgaa", sum := "904f3cd8ed137930553797964c8a1bb54ef424e335de4ce2607e7fb81e783eed", func := "loop.example/g01089/laws.FnExactIsModelMorphism", spec := "fnExactIsModelMorphism", unfollowed := true, recurses := true, apart := false }
def FnExactIsModelMorphismSaid : Prop := fnExactIsModelMorphismRow.holds Try.pinned (OpenSpec.ofChange fnExactIsModelMorphismSpec)

/-- ITS FALSE NEIGHBOUR: 'it returns false'. Refute it at one input. -/
def fnExactIsModelMorphismWrong : ChangeSpec := { name := "fnExactIsModelMorphism", fn := fun _ => fun
  | [d1, d2, d3] => { results := [.lit (.bool false)], args := [d1, d2, d3] }
  | _ => none }
def FnExactIsModelMorphismWrongFalsely : Prop := fnExactIsModelMorphismRow.holds Try.pinned (OpenSpec.ofChange fnExactIsModelMorphismWrong)

/-- 'laws.FnExactThenMorphisms': WHATEVER THE INPUT: true; the input reads as it did. -/
def fnExactThenMorphismsSpec : ChangeSpec := { name := "fnExactThenMorphisms", fn := fun _ => fun
  | [d1, d2, d3, d4, d5] => { results := [.lit (.bool true)], args := [d1, d2, d3, d4, d5] }
  | _ => none }
def fnExactThenMorphismsRow : OpenClaim := { program := "ytecjmibnoldpgaa", sum := "904f3cd8ed137930553797964c8a1bb54ef424e335de4ce2607e7fb81e783eed", func := "loop.example/g01089/laws.FnExactThenMorphisms", spec := "fnExactThenMorphisms", unfollowed := true, recurses := true, apart := false }
def FnExactThenMorphismsSaid : Prop := fnExactThenMorphismsRow.holds Try.pinned (OpenSpec.ofChange fnExactThenMorphismsSpec)

/-- ITS FALSE NEIGHBOUR: 'it returns false'. Refute it at one input. -/
def fnExactThenMorphismsWrong : ChangeSpec := { name := "fnExactThenMorphisms", fn := fun _ => fun
  | [d1, d2, d3, d4, d5] => { results := [.lit (.bool false)], args := [d1, d2, d3, d4, d5] }
  | _ => none }
def FnExactThenMorphismsWrongFalsely : Prop := fnExactThenMorphismsRow.holds Try.pinned (OpenSpec.ofChange fnExactThenMorphismsWrong)

/-- 'laws.FnExactPullValues': WHATEVER THE INPUT: true; the input reads as it did. -/
def fnExactPullValuesSpec : ChangeSpec := { name := "fnExactPullValues", fn := fun _ => fun
  | [d1, d2, d3, d4] => { results := [.lit (.bool true)], args := [d1, d2, d3, d4] }
  | _ => none }
def fnExactPullValuesRow : OpenClaim := { program := "ytecjmibnoldpgaa", sum := "904f3cd8ed137930553797964c8a1bb54ef424e335de4ce2607e7fb81e783eed", func := "loop.example/g01089/laws.FnExactPullValues", spec := "fnExactPullValues", unfollowed := true, recurses := true, apart := false }
def FnExactPullValuesSaid : Prop := fnExactPullValuesRow.holds Try.pinned (OpenSpec.ofChange fnExactPullValuesSpec)

/-- ITS FALSE NEIGHBOUR: 'it returns false'. Refute it at one input. -/
def fnExactPullValuesWrong : ChangeSpec := { name := "fnExactPullValues", fn := fun _ => fun
  | [d1, d2, d3, d4] => { results := [.lit (.bool false)], args := [d1, d2, d3, d4] }
  | _ => none }
def FnExactPullValuesWrongFalsely : Prop := fnExactPullValuesRow.holds Try.pinned (OpenSpec.ofChange fnExactPullValuesWrong)

/-- 'laws.FnExactIsCongruence': WHATEVER THE INPUT: true; the input reads as it did. -/
def fnExactIsCongruenceSpec : ChangeSpec := { name := "fnExactIsCongruence", fn := fun _ => fun
  | [d1, d2] => { results := [.lit (.bool true)], args := [d1, d2] }
  | _ => none }
def fnExactIsCongruenceRow : OpenClaim := { program := "ytecjmibnoldpgaa", sum := "904f3cd8ed137930553797964c8a1bb54ef424e335de4ce2607e7fb81e783eed", func := "loop.example/g01089/laws.FnExactIsCongruence", spec := "fnExactIsCongruence", apart := false }
def FnExactIsCongruenceSaid : Prop := fnExactIsCongruenceRow.holds Try.pinned (OpenSpec.ofChange fnExactIsCongruenceSpec)

/-- ITS FALSE NEIGHBOUR: 'it returns false'. Refute it at one input. -/
def fnExactIsCongruenceWrong : ChangeSpec := { name := "fnExactIsCongruence", fn := fun _ => fun
  | [d1, d2] => { results := [.lit (.bool false)], args := [d1, d2] }
  | _ => none }
def FnExactIsCongruenceWrongFalsely : Prop := fnExactIsCongruenceRow.holds Try.pinned (OpenSpec.ofChange fnExactIsCongruenceWrong)

/-- 'laws.FnExactQuotientFrame': WHATEVER THE INPUT: true; the input reads as it did. -/
def fnExactQuotientFrameSpec : ChangeSpec := { name := "fnExactQuotientFrame", fn := fun _ => fun
  | [d1, d2] => { results := [.lit (.bool true)], args := [d1, d2] }
  | _ => none }
def fnExactQuotientFrameRow : OpenClaim := { program := "ytecjmibnoldpgaa", sum := "904f3cd8ed137930553797964c8a1bb54ef424e335de4ce2607e7fb81e783eed", func := "loop.example/g01089/laws.FnExactQuotientFrame", spec := "fnExactQuotientFrame", apart := false }
def FnExactQuotientFrameSaid : Prop := fnExactQuotientFrameRow.holds Try.pinned (OpenSpec.ofChange fnExactQuotientFrameSpec)

/-- ITS FALSE NEIGHBOUR: 'it returns false'. Refute it at one input. -/
def fnExactQuotientFrameWrong : ChangeSpec := { name := "fnExactQuotientFrame", fn := fun _ => fun
  | [d1, d2] => { results := [.lit (.bool false)], args := [d1, d2] }
  | _ => none }
def FnExactQuotientFrameWrongFalsely : Prop := fnExactQuotientFrameRow.holds Try.pinned (OpenSpec.ofChange fnExactQuotientFrameWrong)

/-- 'laws.FnExactUnravelFrame': WHATEVER THE INPUT: true; the input reads as it did. -/
def fnExactUnravelFrameSpec : ChangeSpec := { name := "fnExactUnravelFrame", fn := fun _ => fun
  | [d1, d2, d3] => { results := [.lit (.bool true)], args := [d1, d2, d3] }
  | _ => none }
def fnExactUnravelFrameRow : OpenClaim := { program := "ytecjmibnoldpgaa", sum := "904f3cd8ed137930553797964c8a1bb54ef424e335de4ce2607e7fb81e783eed", func := "loop.example/g01089/laws.FnExactUnravelFrame", spec := "fnExactUnravelFrame", apart := false }
def FnExactUnravelFrameSaid : Prop := fnExactUnravelFrameRow.holds Try.pinned (OpenSpec.ofChange fnExactUnravelFrameSpec)

/-- ITS FALSE NEIGHBOUR: 'it returns false'. Refute it at one input. -/
def fnExactUnravelFrameWrong : ChangeSpec := { name := "fnExactUnravelFrame", fn := fun _ => fun
  | [d1, d2, d3] => { results := [.lit (.bool false)], args := [d1, d2, d3] }
  | _ => none }
def FnExactUnravelFrameWrongFalsely : Prop := fnExactUnravelFrameRow.holds Try.pinned (OpenSpec.ofChange fnExactUnravelFrameWrong)

/-- 'laws.FnExactAllCongruences': WHATEVER THE INPUT: true; the input reads as it did. -/
def fnExactAllCongruencesSpec : ChangeSpec := { name := "fnExactAllCongruences", fn := fun _ => fun
  | [d] => { results := [.lit (.bool true)], args := [d] }
  | _ => none }
def fnExactAllCongruencesRow : OpenClaim := { program := "ytecjmibnoldpgaa", sum := "904f3cd8ed137930553797964c8a1bb54ef424e335de4ce2607e7fb81e783eed", func := "loop.example/g01089/laws.FnExactAllCongruences", spec := "fnExactAllCongruences", unfollowed := true, recurses := true, apart := false }
def FnExactAllCongruencesSaid : Prop := fnExactAllCongruencesRow.holds Try.pinned (OpenSpec.ofChange fnExactAllCongruencesSpec)

/-- ITS FALSE NEIGHBOUR: 'it returns false'. Refute it at one input. -/
def fnExactAllCongruencesWrong : ChangeSpec := { name := "fnExactAllCongruences", fn := fun _ => fun
  | [d] => { results := [.lit (.bool false)], args := [d] }
  | _ => none }
def FnExactAllCongruencesWrongFalsely : Prop := fnExactAllCongruencesRow.holds Try.pinned (OpenSpec.ofChange fnExactAllCongruencesWrong)

/- THE SECOND FORM. 'bulk': how many values and letters a reading holds, each counted each time it is reached (what is shared counts as often as it is met; a slice's spare places count too). A statement '..UptoSaid' is the law's where the arguments, and the package variables that the reading takes, are together of bulk at most 1048576: NARROWER than '..Said'. Prove '..Said' where nothing that the law and all that it calls make is longer than what came in: it says more and counts as full. Else prove '..UptoSaid'. A law counts once. -/
mutual
def uptoBulk {H : Type} : DataW H → Nat
  | .lit (.string bytes) => bytes.length + 1
  | .lit _ => 1
  | .nil => 1
  | .ptr d => uptoBulk d + 1
  | .slice elems spare => uptoBulkAll elems + uptoBulkAll spare + 1
  | .agg parts => uptoBulkAll parts + 1
  | .iface _ d => uptoBulk d + 1
  | .map entries => uptoBulkEntries entries + 1
  | .held _ => 1
def uptoBulkAll {H : Type} : List (DataW H) → Nat
  | [] => 0
  | d :: r => uptoBulk d + uptoBulkAll r
def uptoBulkEntries {H : Type} : List (Lit × DataW H) → Nat
  | [] => 0
  | x :: r => uptoBulkEntry x + uptoBulkEntries r
def uptoBulkEntry {H : Type} : Lit × DataW H → Nat
  | (.string bytes, d) => bytes.length + uptoBulk d + 1
  | (_, d) => uptoBulk d + 1
 end
def uptoSmall : (H : Type) → List (DataW H) → Bool := fun _ ds => decide (uptoBulkAll ds ≤ 1048576)
def OpenSpec.upto (s : _root_.Go.ChangeSpec) : _root_.Go.OpenSpec := { _root_.Go.OpenSpec.ofChange s with cond := some uptoSmall }

/-- 'laws.FnExactIsMorphism', WHERE WHAT IT READS IS OF BULK AT MOST 1048576: true; the input reads as it did. -/
def fnExactIsMorphismUptoRow : OpenClaim := { program := "ytecjmibnoldpgaa", sum := "904f3cd8ed137930553797964c8a1bb54ef424e335de4ce2607e7fb81e783eed", func := "loop.example/g01089/laws.FnExactIsMorphism", spec := "fnExactIsMorphism", unfollowed := true, recurses := true, apart := false, narrowed := true }
def FnExactIsMorphismUptoSaid : Prop := fnExactIsMorphismUptoRow.holds Try.pinned (OpenSpec.upto fnExactIsMorphismSpec)

/-- 'laws.FnExactIsModelMorphism', WHERE WHAT IT READS IS OF BULK AT MOST 1048576: true; the input reads as it did. -/
def fnExactIsModelMorphismUptoRow : OpenClaim := { program := "ytecjmibnoldpgaa", sum := "904f3cd8ed137930553797964c8a1bb54ef424e335de4ce2607e7fb81e783eed", func := "loop.example/g01089/laws.FnExactIsModelMorphism", spec := "fnExactIsModelMorphism", unfollowed := true, recurses := true, apart := false, narrowed := true }
def FnExactIsModelMorphismUptoSaid : Prop := fnExactIsModelMorphismUptoRow.holds Try.pinned (OpenSpec.upto fnExactIsModelMorphismSpec)

/-- 'laws.FnExactThenMorphisms', WHERE WHAT IT READS IS OF BULK AT MOST 1048576: true; the input reads as it did. -/
def fnExactThenMorphismsUptoRow : OpenClaim := { program := "ytecjmibnoldpgaa", sum := "904f3cd8ed137930553797964c8a1bb54ef424e335de4ce2607e7fb81e783eed", func := "loop.example/g01089/laws.FnExactThenMorphisms", spec := "fnExactThenMorphisms", unfollowed := true, recurses := true, apart := false, narrowed := true }
def FnExactThenMorphismsUptoSaid : Prop := fnExactThenMorphismsUptoRow.holds Try.pinned (OpenSpec.upto fnExactThenMorphismsSpec)

/-- 'laws.FnExactPullValues', WHERE WHAT IT READS IS OF BULK AT MOST 1048576: true; the input reads as it did. -/
def fnExactPullValuesUptoRow : OpenClaim := { program := "ytecjmibnoldpgaa", sum := "904f3cd8ed137930553797964c8a1bb54ef424e335de4ce2607e7fb81e783eed", func := "loop.example/g01089/laws.FnExactPullValues", spec := "fnExactPullValues", unfollowed := true, recurses := true, apart := false, narrowed := true }
def FnExactPullValuesUptoSaid : Prop := fnExactPullValuesUptoRow.holds Try.pinned (OpenSpec.upto fnExactPullValuesSpec)

/-- 'laws.FnExactIsCongruence', WHERE WHAT IT READS IS OF BULK AT MOST 1048576: true; the input reads as it did. -/
def fnExactIsCongruenceUptoRow : OpenClaim := { program := "ytecjmibnoldpgaa", sum := "904f3cd8ed137930553797964c8a1bb54ef424e335de4ce2607e7fb81e783eed", func := "loop.example/g01089/laws.FnExactIsCongruence", spec := "fnExactIsCongruence", apart := false, narrowed := true }
def FnExactIsCongruenceUptoSaid : Prop := fnExactIsCongruenceUptoRow.holds Try.pinned (OpenSpec.upto fnExactIsCongruenceSpec)

/-- 'laws.FnExactQuotientFrame', WHERE WHAT IT READS IS OF BULK AT MOST 1048576: true; the input reads as it did. -/
def fnExactQuotientFrameUptoRow : OpenClaim := { program := "ytecjmibnoldpgaa", sum := "904f3cd8ed137930553797964c8a1bb54ef424e335de4ce2607e7fb81e783eed", func := "loop.example/g01089/laws.FnExactQuotientFrame", spec := "fnExactQuotientFrame", apart := false, narrowed := true }
def FnExactQuotientFrameUptoSaid : Prop := fnExactQuotientFrameUptoRow.holds Try.pinned (OpenSpec.upto fnExactQuotientFrameSpec)

/-- 'laws.FnExactUnravelFrame', WHERE WHAT IT READS IS OF BULK AT MOST 1048576: true; the input reads as it did. -/
def fnExactUnravelFrameUptoRow : OpenClaim := { program := "ytecjmibnoldpgaa", sum := "904f3cd8ed137930553797964c8a1bb54ef424e335de4ce2607e7fb81e783eed", func := "loop.example/g01089/laws.FnExactUnravelFrame", spec := "fnExactUnravelFrame", apart := false, narrowed := true }
def FnExactUnravelFrameUptoSaid : Prop := fnExactUnravelFrameUptoRow.holds Try.pinned (OpenSpec.upto fnExactUnravelFrameSpec)

/-- 'laws.FnExactAllCongruences', WHERE WHAT IT READS IS OF BULK AT MOST 1048576: true; the input reads as it did. -/
def fnExactAllCongruencesUptoRow : OpenClaim := { program := "ytecjmibnoldpgaa", sum := "904f3cd8ed137930553797964c8a1bb54ef424e335de4ce2607e7fb81e783eed", func := "loop.example/g01089/laws.FnExactAllCongruences", spec := "fnExactAllCongruences", unfollowed := true, recurses := true, apart := false, narrowed := true }
def FnExactAllCongruencesUptoSaid : Prop := fnExactAllCongruencesUptoRow.holds Try.pinned (OpenSpec.upto fnExactAllCongruencesSpec)

end Rows
end Go.Proofs.Ytecjmibnoldpgaa
