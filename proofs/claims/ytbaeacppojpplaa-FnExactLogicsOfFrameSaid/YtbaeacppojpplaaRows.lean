/-
  No cell of these rows narrows 'for every input' (looked for: loops, veiled, ifaces, maps, wideKeys, modest, calm, conditions, laid).
  DERIVED. THE GIVEN ROWS OF THIS SEAT. 6 by the template 'for every input the law returns true; each argument reads behind the call as it read before'; 0 by the template 'total and deterministic' (their statements: YtbaeacppojpplaaTotals.lean).
  GIVEN WITH THE SEED: the statements are not yours to turn. If you find one false, say at which input.
  Laid BY PROGRAM, IN A SANDBOX (cutbox-rows.mjs): the forced cells as the released guide's own fill.sh prints them over the translation c4cc98a65b467a3c… (all of the seat's roots in one cut). By AI agents, Wed Nov 11 2026. No macro, syntax, notation, axiom, sorry.
-/
import Derived.Test.YtbaeacppojpplaaChecked
import GoSem.Claim
import GoSem.ClaimJoined
import GoSem.ClaimMapViews
import Derived.JoinedTies
import Derived.KernelRfl
namespace Go.Proofs.Ytbaeacppojpplaa
/- THE CELL 'sum', in the pinned program and in every row, IS THE sha256 OF THE DUMP (.gsa) THAT YtbaeacppojpplaaProg.lean LOADS. Nothing in Lean hashes anything: it is a label: what it is worth is what the hold of that sum in a sandbox is worth. -/
noncomputable def Try.pinned : Pinned := { name := "ytbaeacppojpplaa", sum := "c4cc98a65b467a3cb28f3cb4969241a042e91619a18ed1cedbf553eaa9ee5801", checked := Try.checked }
namespace Rows
def none {H : Type} : Left H := { results := [], args := [] }

/-- 'laws.FnExactAxiomName': WHATEVER THE INPUT: true; the input reads as it did. -/
def fnExactAxiomNameSpec : ChangeSpec := { name := "fnExactAxiomName", fn := fun _ => fun
  | [d] => { results := [.lit (.bool true)], args := [d] }
  | _ => none }
def fnExactAxiomNameRow : OpenClaim := { program := "ytbaeacppojpplaa", sum := "c4cc98a65b467a3cb28f3cb4969241a042e91619a18ed1cedbf553eaa9ee5801", func := "loop.example/g01089/laws.FnExactAxiomName", spec := "fnExactAxiomName", apart := false }
def FnExactAxiomNameSaid : Prop := fnExactAxiomNameRow.holds Try.pinned (OpenSpec.ofChange fnExactAxiomNameSpec)

/-- ITS FALSE NEIGHBOUR: 'it returns false'. Refute it at one input. -/
def fnExactAxiomNameWrong : ChangeSpec := { name := "fnExactAxiomName", fn := fun _ => fun
  | [d] => { results := [.lit (.bool false)], args := [d] }
  | _ => none }
def FnExactAxiomNameWrongFalsely : Prop := fnExactAxiomNameRow.holds Try.pinned (OpenSpec.ofChange fnExactAxiomNameWrong)

/-- 'laws.FnExactAxiomHolds': WHATEVER THE INPUT: true; the input reads as it did. -/
def fnExactAxiomHoldsSpec : ChangeSpec := { name := "fnExactAxiomHolds", fn := fun _ => fun
  | [d1, d2] => { results := [.lit (.bool true)], args := [d1, d2] }
  | _ => none }
def fnExactAxiomHoldsRow : OpenClaim := { program := "ytbaeacppojpplaa", sum := "c4cc98a65b467a3cb28f3cb4969241a042e91619a18ed1cedbf553eaa9ee5801", func := "loop.example/g01089/laws.FnExactAxiomHolds", spec := "fnExactAxiomHolds", unfollowed := true, recurses := true, apart := false }
def FnExactAxiomHoldsSaid : Prop := fnExactAxiomHoldsRow.holds Try.pinned (OpenSpec.ofChange fnExactAxiomHoldsSpec)

/-- ITS FALSE NEIGHBOUR: 'it returns false'. Refute it at one input. -/
def fnExactAxiomHoldsWrong : ChangeSpec := { name := "fnExactAxiomHolds", fn := fun _ => fun
  | [d1, d2] => { results := [.lit (.bool false)], args := [d1, d2] }
  | _ => none }
def FnExactAxiomHoldsWrongFalsely : Prop := fnExactAxiomHoldsRow.holds Try.pinned (OpenSpec.ofChange fnExactAxiomHoldsWrong)

/-- 'laws.FnExactLogicName': WHATEVER THE INPUT: true; the input reads as it did. -/
def fnExactLogicNameSpec : ChangeSpec := { name := "fnExactLogicName", fn := fun _ => fun
  | [d] => { results := [.lit (.bool true)], args := [d] }
  | _ => none }
def fnExactLogicNameRow : OpenClaim := { program := "ytbaeacppojpplaa", sum := "c4cc98a65b467a3cb28f3cb4969241a042e91619a18ed1cedbf553eaa9ee5801", func := "loop.example/g01089/laws.FnExactLogicName", spec := "fnExactLogicName", apart := false }
def FnExactLogicNameSaid : Prop := fnExactLogicNameRow.holds Try.pinned (OpenSpec.ofChange fnExactLogicNameSpec)

/-- ITS FALSE NEIGHBOUR: 'it returns false'. Refute it at one input. -/
def fnExactLogicNameWrong : ChangeSpec := { name := "fnExactLogicName", fn := fun _ => fun
  | [d] => { results := [.lit (.bool false)], args := [d] }
  | _ => none }
def FnExactLogicNameWrongFalsely : Prop := fnExactLogicNameRow.holds Try.pinned (OpenSpec.ofChange fnExactLogicNameWrong)

/-- 'laws.FnExactLogicAxioms': WHATEVER THE INPUT: true; the input reads as it did. -/
def fnExactLogicAxiomsSpec : ChangeSpec := { name := "fnExactLogicAxioms", fn := fun _ => fun
  | [d] => { results := [.lit (.bool true)], args := [d] }
  | _ => none }
def fnExactLogicAxiomsRow : OpenClaim := { program := "ytbaeacppojpplaa", sum := "c4cc98a65b467a3cb28f3cb4969241a042e91619a18ed1cedbf553eaa9ee5801", func := "loop.example/g01089/laws.FnExactLogicAxioms", spec := "fnExactLogicAxioms", apart := false }
def FnExactLogicAxiomsSaid : Prop := fnExactLogicAxiomsRow.holds Try.pinned (OpenSpec.ofChange fnExactLogicAxiomsSpec)

/-- ITS FALSE NEIGHBOUR: 'it returns false'. Refute it at one input. -/
def fnExactLogicAxiomsWrong : ChangeSpec := { name := "fnExactLogicAxioms", fn := fun _ => fun
  | [d] => { results := [.lit (.bool false)], args := [d] }
  | _ => none }
def FnExactLogicAxiomsWrongFalsely : Prop := fnExactLogicAxiomsRow.holds Try.pinned (OpenSpec.ofChange fnExactLogicAxiomsWrong)

/-- 'laws.FnExactIsFrameOf': WHATEVER THE INPUT: true; the input reads as it did. -/
def fnExactIsFrameOfSpec : ChangeSpec := { name := "fnExactIsFrameOf", fn := fun _ => fun
  | [d1, d2] => { results := [.lit (.bool true)], args := [d1, d2] }
  | _ => none }
def fnExactIsFrameOfRow : OpenClaim := { program := "ytbaeacppojpplaa", sum := "c4cc98a65b467a3cb28f3cb4969241a042e91619a18ed1cedbf553eaa9ee5801", func := "loop.example/g01089/laws.FnExactIsFrameOf", spec := "fnExactIsFrameOf", unfollowed := true, recurses := true, apart := false }
def FnExactIsFrameOfSaid : Prop := fnExactIsFrameOfRow.holds Try.pinned (OpenSpec.ofChange fnExactIsFrameOfSpec)

/-- ITS FALSE NEIGHBOUR: 'it returns false'. Refute it at one input. -/
def fnExactIsFrameOfWrong : ChangeSpec := { name := "fnExactIsFrameOf", fn := fun _ => fun
  | [d1, d2] => { results := [.lit (.bool false)], args := [d1, d2] }
  | _ => none }
def FnExactIsFrameOfWrongFalsely : Prop := fnExactIsFrameOfRow.holds Try.pinned (OpenSpec.ofChange fnExactIsFrameOfWrong)

/-- 'laws.FnExactLogicsOfFrame': WHATEVER THE INPUT: true; the input reads as it did. -/
def fnExactLogicsOfFrameSpec : ChangeSpec := { name := "fnExactLogicsOfFrame", fn := fun _ => fun
  | [d] => { results := [.lit (.bool true)], args := [d] }
  | _ => none }
def fnExactLogicsOfFrameRow : OpenClaim := { program := "ytbaeacppojpplaa", sum := "c4cc98a65b467a3cb28f3cb4969241a042e91619a18ed1cedbf553eaa9ee5801", func := "loop.example/g01089/laws.FnExactLogicsOfFrame", spec := "fnExactLogicsOfFrame", unfollowed := true, recurses := true, apart := false }
def FnExactLogicsOfFrameSaid : Prop := fnExactLogicsOfFrameRow.holds Try.pinned (OpenSpec.ofChange fnExactLogicsOfFrameSpec)

/-- ITS FALSE NEIGHBOUR: 'it returns false'. Refute it at one input. -/
def fnExactLogicsOfFrameWrong : ChangeSpec := { name := "fnExactLogicsOfFrame", fn := fun _ => fun
  | [d] => { results := [.lit (.bool false)], args := [d] }
  | _ => none }
def FnExactLogicsOfFrameWrongFalsely : Prop := fnExactLogicsOfFrameRow.holds Try.pinned (OpenSpec.ofChange fnExactLogicsOfFrameWrong)

/- THE SECOND FORM. 'bulk': how many values and letters a reading holds, each counted each time it is reached (what is shared counts as often as it is met; a slice's spare places count too). A statement '..UptoSaid' is the law's where the arguments, and the package variables that the reading takes, are together of bulk at most 1048576: NARROWER than '..Said'. Prove '..Said' where nothing that the law and all that it calls make is longer than what came in: it says more and counts as full. Else prove '..UptoSaid'. A law counts once. -/
mutual
def uptoBulk {H : Type} : DataW H → Nat
  | .lit (.string bytes) => bytes.length + 1
  | .lit _ => 1
  | .nil => 1
  | .ptr d => uptoBulk d + 1
  | .slice elems spare => uptoBulkAll elems + uptoBulkAll spare + 1
  | .agg parts => uptoBulkAll parts + 1
  | .iface _ d => uptoBulk d + 1
  | .map entries => uptoBulkEntries entries + 1
  | .held _ => 1
def uptoBulkAll {H : Type} : List (DataW H) → Nat
  | [] => 0
  | d :: r => uptoBulk d + uptoBulkAll r
def uptoBulkEntries {H : Type} : List (Lit × DataW H) → Nat
  | [] => 0
  | x :: r => uptoBulkEntry x + uptoBulkEntries r
def uptoBulkEntry {H : Type} : Lit × DataW H → Nat
  | (.string bytes, d) => bytes.length + uptoBulk d + 1
  | (_, d) => uptoBulk d + 1
 end
def uptoSmall : (H : Type) → List (DataW H) → Bool := fun _ ds => decide (uptoBulkAll ds ≤ 1048576)
def OpenSpec.upto (s : _root_.Go.ChangeSpec) : _root_.Go.OpenSpec := { _root_.Go.OpenSpec.ofChange s with cond := some uptoSmall }

/-- 'laws.FnExactAxiomName', WHERE WHAT IT READS IS OF BULK AT MOST 1048576: true; the input reads as it did. -/
def fnExactAxiomNameUptoRow : OpenClaim := { program := "ytbaeacppojpplaa", sum := "c4cc98a65b467a3cb28f3cb4969241a042e91619a18ed1cedbf553eaa9ee5801", func := "loop.example/g01089/laws.FnExactAxiomName", spec := "fnExactAxiomName", apart := false, narrowed := true }
def FnExactAxiomNameUptoSaid : Prop := fnExactAxiomNameUptoRow.holds Try.pinned (OpenSpec.upto fnExactAxiomNameSpec)

/-- 'laws.FnExactAxiomHolds', WHERE WHAT IT READS IS OF BULK AT MOST 1048576: true; the input reads as it did. -/
def fnExactAxiomHoldsUptoRow : OpenClaim := { program := "ytbaeacppojpplaa", sum := "c4cc98a65b467a3cb28f3cb4969241a042e91619a18ed1cedbf553eaa9ee5801", func := "loop.example/g01089/laws.FnExactAxiomHolds", spec := "fnExactAxiomHolds", unfollowed := true, recurses := true, apart := false, narrowed := true }
def FnExactAxiomHoldsUptoSaid : Prop := fnExactAxiomHoldsUptoRow.holds Try.pinned (OpenSpec.upto fnExactAxiomHoldsSpec)

/-- 'laws.FnExactLogicName', WHERE WHAT IT READS IS OF BULK AT MOST 1048576: true; the input reads as it did. -/
def fnExactLogicNameUptoRow : OpenClaim := { program := "ytbaeacppojpplaa", sum := "c4cc98a65b467a3cb28f3cb4969241a042e91619a18ed1cedbf553eaa9ee5801", func := "loop.example/g01089/laws.FnExactLogicName", spec := "fnExactLogicName", apart := false, narrowed := true }
def FnExactLogicNameUptoSaid : Prop := fnExactLogicNameUptoRow.holds Try.pinned (OpenSpec.upto fnExactLogicNameSpec)

/-- 'laws.FnExactLogicAxioms', WHERE WHAT IT READS IS OF BULK AT MOST 1048576: true; the input reads as it did. -/
def fnExactLogicAxiomsUptoRow : OpenClaim := { program := "ytbaeacppojpplaa", sum := "c4cc98a65b467a3cb28f3cb4969241a042e91619a18ed1cedbf553eaa9ee5801", func := "loop.example/g01089/laws.FnExactLogicAxioms", spec := "fnExactLogicAxioms", apart := false, narrowed := true }
def FnExactLogicAxiomsUptoSaid : Prop := fnExactLogicAxiomsUptoRow.holds Try.pinned (OpenSpec.upto fnExactLogicAxiomsSpec)

/-- 'laws.FnExactIsFrameOf', WHERE WHAT IT READS IS OF BULK AT MOST 1048576: true; the input reads as it did. -/
def fnExactIsFrameOfUptoRow : OpenClaim := { program := "ytbaeacppojpplaa", sum := "c4cc98a65b467a3cb28f3cb4969241a042e91619a18ed1cedbf553eaa9ee5801", func := "loop.example/g01089/laws.FnExactIsFrameOf", spec := "fnExactIsFrameOf", unfollowed := true, recurses := true, apart := false, narrowed := true }
def FnExactIsFrameOfUptoSaid : Prop := fnExactIsFrameOfUptoRow.holds Try.pinned (OpenSpec.upto fnExactIsFrameOfSpec)

/-- 'laws.FnExactLogicsOfFrame', WHERE WHAT IT READS IS OF BULK AT MOST 1048576: true; the input reads as it did. -/
def fnExactLogicsOfFrameUptoRow : OpenClaim := { program := "ytbaeacppojpplaa", sum := "c4cc98a65b467a3cb28f3cb4969241a042e91619a18ed1cedbf553eaa9ee5801", func := "loop.example/g01089/laws.FnExactLogicsOfFrame", spec := "fnExactLogicsOfFrame", unfollowed := true, recurses := true, apart := false, narrowed := true }
def FnExactLogicsOfFrameUptoSaid : Prop := fnExactLogicsOfFrameUptoRow.holds Try.pinned (OpenSpec.upto fnExactLogicsOfFrameSpec)

end Rows
end Go.Proofs.Ytbaeacppojpplaa
