/-
  NARROWER THAN 'FOR EVERY INPUT', by the rows' own cells (each row's printed sentence says how): FnExactDependsOn: laid · FnExactPrimeImplicates: laid · FnExactPrimeImplicants: laid.
  DERIVED. THE GIVEN ROWS OF THIS SEAT. 3 by the template 'for every input the law returns true; each argument reads behind the call as it read before'; 0 by the template 'total and deterministic' (their statements: YtfkahkhmnchnjacDoorTotals.lean).
  GIVEN WITH THE SEED: the statements are not yours to turn. If you find one false, say at which input.
  Laid BY PROGRAM, IN A SANDBOX (cutbox-rows.mjs): the forced cells as the released guide's own fill.sh prints them over the translation 8b1b81c6110d2870… (all of the seat's roots in one cut). By AI agents, Wed Nov 11 2026. No macro, syntax, notation, axiom, sorry.
-/
import Derived.Test.YtfkahkhmnchnjacDoorChecked
import GoSem.Claim
import GoSem.ClaimJoined
import GoSem.ClaimMapViews
import Derived.JoinedTies
import Derived.KernelRfl
namespace Go.Proofs.YtfkahkhmnchnjacDoor
/- THE CELL 'sum', in the pinned program and in every row, IS THE sha256 OF THE DUMP (.gsa) THAT YtfkahkhmnchnjacDoorProg.lean LOADS. Nothing in Lean hashes anything: it is a label: what it is worth is what the hold of that sum in a sandbox is worth. -/
noncomputable def Tryd.pinned : Pinned := { name := "ytfkahkhmnchnjacdoor", sum := "8b1b81c6110d28705203d062f94ff9318d951c6d25966fd3f08494cde03e36b7", checked := Tryd.checked }
namespace Rows
def none {H : Type} : Left H := { results := [], args := [] }

/- WHAT THE LISTED PACKAGE-LEVEL VARIABLES READ AS WHEN THE CALL BEGINS. Each datum BY PROGRAM (the guide's laid-datum.mjs) off the statement by which the dump's own 'gosem.cut.vars' lays the variable. In a bare row this is a premise. The card (YtfkahkhmnchnjacDoorCards.lean) ties it to the program's text. -/
def laid_loop_example_g01089_impl_variableRows {H : Type} : DataW H := .agg [.lit (.int .u64 12297829382473034410), .lit (.int .u64 14757395258967641292), .lit (.int .u64 17361641481138401520), .lit (.int .u64 18374966859414961920), .lit (.int .u64 18446462603027742720), .lit (.int .u64 18446744069414584320)]

/-- 'laws.FnExactDependsOn': WHATEVER THE INPUT: true; the input reads as it did. -/
def fnExactDependsOnSpec : ChangeSpec := { name := "fnExactDependsOn", vars := ["loop.example/g01089/impl.variableRows"], fn := fun _ => fun
  | [d, g1] => { results := [.lit (.bool true)], args := [d], vars := [g1] }
  | _ => none }
def fnExactDependsOnRow : OpenClaim := { program := "ytfkahkhmnchnjacdoor", sum := "8b1b81c6110d28705203d062f94ff9318d951c6d25966fd3f08494cde03e36b7", func := "loop.example/g01089/laws.FnExactDependsOn", spec := "fnExactDependsOn", recurses := true, named := ["loop.example/g01089/impl.variableRows"], apart := false, laid := [("loop.example/g01089/impl.variableRows", laid_loop_example_g01089_impl_variableRows)] }
def FnExactDependsOnSaid : Prop := fnExactDependsOnRow.holds Tryd.pinned (OpenSpec.ofChange fnExactDependsOnSpec)

/-- ITS FALSE NEIGHBOUR: 'it returns false'. Refute it at one input. -/
def fnExactDependsOnWrong : ChangeSpec := { name := "fnExactDependsOn", vars := ["loop.example/g01089/impl.variableRows"], fn := fun _ => fun
  | [d, g1] => { results := [.lit (.bool false)], args := [d], vars := [g1] }
  | _ => none }
def FnExactDependsOnWrongFalsely : Prop := fnExactDependsOnRow.holds Tryd.pinned (OpenSpec.ofChange fnExactDependsOnWrong)

/-- 'laws.FnExactPrimeImplicates': WHATEVER THE INPUT: true; the input reads as it did. -/
def fnExactPrimeImplicatesSpec : ChangeSpec := { name := "fnExactPrimeImplicates", vars := ["loop.example/g01089/impl.variableRows"], fn := fun _ => fun
  | [d, g1] => { results := [.lit (.bool true)], args := [d], vars := [g1] }
  | _ => none }
def fnExactPrimeImplicatesRow : OpenClaim := { program := "ytfkahkhmnchnjacdoor", sum := "8b1b81c6110d28705203d062f94ff9318d951c6d25966fd3f08494cde03e36b7", func := "loop.example/g01089/laws.FnExactPrimeImplicates", spec := "fnExactPrimeImplicates", unfollowed := true, recurses := true, named := ["loop.example/g01089/impl.variableRows"], apart := false, laid := [("loop.example/g01089/impl.variableRows", laid_loop_example_g01089_impl_variableRows)] }
def FnExactPrimeImplicatesSaid : Prop := fnExactPrimeImplicatesRow.holds Tryd.pinned (OpenSpec.ofChange fnExactPrimeImplicatesSpec)

/-- ITS FALSE NEIGHBOUR: 'it returns false'. Refute it at one input. -/
def fnExactPrimeImplicatesWrong : ChangeSpec := { name := "fnExactPrimeImplicates", vars := ["loop.example/g01089/impl.variableRows"], fn := fun _ => fun
  | [d, g1] => { results := [.lit (.bool false)], args := [d], vars := [g1] }
  | _ => none }
def FnExactPrimeImplicatesWrongFalsely : Prop := fnExactPrimeImplicatesRow.holds Tryd.pinned (OpenSpec.ofChange fnExactPrimeImplicatesWrong)

/-- 'laws.FnExactPrimeImplicants': WHATEVER THE INPUT: true; the input reads as it did. -/
def fnExactPrimeImplicantsSpec : ChangeSpec := { name := "fnExactPrimeImplicants", vars := ["loop.example/g01089/impl.variableRows"], fn := fun _ => fun
  | [d, g1] => { results := [.lit (.bool true)], args := [d], vars := [g1] }
  | _ => none }
def fnExactPrimeImplicantsRow : OpenClaim := { program := "ytfkahkhmnchnjacdoor", sum := "8b1b81c6110d28705203d062f94ff9318d951c6d25966fd3f08494cde03e36b7", func := "loop.example/g01089/laws.FnExactPrimeImplicants", spec := "fnExactPrimeImplicants", unfollowed := true, recurses := true, named := ["loop.example/g01089/impl.variableRows"], apart := false, laid := [("loop.example/g01089/impl.variableRows", laid_loop_example_g01089_impl_variableRows)] }
def FnExactPrimeImplicantsSaid : Prop := fnExactPrimeImplicantsRow.holds Tryd.pinned (OpenSpec.ofChange fnExactPrimeImplicantsSpec)

/-- ITS FALSE NEIGHBOUR: 'it returns false'. Refute it at one input. -/
def fnExactPrimeImplicantsWrong : ChangeSpec := { name := "fnExactPrimeImplicants", vars := ["loop.example/g01089/impl.variableRows"], fn := fun _ => fun
  | [d, g1] => { results := [.lit (.bool false)], args := [d], vars := [g1] }
  | _ => none }
def FnExactPrimeImplicantsWrongFalsely : Prop := fnExactPrimeImplicantsRow.holds Tryd.pinned (OpenSpec.ofChange fnExactPrimeImplicantsWrong)

/- THE SECOND FORM. 'bulk': how many values and letters a reading holds, each counted each time it is reached (what is shared counts as often as it is met; a slice's spare places count too). A statement '..UptoSaid' is the law's where the arguments, and the package variables that the reading takes, are together of bulk at most 1048576: NARROWER than '..Said'. Prove '..Said' where nothing that the law and all that it calls make is longer than what came in: it says more and counts as full. Else prove '..UptoSaid'. A law counts once. -/
mutual
def uptoBulk {H : Type} : DataW H → Nat
  | .lit (.string bytes) => bytes.length + 1
  | .lit _ => 1
  | .nil => 1
  | .ptr d => uptoBulk d + 1
  | .slice elems spare => uptoBulkAll elems + uptoBulkAll spare + 1
  | .agg parts => uptoBulkAll parts + 1
  | .iface _ d => uptoBulk d + 1
  | .map entries => uptoBulkEntries entries + 1
  | .held _ => 1
def uptoBulkAll {H : Type} : List (DataW H) → Nat
  | [] => 0
  | d :: r => uptoBulk d + uptoBulkAll r
def uptoBulkEntries {H : Type} : List (Lit × DataW H) → Nat
  | [] => 0
  | x :: r => uptoBulkEntry x + uptoBulkEntries r
def uptoBulkEntry {H : Type} : Lit × DataW H → Nat
  | (.string bytes, d) => bytes.length + uptoBulk d + 1
  | (_, d) => uptoBulk d + 1
 end
def uptoSmall : (H : Type) → List (DataW H) → Bool := fun _ ds => decide (uptoBulkAll ds ≤ 1048576)
def OpenSpec.upto (s : _root_.Go.ChangeSpec) : _root_.Go.OpenSpec := { _root_.Go.OpenSpec.ofChange s with cond := some uptoSmall }

/-- 'laws.FnExactDependsOn', WHERE WHAT IT READS IS OF BULK AT MOST 1048576: true; the input reads as it did. -/
def fnExactDependsOnUptoRow : OpenClaim := { program := "ytfkahkhmnchnjacdoor", sum := "8b1b81c6110d28705203d062f94ff9318d951c6d25966fd3f08494cde03e36b7", func := "loop.example/g01089/laws.FnExactDependsOn", spec := "fnExactDependsOn", recurses := true, named := ["loop.example/g01089/impl.variableRows"], apart := false, laid := [("loop.example/g01089/impl.variableRows", laid_loop_example_g01089_impl_variableRows)], narrowed := true }
def FnExactDependsOnUptoSaid : Prop := fnExactDependsOnUptoRow.holds Tryd.pinned (OpenSpec.upto fnExactDependsOnSpec)

/-- 'laws.FnExactPrimeImplicates', WHERE WHAT IT READS IS OF BULK AT MOST 1048576: true; the input reads as it did. -/
def fnExactPrimeImplicatesUptoRow : OpenClaim := { program := "ytfkahkhmnchnjacdoor", sum := "8b1b81c6110d28705203d062f94ff9318d951c6d25966fd3f08494cde03e36b7", func := "loop.example/g01089/laws.FnExactPrimeImplicates", spec := "fnExactPrimeImplicates", unfollowed := true, recurses := true, named := ["loop.example/g01089/impl.variableRows"], apart := false, laid := [("loop.example/g01089/impl.variableRows", laid_loop_example_g01089_impl_variableRows)], narrowed := true }
def FnExactPrimeImplicatesUptoSaid : Prop := fnExactPrimeImplicatesUptoRow.holds Tryd.pinned (OpenSpec.upto fnExactPrimeImplicatesSpec)

/-- 'laws.FnExactPrimeImplicants', WHERE WHAT IT READS IS OF BULK AT MOST 1048576: true; the input reads as it did. -/
def fnExactPrimeImplicantsUptoRow : OpenClaim := { program := "ytfkahkhmnchnjacdoor", sum := "8b1b81c6110d28705203d062f94ff9318d951c6d25966fd3f08494cde03e36b7", func := "loop.example/g01089/laws.FnExactPrimeImplicants", spec := "fnExactPrimeImplicants", unfollowed := true, recurses := true, named := ["loop.example/g01089/impl.variableRows"], apart := false, laid := [("loop.example/g01089/impl.variableRows", laid_loop_example_g01089_impl_variableRows)], narrowed := true }
def FnExactPrimeImplicantsUptoSaid : Prop := fnExactPrimeImplicantsUptoRow.holds Tryd.pinned (OpenSpec.upto fnExactPrimeImplicantsSpec)

end Rows
end Go.Proofs.YtfkahkhmnchnjacDoor
