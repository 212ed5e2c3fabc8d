/-
  No cell of these rows narrows 'for every input' (looked for: loops, veiled, ifaces, maps, wideKeys, modest, calm, conditions, laid).
  DERIVED. THE GIVEN ROWS OF THIS SEAT. 6 by the template 'for every input the law returns true; each argument reads behind the call as it read before'; 0 by the template 'total and deterministic' (their statements: YtecjmibnoldpgabTotals.lean).
  GIVEN WITH THE SEED: the statements are not yours to turn. If you find one false, say at which input.
  Laid BY PROGRAM, IN A SANDBOX (cutbox-rows.mjs): the forced cells as the released guide's own fill.sh prints them over the translation 031cd4d03ef1f3e5… (all of the seat's roots in one cut). By AI agents, Wed Nov 11 2026. No macro, syntax, notation, axiom, sorry.
-/
import Derived.Test.YtecjmibnoldpgabChecked
import GoSem.Claim
import GoSem.ClaimJoined
import GoSem.ClaimMapViews
import Derived.JoinedTies
import Derived.KernelRfl
namespace Go.Proofs.Ytecjmibnoldpgab
/- THE CELL 'sum', in the pinned program and in every row, IS THE sha256 OF THE DUMP (.gsa) THAT YtecjmibnoldpgabProg.lean LOADS. Nothing in Lean hashes anything: it is a label: what it is worth is what the hold of that sum in a sandbox is worth. -/
noncomputable def Try.pinned : Pinned := { name := "ytecjmibnoldpgab", sum := "031cd4d03ef1f3e52b74e6251d8ab54c8606442b1b67123aaabf53a09312f6b2", checked := Try.checked }
namespace Rows
def none {H : Type} : Left H := { results := [], args := [] }

/-- 'laws.FnExactBisimulationClasses': WHATEVER THE INPUT: true; the input reads as it did. -/
def fnExactBisimulationClassesSpec : ChangeSpec := { name := "fnExactBisimulationClasses", fn := fun _ => fun
  | [d] => { results := [.lit (.bool true)], args := [d] }
  | _ => none }
def fnExactBisimulationClassesRow : OpenClaim := { program := "ytecjmibnoldpgab", sum := "031cd4d03ef1f3e52b74e6251d8ab54c8606442b1b67123aaabf53a09312f6b2", func := "loop.example/g01089/laws.FnExactBisimulationClasses", spec := "fnExactBisimulationClasses", unfollowed := true, recurses := true, plainKeys := false, apart := false }
def FnExactBisimulationClassesSaid : Prop := fnExactBisimulationClassesRow.holds Try.pinned (OpenSpec.ofChange fnExactBisimulationClassesSpec)

/-- ITS FALSE NEIGHBOUR: 'it returns false'. Refute it at one input. -/
def fnExactBisimulationClassesWrong : ChangeSpec := { name := "fnExactBisimulationClasses", fn := fun _ => fun
  | [d] => { results := [.lit (.bool false)], args := [d] }
  | _ => none }
def FnExactBisimulationClassesWrongFalsely : Prop := fnExactBisimulationClassesRow.holds Try.pinned (OpenSpec.ofChange fnExactBisimulationClassesWrong)

/-- 'laws.FnExactBoundedBisimulation': WHATEVER THE INPUT: true; the input reads as it did. -/
def fnExactBoundedBisimulationSpec : ChangeSpec := { name := "fnExactBoundedBisimulation", fn := fun _ => fun
  | [d1, d2, d3] => { results := [.lit (.bool true)], args := [d1, d2, d3] }
  | _ => none }
def fnExactBoundedBisimulationRow : OpenClaim := { program := "ytecjmibnoldpgab", sum := "031cd4d03ef1f3e52b74e6251d8ab54c8606442b1b67123aaabf53a09312f6b2", func := "loop.example/g01089/laws.FnExactBoundedBisimulation", spec := "fnExactBoundedBisimulation", unfollowed := true, recurses := true, plainKeys := false, apart := false }
def FnExactBoundedBisimulationSaid : Prop := fnExactBoundedBisimulationRow.holds Try.pinned (OpenSpec.ofChange fnExactBoundedBisimulationSpec)

/-- ITS FALSE NEIGHBOUR: 'it returns false'. Refute it at one input. -/
def fnExactBoundedBisimulationWrong : ChangeSpec := { name := "fnExactBoundedBisimulation", fn := fun _ => fun
  | [d1, d2, d3] => { results := [.lit (.bool false)], args := [d1, d2, d3] }
  | _ => none }
def FnExactBoundedBisimulationWrongFalsely : Prop := fnExactBoundedBisimulationRow.holds Try.pinned (OpenSpec.ofChange fnExactBoundedBisimulationWrong)

/-- 'laws.FnExactGreatestBisimulation': WHATEVER THE INPUT: true; the input reads as it did. -/
def fnExactGreatestBisimulationSpec : ChangeSpec := { name := "fnExactGreatestBisimulation", fn := fun _ => fun
  | [d1, d2] => { results := [.lit (.bool true)], args := [d1, d2] }
  | _ => none }
def fnExactGreatestBisimulationRow : OpenClaim := { program := "ytecjmibnoldpgab", sum := "031cd4d03ef1f3e52b74e6251d8ab54c8606442b1b67123aaabf53a09312f6b2", func := "loop.example/g01089/laws.FnExactGreatestBisimulation", spec := "fnExactGreatestBisimulation", unfollowed := true, recurses := true, plainKeys := false, apart := false }
def FnExactGreatestBisimulationSaid : Prop := fnExactGreatestBisimulationRow.holds Try.pinned (OpenSpec.ofChange fnExactGreatestBisimulationSpec)

/-- ITS FALSE NEIGHBOUR: 'it returns false'. Refute it at one input. -/
def fnExactGreatestBisimulationWrong : ChangeSpec := { name := "fnExactGreatestBisimulation", fn := fun _ => fun
  | [d1, d2] => { results := [.lit (.bool false)], args := [d1, d2] }
  | _ => none }
def FnExactGreatestBisimulationWrongFalsely : Prop := fnExactGreatestBisimulationRow.holds Try.pinned (OpenSpec.ofChange fnExactGreatestBisimulationWrong)

/-- 'laws.FnExactRoundsToTell': WHATEVER THE INPUT: true; the input reads as it did. -/
def fnExactRoundsToTellSpec : ChangeSpec := { name := "fnExactRoundsToTell", fn := fun _ => fun
  | [d1, d2, d3, d4] => { results := [.lit (.bool true)], args := [d1, d2, d3, d4] }
  | _ => none }
def fnExactRoundsToTellRow : OpenClaim := { program := "ytecjmibnoldpgab", sum := "031cd4d03ef1f3e52b74e6251d8ab54c8606442b1b67123aaabf53a09312f6b2", func := "loop.example/g01089/laws.FnExactRoundsToTell", spec := "fnExactRoundsToTell", unfollowed := true, recurses := true, plainKeys := false, apart := false }
def FnExactRoundsToTellSaid : Prop := fnExactRoundsToTellRow.holds Try.pinned (OpenSpec.ofChange fnExactRoundsToTellSpec)

/-- ITS FALSE NEIGHBOUR: 'it returns false'. Refute it at one input. -/
def fnExactRoundsToTellWrong : ChangeSpec := { name := "fnExactRoundsToTell", fn := fun _ => fun
  | [d1, d2, d3, d4] => { results := [.lit (.bool false)], args := [d1, d2, d3, d4] }
  | _ => none }
def FnExactRoundsToTellWrongFalsely : Prop := fnExactRoundsToTellRow.holds Try.pinned (OpenSpec.ofChange fnExactRoundsToTellWrong)

/-- 'laws.FnExactQuotientModel': WHATEVER THE INPUT: true; the input reads as it did. -/
def fnExactQuotientModelSpec : ChangeSpec := { name := "fnExactQuotientModel", fn := fun _ => fun
  | [d] => { results := [.lit (.bool true)], args := [d] }
  | _ => none }
def fnExactQuotientModelRow : OpenClaim := { program := "ytecjmibnoldpgab", sum := "031cd4d03ef1f3e52b74e6251d8ab54c8606442b1b67123aaabf53a09312f6b2", func := "loop.example/g01089/laws.FnExactQuotientModel", spec := "fnExactQuotientModel", unfollowed := true, recurses := true, plainKeys := false, apart := false }
def FnExactQuotientModelSaid : Prop := fnExactQuotientModelRow.holds Try.pinned (OpenSpec.ofChange fnExactQuotientModelSpec)

/-- ITS FALSE NEIGHBOUR: 'it returns false'. Refute it at one input. -/
def fnExactQuotientModelWrong : ChangeSpec := { name := "fnExactQuotientModel", fn := fun _ => fun
  | [d] => { results := [.lit (.bool false)], args := [d] }
  | _ => none }
def FnExactQuotientModelWrongFalsely : Prop := fnExactQuotientModelRow.holds Try.pinned (OpenSpec.ofChange fnExactQuotientModelWrong)

/-- 'laws.FnExactReducedModel': WHATEVER THE INPUT: true; the input reads as it did. -/
def fnExactReducedModelSpec : ChangeSpec := { name := "fnExactReducedModel", fn := fun _ => fun
  | [d1, d2] => { results := [.lit (.bool true)], args := [d1, d2] }
  | _ => none }
def fnExactReducedModelRow : OpenClaim := { program := "ytecjmibnoldpgab", sum := "031cd4d03ef1f3e52b74e6251d8ab54c8606442b1b67123aaabf53a09312f6b2", func := "loop.example/g01089/laws.FnExactReducedModel", spec := "fnExactReducedModel", unfollowed := true, recurses := true, plainKeys := false, apart := false }
def FnExactReducedModelSaid : Prop := fnExactReducedModelRow.holds Try.pinned (OpenSpec.ofChange fnExactReducedModelSpec)

/-- ITS FALSE NEIGHBOUR: 'it returns false'. Refute it at one input. -/
def fnExactReducedModelWrong : ChangeSpec := { name := "fnExactReducedModel", fn := fun _ => fun
  | [d1, d2] => { results := [.lit (.bool false)], args := [d1, d2] }
  | _ => none }
def FnExactReducedModelWrongFalsely : Prop := fnExactReducedModelRow.holds Try.pinned (OpenSpec.ofChange fnExactReducedModelWrong)

/- THE SECOND FORM. 'bulk': how many values and letters a reading holds, each counted each time it is reached (what is shared counts as often as it is met; a slice's spare places count too). A statement '..UptoSaid' is the law's where the arguments, and the package variables that the reading takes, are together of bulk at most 1048576: NARROWER than '..Said'. Prove '..Said' where nothing that the law and all that it calls make is longer than what came in: it says more and counts as full. Else prove '..UptoSaid'. A law counts once. -/
mutual
def uptoBulk {H : Type} : DataW H → Nat
  | .lit (.string bytes) => bytes.length + 1
  | .lit _ => 1
  | .nil => 1
  | .ptr d => uptoBulk d + 1
  | .slice elems spare => uptoBulkAll elems + uptoBulkAll spare + 1
  | .agg parts => uptoBulkAll parts + 1
  | .iface _ d => uptoBulk d + 1
  | .map entries => uptoBulkEntries entries + 1
  | .held _ => 1
def uptoBulkAll {H : Type} : List (DataW H) → Nat
  | [] => 0
  | d :: r => uptoBulk d + uptoBulkAll r
def uptoBulkEntries {H : Type} : List (Lit × DataW H) → Nat
  | [] => 0
  | x :: r => uptoBulkEntry x + uptoBulkEntries r
def uptoBulkEntry {H : Type} : Lit × DataW H → Nat
  | (.string bytes, d) => bytes.length + uptoBulk d + 1
  | (_, d) => uptoBulk d + 1
 end
def uptoSmall : (H : Type) → List (DataW H) → Bool := fun _ ds => decide (uptoBulkAll ds ≤ 1048576)
def OpenSpec.upto (s : _root_.Go.ChangeSpec) : _root_.Go.OpenSpec := { _root_.Go.OpenSpec.ofChange s with cond := some uptoSmall }

/-- 'laws.FnExactBisimulationClasses', WHERE WHAT IT READS IS OF BULK AT MOST 1048576: true; the input reads as it did. -/
def fnExactBisimulationClassesUptoRow : OpenClaim := { program := "ytecjmibnoldpgab", sum := "031cd4d03ef1f3e52b74e6251d8ab54c8606442b1b67123aaabf53a09312f6b2", func := "loop.example/g01089/laws.FnExactBisimulationClasses", spec := "fnExactBisimulationClasses", unfollowed := true, recurses := true, plainKeys := false, apart := false, narrowed := true }
def FnExactBisimulationClassesUptoSaid : Prop := fnExactBisimulationClassesUptoRow.holds Try.pinned (OpenSpec.upto fnExactBisimulationClassesSpec)

/-- 'laws.FnExactBoundedBisimulation', WHERE WHAT IT READS IS OF BULK AT MOST 1048576: true; the input reads as it did. -/
def fnExactBoundedBisimulationUptoRow : OpenClaim := { program := "ytecjmibnoldpgab", sum := "031cd4d03ef1f3e52b74e6251d8ab54c8606442b1b67123aaabf53a09312f6b2", func := "loop.example/g01089/laws.FnExactBoundedBisimulation", spec := "fnExactBoundedBisimulation", unfollowed := true, recurses := true, plainKeys := false, apart := false, narrowed := true }
def FnExactBoundedBisimulationUptoSaid : Prop := fnExactBoundedBisimulationUptoRow.holds Try.pinned (OpenSpec.upto fnExactBoundedBisimulationSpec)

/-- 'laws.FnExactGreatestBisimulation', WHERE WHAT IT READS IS OF BULK AT MOST 1048576: true; the input reads as it did. -/
def fnExactGreatestBisimulationUptoRow : OpenClaim := { program := "ytecjmibnoldpgab", sum := "031cd4d03ef1f3e52b74e6251d8ab54c8606442b1b67123aaabf53a09312f6b2", func := "loop.example/g01089/laws.FnExactGreatestBisimulation", spec := "fnExactGreatestBisimulation", unfollowed := true, recurses := true, plainKeys := false, apart := false, narrowed := true }
def FnExactGreatestBisimulationUptoSaid : Prop := fnExactGreatestBisimulationUptoRow.holds Try.pinned (OpenSpec.upto fnExactGreatestBisimulationSpec)

/-- 'laws.FnExactRoundsToTell', WHERE WHAT IT READS IS OF BULK AT MOST 1048576: true; the input reads as it did. -/
def fnExactRoundsToTellUptoRow : OpenClaim := { program := "ytecjmibnoldpgab", sum := "031cd4d03ef1f3e52b74e6251d8ab54c8606442b1b67123aaabf53a09312f6b2", func := "loop.example/g01089/laws.FnExactRoundsToTell", spec := "fnExactRoundsToTell", unfollowed := true, recurses := true, plainKeys := false, apart := false, narrowed := true }
def FnExactRoundsToTellUptoSaid : Prop := fnExactRoundsToTellUptoRow.holds Try.pinned (OpenSpec.upto fnExactRoundsToTellSpec)

/-- 'laws.FnExactQuotientModel', WHERE WHAT IT READS IS OF BULK AT MOST 1048576: true; the input reads as it did. -/
def fnExactQuotientModelUptoRow : OpenClaim := { program := "ytecjmibnoldpgab", sum := "031cd4d03ef1f3e52b74e6251d8ab54c8606442b1b67123aaabf53a09312f6b2", func := "loop.example/g01089/laws.FnExactQuotientModel", spec := "fnExactQuotientModel", unfollowed := true, recurses := true, plainKeys := false, apart := false, narrowed := true }
def FnExactQuotientModelUptoSaid : Prop := fnExactQuotientModelUptoRow.holds Try.pinned (OpenSpec.upto fnExactQuotientModelSpec)

/-- 'laws.FnExactReducedModel', WHERE WHAT IT READS IS OF BULK AT MOST 1048576: true; the input reads as it did. -/
def fnExactReducedModelUptoRow : OpenClaim := { program := "ytecjmibnoldpgab", sum := "031cd4d03ef1f3e52b74e6251d8ab54c8606442b1b67123aaabf53a09312f6b2", func := "loop.example/g01089/laws.FnExactReducedModel", spec := "fnExactReducedModel", unfollowed := true, recurses := true, plainKeys := false, apart := false, narrowed := true }
def FnExactReducedModelUptoSaid : Prop := fnExactReducedModelUptoRow.holds Try.pinned (OpenSpec.upto fnExactReducedModelSpec)

end Rows
end Go.Proofs.Ytecjmibnoldpgab
