/-
  No cell of these rows narrows 'for every input' (looked for: loops, veiled, ifaces, maps, wideKeys, modest, calm, conditions, laid).
  DERIVED. THE GIVEN ROWS OF THIS SEAT. 4 by the template 'for every input the law returns true; each argument reads behind the call as it read before'; 0 by the template 'total and deterministic' (their statements: YtckilaeolkgnkaaTotals.lean).
  GIVEN WITH THE SEED: the statements are not yours to turn. If you find one false, say at which input.
  Laid BY PROGRAM, IN A SANDBOX (cutbox-rows.mjs): the forced cells as the released guide's own fill.sh prints them over the translation 44e9774360988d7e… (all of the seat's roots in one cut). By AI agents, Wed Nov 11 2026. No macro, syntax, notation, axiom, sorry.
-/
import Derived.Test.YtckilaeolkgnkaaChecked
import GoSem.Claim
import GoSem.ClaimJoined
import GoSem.ClaimMapViews
import Derived.JoinedTies
import Derived.KernelRfl
namespace Go.Proofs.Ytckilaeolkgnkaa
/- THE CELL 'sum', in the pinned program and in every row, IS THE sha256 OF THE DUMP (.gsa) THAT YtckilaeolkgnkaaProg.lean LOADS. Nothing in Lean hashes anything: it is a label: what it is worth is what the hold of that sum in a sandbox is worth. -/
noncomputable def Try.pinned : Pinned := { name := "ytckilaeolkgnkaa", sum := "44e9774360988d7e4944e92d49bf77d5436dd23481ec76f2fc3fc1c010ae618f", checked := Try.checked }
namespace Rows
def none {H : Type} : Left H := { results := [], args := [] }

/-- 'laws.FnExactClustersOf': WHATEVER THE INPUT: true; the input reads as it did. -/
def fnExactClustersOfSpec : ChangeSpec := { name := "fnExactClustersOf", fn := fun _ => fun
  | [d] => { results := [.lit (.bool true)], args := [d] }
  | _ => none }
def fnExactClustersOfRow : OpenClaim := { program := "ytckilaeolkgnkaa", sum := "44e9774360988d7e4944e92d49bf77d5436dd23481ec76f2fc3fc1c010ae618f", func := "loop.example/g01089/laws.FnExactClustersOf", spec := "fnExactClustersOf", plainKeys := false, apart := false }
def FnExactClustersOfSaid : Prop := fnExactClustersOfRow.holds Try.pinned (OpenSpec.ofChange fnExactClustersOfSpec)

/-- ITS FALSE NEIGHBOUR: 'it returns false'. Refute it at one input. -/
def fnExactClustersOfWrong : ChangeSpec := { name := "fnExactClustersOf", fn := fun _ => fun
  | [d] => { results := [.lit (.bool false)], args := [d] }
  | _ => none }
def FnExactClustersOfWrongFalsely : Prop := fnExactClustersOfRow.holds Try.pinned (OpenSpec.ofChange fnExactClustersOfWrong)

/-- 'laws.FnClusters': WHATEVER THE INPUT: true; the input reads as it did. -/
def fnClustersSpec : ChangeSpec := { name := "fnClusters", fn := fun _ => fun
  | [d] => { results := [.lit (.bool true)], args := [d] }
  | _ => none }
def fnClustersRow : OpenClaim := { program := "ytckilaeolkgnkaa", sum := "44e9774360988d7e4944e92d49bf77d5436dd23481ec76f2fc3fc1c010ae618f", func := "loop.example/g01089/laws.FnClusters", spec := "fnClusters", recurses := true, plainKeys := false, apart := false }
def FnClustersSaid : Prop := fnClustersRow.holds Try.pinned (OpenSpec.ofChange fnClustersSpec)

/-- ITS FALSE NEIGHBOUR: 'it returns false'. Refute it at one input. -/
def fnClustersWrong : ChangeSpec := { name := "fnClusters", fn := fun _ => fun
  | [d] => { results := [.lit (.bool false)], args := [d] }
  | _ => none }
def FnClustersWrongFalsely : Prop := fnClustersRow.holds Try.pinned (OpenSpec.ofChange fnClustersWrong)

/-- 'laws.FnExactQuotientModel': WHATEVER THE INPUT: true; the input reads as it did. -/
def fnExactQuotientModelSpec : ChangeSpec := { name := "fnExactQuotientModel", fn := fun _ => fun
  | [d] => { results := [.lit (.bool true)], args := [d] }
  | _ => none }
def fnExactQuotientModelRow : OpenClaim := { program := "ytckilaeolkgnkaa", sum := "44e9774360988d7e4944e92d49bf77d5436dd23481ec76f2fc3fc1c010ae618f", func := "loop.example/g01089/laws.FnExactQuotientModel", spec := "fnExactQuotientModel", unfollowed := true, recurses := true, plainKeys := false, apart := false }
def FnExactQuotientModelSaid : Prop := fnExactQuotientModelRow.holds Try.pinned (OpenSpec.ofChange fnExactQuotientModelSpec)

/-- ITS FALSE NEIGHBOUR: 'it returns false'. Refute it at one input. -/
def fnExactQuotientModelWrong : ChangeSpec := { name := "fnExactQuotientModel", fn := fun _ => fun
  | [d] => { results := [.lit (.bool false)], args := [d] }
  | _ => none }
def FnExactQuotientModelWrongFalsely : Prop := fnExactQuotientModelRow.holds Try.pinned (OpenSpec.ofChange fnExactQuotientModelWrong)

/-- 'laws.FnExactReducedModel': WHATEVER THE INPUT: true; the input reads as it did. -/
def fnExactReducedModelSpec : ChangeSpec := { name := "fnExactReducedModel", fn := fun _ => fun
  | [d1, d2] => { results := [.lit (.bool true)], args := [d1, d2] }
  | _ => none }
def fnExactReducedModelRow : OpenClaim := { program := "ytckilaeolkgnkaa", sum := "44e9774360988d7e4944e92d49bf77d5436dd23481ec76f2fc3fc1c010ae618f", func := "loop.example/g01089/laws.FnExactReducedModel", spec := "fnExactReducedModel", unfollowed := true, recurses := true, plainKeys := false, apart := false }
def FnExactReducedModelSaid : Prop := fnExactReducedModelRow.holds Try.pinned (OpenSpec.ofChange fnExactReducedModelSpec)

/-- ITS FALSE NEIGHBOUR: 'it returns false'. Refute it at one input. -/
def fnExactReducedModelWrong : ChangeSpec := { name := "fnExactReducedModel", fn := fun _ => fun
  | [d1, d2] => { results := [.lit (.bool false)], args := [d1, d2] }
  | _ => none }
def FnExactReducedModelWrongFalsely : Prop := fnExactReducedModelRow.holds Try.pinned (OpenSpec.ofChange fnExactReducedModelWrong)

/- THE SECOND FORM. 'bulk': how many values and letters a reading holds, each counted each time it is reached (what is shared counts as often as it is met; a slice's spare places count too). A statement '..UptoSaid' is the law's where the arguments, and the package variables that the reading takes, are together of bulk at most 1048576: NARROWER than '..Said'. Prove '..Said' where nothing that the law and all that it calls make is longer than what came in: it says more and counts as full. Else prove '..UptoSaid'. A law counts once. -/
mutual
def uptoBulk {H : Type} : DataW H → Nat
  | .lit (.string bytes) => bytes.length + 1
  | .lit _ => 1
  | .nil => 1
  | .ptr d => uptoBulk d + 1
  | .slice elems spare => uptoBulkAll elems + uptoBulkAll spare + 1
  | .agg parts => uptoBulkAll parts + 1
  | .iface _ d => uptoBulk d + 1
  | .map entries => uptoBulkEntries entries + 1
  | .held _ => 1
def uptoBulkAll {H : Type} : List (DataW H) → Nat
  | [] => 0
  | d :: r => uptoBulk d + uptoBulkAll r
def uptoBulkEntries {H : Type} : List (Lit × DataW H) → Nat
  | [] => 0
  | x :: r => uptoBulkEntry x + uptoBulkEntries r
def uptoBulkEntry {H : Type} : Lit × DataW H → Nat
  | (.string bytes, d) => bytes.length + uptoBulk d + 1
  | (_, d) => uptoBulk d + 1
 end
def uptoSmall : (H : Type) → List (DataW H) → Bool := fun _ ds => decide (uptoBulkAll ds ≤ 1048576)
def OpenSpec.upto (s : _root_.Go.ChangeSpec) : _root_.Go.OpenSpec := { _root_.Go.OpenSpec.ofChange s with cond := some uptoSmall }

/-- 'laws.FnExactClustersOf', WHERE WHAT IT READS IS OF BULK AT MOST 1048576: true; the input reads as it did. -/
def fnExactClustersOfUptoRow : OpenClaim := { program := "ytckilaeolkgnkaa", sum := "44e9774360988d7e4944e92d49bf77d5436dd23481ec76f2fc3fc1c010ae618f", func := "loop.example/g01089/laws.FnExactClustersOf", spec := "fnExactClustersOf", plainKeys := false, apart := false, narrowed := true }
def FnExactClustersOfUptoSaid : Prop := fnExactClustersOfUptoRow.holds Try.pinned (OpenSpec.upto fnExactClustersOfSpec)

/-- 'laws.FnClusters', WHERE WHAT IT READS IS OF BULK AT MOST 1048576: true; the input reads as it did. -/
def fnClustersUptoRow : OpenClaim := { program := "ytckilaeolkgnkaa", sum := "44e9774360988d7e4944e92d49bf77d5436dd23481ec76f2fc3fc1c010ae618f", func := "loop.example/g01089/laws.FnClusters", spec := "fnClusters", recurses := true, plainKeys := false, apart := false, narrowed := true }
def FnClustersUptoSaid : Prop := fnClustersUptoRow.holds Try.pinned (OpenSpec.upto fnClustersSpec)

/-- 'laws.FnExactQuotientModel', WHERE WHAT IT READS IS OF BULK AT MOST 1048576: true; the input reads as it did. -/
def fnExactQuotientModelUptoRow : OpenClaim := { program := "ytckilaeolkgnkaa", sum := "44e9774360988d7e4944e92d49bf77d5436dd23481ec76f2fc3fc1c010ae618f", func := "loop.example/g01089/laws.FnExactQuotientModel", spec := "fnExactQuotientModel", unfollowed := true, recurses := true, plainKeys := false, apart := false, narrowed := true }
def FnExactQuotientModelUptoSaid : Prop := fnExactQuotientModelUptoRow.holds Try.pinned (OpenSpec.upto fnExactQuotientModelSpec)

/-- 'laws.FnExactReducedModel', WHERE WHAT IT READS IS OF BULK AT MOST 1048576: true; the input reads as it did. -/
def fnExactReducedModelUptoRow : OpenClaim := { program := "ytckilaeolkgnkaa", sum := "44e9774360988d7e4944e92d49bf77d5436dd23481ec76f2fc3fc1c010ae618f", func := "loop.example/g01089/laws.FnExactReducedModel", spec := "fnExactReducedModel", unfollowed := true, recurses := true, plainKeys := false, apart := false, narrowed := true }
def FnExactReducedModelUptoSaid : Prop := fnExactReducedModelUptoRow.holds Try.pinned (OpenSpec.upto fnExactReducedModelSpec)

end Rows
end Go.Proofs.Ytckilaeolkgnkaa
