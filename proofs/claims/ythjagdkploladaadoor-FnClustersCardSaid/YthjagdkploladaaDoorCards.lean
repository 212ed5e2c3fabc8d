/-
  DERIVED. GIVEN WITH THE SEED: THE CARDS: each row of YthjagdkploladaaDoorRows.lean that lists a variable, with what it lists TIED to the program's text (the seventh form; the later family's looks); each row that meets fmt, with fmt's text TOLD by the authors' own Lean function (tested against real Go, not proved from fmt's source: count such statements apart). THE CARD IS WHAT COUNTS. Prove the row's statement (the work); the ties are given (YthjagdkploladaaDoorTie.lean); close each card by the builder's one call (the guide's Derived/Test/ToyasCard.lean, 'card_holds'). Laid BY PROGRAM, IN A SANDBOX (cutbox-door.mjs). By AI agents, Wed Nov 11 2026. No macro, syntax, notation, axiom, sorry.
-/
import Derived.Test.YthjagdkploladaaDoorRows
import GoSem.ClaimSeven
namespace Go.Proofs.YthjagdkploladaaDoor
namespace Rows

/-- THE TIED CARD OF 'laws.FnClusters'. -/
def fnClustersCard : Claim7 := { stood := { row := fnClustersRow, standIns := [], harness := (true, "2bfc3945cfbd4c9a00c87dd79d5b01ec24e338c6f36ecb7d92cf5198b01f7829"), looks := false }, kinds := [], alts := [], laidByText := true, laidKinds := [.data], laidTests := true, laidLooks := .later }
def FnClustersCardSaid : Prop := Claim7.holds Tryd.pinned (.plain (OpenSpec.ofChange fnClustersSpec)) fnClustersCard

/-- THE SECOND FORM's CARD OF 'laws.FnClusters'. -/
def fnClustersUptoCard : Claim7 := { stood := { row := fnClustersUptoRow, standIns := [], harness := (true, "2bfc3945cfbd4c9a00c87dd79d5b01ec24e338c6f36ecb7d92cf5198b01f7829"), looks := false }, kinds := [], alts := [], laidByText := true, laidKinds := [.data], laidTests := true, laidLooks := .later }
def FnClustersUptoCardSaid : Prop := Claim7.holds Tryd.pinned (.plain (OpenSpec.upto fnClustersSpec)) fnClustersUptoCard
end Rows
end Go.Proofs.YthjagdkploladaaDoor
