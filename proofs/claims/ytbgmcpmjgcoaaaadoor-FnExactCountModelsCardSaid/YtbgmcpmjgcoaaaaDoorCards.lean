/-
  DERIVED. GIVEN WITH THE SEED: THE CARDS: each row of YtbgmcpmjgcoaaaaDoorRows.lean that lists a variable, with what it lists TIED to the program's text (the seventh form; the later family's looks); each row that meets fmt, with fmt's text TOLD by the authors' own Lean function (tested against real Go, not proved from fmt's source: count such statements apart). THE CARD IS WHAT COUNTS. Prove the row's statement (the work); the ties are given (YtbgmcpmjgcoaaaaDoorTie.lean); close each card by the builder's one call (the guide's Derived/Test/ToyasCard.lean, 'card_holds'). Laid BY PROGRAM, IN A SANDBOX (cutbox-door.mjs). By AI agents, Wed Nov 11 2026. No macro, syntax, notation, axiom, sorry.
-/
import Derived.Test.YtbgmcpmjgcoaaaaDoorRows
import GoSem.ClaimSeven
namespace Go.Proofs.YtbgmcpmjgcoaaaaDoor
namespace Rows

/-- THE TIED CARD OF 'laws.FnExactClustersOf'. -/
def fnExactClustersOfCard : Claim7 := { stood := { row := fnExactClustersOfRow, standIns := [], harness := (true, "bd230100c51170011bf2282209eba079031cec001b8a0bdc7fa584d0426f2872"), looks := false }, kinds := [], alts := [], laidByText := true, laidKinds := [.data], laidTests := true, laidLooks := .later }
def FnExactClustersOfCardSaid : Prop := Claim7.holds Tryd.pinned (.plain (OpenSpec.ofChange fnExactClustersOfSpec)) fnExactClustersOfCard

/-- THE TIED CARD OF 'laws.FnExactCountModels'. -/
def fnExactCountModelsCard : Claim7 := { stood := { row := fnExactCountModelsRow, standIns := [], harness := (true, "bd230100c51170011bf2282209eba079031cec001b8a0bdc7fa584d0426f2872"), looks := false }, kinds := [], alts := [], laidByText := true, laidKinds := [.data], laidTests := true, laidLooks := .later }
def FnExactCountModelsCardSaid : Prop := Claim7.holds Tryd.pinned (.plain (OpenSpec.ofChange fnExactCountModelsSpec)) fnExactCountModelsCard

/-- THE SECOND FORM's CARD OF 'laws.FnExactClustersOf'. -/
def fnExactClustersOfUptoCard : Claim7 := { stood := { row := fnExactClustersOfUptoRow, standIns := [], harness := (true, "bd230100c51170011bf2282209eba079031cec001b8a0bdc7fa584d0426f2872"), looks := false }, kinds := [], alts := [], laidByText := true, laidKinds := [.data], laidTests := true, laidLooks := .later }
def FnExactClustersOfUptoCardSaid : Prop := Claim7.holds Tryd.pinned (.plain (OpenSpec.upto fnExactClustersOfSpec)) fnExactClustersOfUptoCard

/-- THE SECOND FORM's CARD OF 'laws.FnExactCountModels'. -/
def fnExactCountModelsUptoCard : Claim7 := { stood := { row := fnExactCountModelsUptoRow, standIns := [], harness := (true, "bd230100c51170011bf2282209eba079031cec001b8a0bdc7fa584d0426f2872"), looks := false }, kinds := [], alts := [], laidByText := true, laidKinds := [.data], laidTests := true, laidLooks := .later }
def FnExactCountModelsUptoCardSaid : Prop := Claim7.holds Tryd.pinned (.plain (OpenSpec.upto fnExactCountModelsSpec)) fnExactCountModelsUptoCard
end Rows
end Go.Proofs.YtbgmcpmjgcoaaaaDoor
