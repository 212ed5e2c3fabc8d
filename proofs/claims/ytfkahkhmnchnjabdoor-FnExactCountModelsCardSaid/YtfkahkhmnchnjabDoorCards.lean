/-
  DERIVED. GIVEN WITH THE SEED: THE CARDS: each row of YtfkahkhmnchnjabDoorRows.lean that lists a variable, with what it lists TIED to the program's text (the seventh form; the later family's looks); each row that meets fmt, with fmt's text TOLD by the authors' own Lean function (tested against real Go, not proved from fmt's source: count such statements apart). THE CARD IS WHAT COUNTS. Prove the row's statement (the work); the ties are given (YtfkahkhmnchnjabDoorTie.lean); close each card by the builder's one call (the guide's Derived/Test/ToyasCard.lean, 'card_holds'). Laid BY PROGRAM, IN A SANDBOX (cutbox-door.mjs). By AI agents, Wed Nov 11 2026. No macro, syntax, notation, axiom, sorry.
-/
import Derived.Test.YtfkahkhmnchnjabDoorRows
import GoSem.ClaimSeven
namespace Go.Proofs.YtfkahkhmnchnjabDoor
namespace Rows

/-- THE TIED CARD OF 'laws.FnExactTruthTable'. -/
def fnExactTruthTableCard : Claim7 := { stood := { row := fnExactTruthTableRow, standIns := [], harness := (true, "5c55bd0e7f15358945c2ed16d2c16a6f61c8e8914084e4f4fc4619cfbf0758e7"), looks := false }, kinds := [], alts := [], laidByText := true, laidKinds := [.data], laidTests := true, laidLooks := .later }
def FnExactTruthTableCardSaid : Prop := Claim7.holds Tryd.pinned (.plain (OpenSpec.ofChange fnExactTruthTableSpec)) fnExactTruthTableCard

/-- THE TIED CARD OF 'laws.FnExactIsTautology'. -/
def fnExactIsTautologyCard : Claim7 := { stood := { row := fnExactIsTautologyRow, standIns := [], harness := (true, "5c55bd0e7f15358945c2ed16d2c16a6f61c8e8914084e4f4fc4619cfbf0758e7"), looks := false }, kinds := [], alts := [], laidByText := true, laidKinds := [.data], laidTests := true, laidLooks := .later }
def FnExactIsTautologyCardSaid : Prop := Claim7.holds Tryd.pinned (.plain (OpenSpec.ofChange fnExactIsTautologySpec)) fnExactIsTautologyCard

/-- THE TIED CARD OF 'laws.FnExactFirstModel'. -/
def fnExactFirstModelCard : Claim7 := { stood := { row := fnExactFirstModelRow, standIns := [], harness := (true, "5c55bd0e7f15358945c2ed16d2c16a6f61c8e8914084e4f4fc4619cfbf0758e7"), looks := false }, kinds := [], alts := [], laidByText := true, laidKinds := [.data, .data], laidTests := true, laidLooks := .later }
def FnExactFirstModelCardSaid : Prop := Claim7.holds Tryd.pinned (.plain (OpenSpec.ofChange fnExactFirstModelSpec)) fnExactFirstModelCard

/-- THE TIED CARD OF 'laws.FnExactCountModels'. -/
def fnExactCountModelsCard : Claim7 := { stood := { row := fnExactCountModelsRow, standIns := [], harness := (true, "5c55bd0e7f15358945c2ed16d2c16a6f61c8e8914084e4f4fc4619cfbf0758e7"), looks := false }, kinds := [], alts := [], laidByText := true, laidKinds := [.data], laidTests := true, laidLooks := .later }
def FnExactCountModelsCardSaid : Prop := Claim7.holds Tryd.pinned (.plain (OpenSpec.ofChange fnExactCountModelsSpec)) fnExactCountModelsCard

/-- THE TIED CARD OF 'laws.FnExactClassicalEntails'. -/
def fnExactClassicalEntailsCard : Claim7 := { stood := { row := fnExactClassicalEntailsRow, standIns := [], harness := (true, "5c55bd0e7f15358945c2ed16d2c16a6f61c8e8914084e4f4fc4619cfbf0758e7"), looks := false }, kinds := [], alts := [], laidByText := true, laidKinds := [.data], laidTests := true, laidLooks := .later }
def FnExactClassicalEntailsCardSaid : Prop := Claim7.holds Tryd.pinned (.plain (OpenSpec.ofChange fnExactClassicalEntailsSpec)) fnExactClassicalEntailsCard

/-- THE TIED CARD OF 'laws.FnExactClassicalClasses'. -/
def fnExactClassicalClassesCard : Claim7 := { stood := { row := fnExactClassicalClassesRow, standIns := [], harness := (true, "5c55bd0e7f15358945c2ed16d2c16a6f61c8e8914084e4f4fc4619cfbf0758e7"), looks := false }, kinds := [], alts := [], laidByText := true, laidKinds := [.data], laidTests := true, laidLooks := .later }
def FnExactClassicalClassesCardSaid : Prop := Claim7.holds Tryd.pinned (.plain (OpenSpec.ofChange fnExactClassicalClassesSpec)) fnExactClassicalClassesCard

/-- THE SECOND FORM's CARD OF 'laws.FnExactTruthTable'. -/
def fnExactTruthTableUptoCard : Claim7 := { stood := { row := fnExactTruthTableUptoRow, standIns := [], harness := (true, "5c55bd0e7f15358945c2ed16d2c16a6f61c8e8914084e4f4fc4619cfbf0758e7"), looks := false }, kinds := [], alts := [], laidByText := true, laidKinds := [.data], laidTests := true, laidLooks := .later }
def FnExactTruthTableUptoCardSaid : Prop := Claim7.holds Tryd.pinned (.plain (OpenSpec.upto fnExactTruthTableSpec)) fnExactTruthTableUptoCard

/-- THE SECOND FORM's CARD OF 'laws.FnExactIsTautology'. -/
def fnExactIsTautologyUptoCard : Claim7 := { stood := { row := fnExactIsTautologyUptoRow, standIns := [], harness := (true, "5c55bd0e7f15358945c2ed16d2c16a6f61c8e8914084e4f4fc4619cfbf0758e7"), looks := false }, kinds := [], alts := [], laidByText := true, laidKinds := [.data], laidTests := true, laidLooks := .later }
def FnExactIsTautologyUptoCardSaid : Prop := Claim7.holds Tryd.pinned (.plain (OpenSpec.upto fnExactIsTautologySpec)) fnExactIsTautologyUptoCard

/-- THE SECOND FORM's CARD OF 'laws.FnExactFirstModel'. -/
def fnExactFirstModelUptoCard : Claim7 := { stood := { row := fnExactFirstModelUptoRow, standIns := [], harness := (true, "5c55bd0e7f15358945c2ed16d2c16a6f61c8e8914084e4f4fc4619cfbf0758e7"), looks := false }, kinds := [], alts := [], laidByText := true, laidKinds := [.data, .data], laidTests := true, laidLooks := .later }
def FnExactFirstModelUptoCardSaid : Prop := Claim7.holds Tryd.pinned (.plain (OpenSpec.upto fnExactFirstModelSpec)) fnExactFirstModelUptoCard

/-- THE SECOND FORM's CARD OF 'laws.FnExactCountModels'. -/
def fnExactCountModelsUptoCard : Claim7 := { stood := { row := fnExactCountModelsUptoRow, standIns := [], harness := (true, "5c55bd0e7f15358945c2ed16d2c16a6f61c8e8914084e4f4fc4619cfbf0758e7"), looks := false }, kinds := [], alts := [], laidByText := true, laidKinds := [.data], laidTests := true, laidLooks := .later }
def FnExactCountModelsUptoCardSaid : Prop := Claim7.holds Tryd.pinned (.plain (OpenSpec.upto fnExactCountModelsSpec)) fnExactCountModelsUptoCard

/-- THE SECOND FORM's CARD OF 'laws.FnExactClassicalEntails'. -/
def fnExactClassicalEntailsUptoCard : Claim7 := { stood := { row := fnExactClassicalEntailsUptoRow, standIns := [], harness := (true, "5c55bd0e7f15358945c2ed16d2c16a6f61c8e8914084e4f4fc4619cfbf0758e7"), looks := false }, kinds := [], alts := [], laidByText := true, laidKinds := [.data], laidTests := true, laidLooks := .later }
def FnExactClassicalEntailsUptoCardSaid : Prop := Claim7.holds Tryd.pinned (.plain (OpenSpec.upto fnExactClassicalEntailsSpec)) fnExactClassicalEntailsUptoCard

/-- THE SECOND FORM's CARD OF 'laws.FnExactClassicalClasses'. -/
def fnExactClassicalClassesUptoCard : Claim7 := { stood := { row := fnExactClassicalClassesUptoRow, standIns := [], harness := (true, "5c55bd0e7f15358945c2ed16d2c16a6f61c8e8914084e4f4fc4619cfbf0758e7"), looks := false }, kinds := [], alts := [], laidByText := true, laidKinds := [.data], laidTests := true, laidLooks := .later }
def FnExactClassicalClassesUptoCardSaid : Prop := Claim7.holds Tryd.pinned (.plain (OpenSpec.upto fnExactClassicalClassesSpec)) fnExactClassicalClassesUptoCard
end Rows
end Go.Proofs.YtfkahkhmnchnjabDoor
