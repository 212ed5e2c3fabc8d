/-
  DERIVED. GIVEN WITH THE SEED: THE CARDS: each row of YtfpnmeacnhcakaaDoorRows.lean that lists a variable, with what it lists TIED to the program's text (the seventh form; the later family's looks); each row that meets fmt, with fmt's text TOLD by the authors' own Lean function (tested against real Go, not proved from fmt's source: count such statements apart). THE CARD IS WHAT COUNTS. Prove the row's statement (the work); the ties are given (YtfpnmeacnhcakaaDoorTie.lean); close each card by the builder's one call (the guide's Derived/Test/ToyasCard.lean, 'card_holds'). Laid BY PROGRAM, IN A SANDBOX (cutbox-door.mjs). By AI agents, Wed Nov 11 2026. No macro, syntax, notation, axiom, sorry.
-/
import Derived.Test.YtfpnmeacnhcakaaDoorRows
import GoSem.ClaimSeven
namespace Go.Proofs.YtfpnmeacnhcakaaDoor
namespace Rows

/-- THE TIED CARD OF 'laws.FnExactIsTautology'. -/
def fnExactIsTautologyCard : Claim7 := { stood := { row := fnExactIsTautologyRow, standIns := [], harness := (true, "a245bd8e0a99e8ecb361875cfee1b49471431446f83db78f940d65383a97ae73"), looks := false }, kinds := [], alts := [], laidByText := true, laidKinds := [.data], laidTests := true, laidLooks := .later }
def FnExactIsTautologyCardSaid : Prop := Claim7.holds Tryd.pinned (.plain (OpenSpec.ofChange fnExactIsTautologySpec)) fnExactIsTautologyCard

/-- THE TIED CARD OF 'laws.FnExactTruthTable'. -/
def fnExactTruthTableCard : Claim7 := { stood := { row := fnExactTruthTableRow, standIns := [], harness := (true, "a245bd8e0a99e8ecb361875cfee1b49471431446f83db78f940d65383a97ae73"), looks := false }, kinds := [], alts := [], laidByText := true, laidKinds := [.data], laidTests := true, laidLooks := .later }
def FnExactTruthTableCardSaid : Prop := Claim7.holds Tryd.pinned (.plain (OpenSpec.ofChange fnExactTruthTableSpec)) fnExactTruthTableCard

/-- THE TIED CARD OF 'laws.FnExactDependsOn'. -/
def fnExactDependsOnCard : Claim7 := { stood := { row := fnExactDependsOnRow, standIns := [], harness := (true, "a245bd8e0a99e8ecb361875cfee1b49471431446f83db78f940d65383a97ae73"), looks := false }, kinds := [], alts := [], laidByText := true, laidKinds := [.data], laidTests := true, laidLooks := .later }
def FnExactDependsOnCardSaid : Prop := Claim7.holds Tryd.pinned (.plain (OpenSpec.ofChange fnExactDependsOnSpec)) fnExactDependsOnCard

/-- THE TIED CARD OF 'laws.FnExactFirstModel'. -/
def fnExactFirstModelCard : Claim7 := { stood := { row := fnExactFirstModelRow, standIns := [], harness := (true, "a245bd8e0a99e8ecb361875cfee1b49471431446f83db78f940d65383a97ae73"), looks := false }, kinds := [], alts := [], laidByText := true, laidKinds := [.data, .data], laidTests := true, laidLooks := .later }
def FnExactFirstModelCardSaid : Prop := Claim7.holds Tryd.pinned (.plain (OpenSpec.ofChange fnExactFirstModelSpec)) fnExactFirstModelCard

/-- THE TIED CARD OF 'laws.FnExactCountModels'. -/
def fnExactCountModelsCard : Claim7 := { stood := { row := fnExactCountModelsRow, standIns := [], harness := (true, "a245bd8e0a99e8ecb361875cfee1b49471431446f83db78f940d65383a97ae73"), looks := false }, kinds := [], alts := [], laidByText := true, laidKinds := [.data], laidTests := true, laidLooks := .later }
def FnExactCountModelsCardSaid : Prop := Claim7.holds Tryd.pinned (.plain (OpenSpec.ofChange fnExactCountModelsSpec)) fnExactCountModelsCard

/-- THE TIED CARD OF 'laws.FnExactClassicalEntails'. -/
def fnExactClassicalEntailsCard : Claim7 := { stood := { row := fnExactClassicalEntailsRow, standIns := [], harness := (true, "a245bd8e0a99e8ecb361875cfee1b49471431446f83db78f940d65383a97ae73"), looks := false }, kinds := [], alts := [], laidByText := true, laidKinds := [.data], laidTests := true, laidLooks := .later }
def FnExactClassicalEntailsCardSaid : Prop := Claim7.holds Tryd.pinned (.plain (OpenSpec.ofChange fnExactClassicalEntailsSpec)) fnExactClassicalEntailsCard

/-- THE SECOND FORM's CARD OF 'laws.FnExactIsTautology'. -/
def fnExactIsTautologyUptoCard : Claim7 := { stood := { row := fnExactIsTautologyUptoRow, standIns := [], harness := (true, "a245bd8e0a99e8ecb361875cfee1b49471431446f83db78f940d65383a97ae73"), looks := false }, kinds := [], alts := [], laidByText := true, laidKinds := [.data], laidTests := true, laidLooks := .later }
def FnExactIsTautologyUptoCardSaid : Prop := Claim7.holds Tryd.pinned (.plain (OpenSpec.upto fnExactIsTautologySpec)) fnExactIsTautologyUptoCard

/-- THE SECOND FORM's CARD OF 'laws.FnExactTruthTable'. -/
def fnExactTruthTableUptoCard : Claim7 := { stood := { row := fnExactTruthTableUptoRow, standIns := [], harness := (true, "a245bd8e0a99e8ecb361875cfee1b49471431446f83db78f940d65383a97ae73"), looks := false }, kinds := [], alts := [], laidByText := true, laidKinds := [.data], laidTests := true, laidLooks := .later }
def FnExactTruthTableUptoCardSaid : Prop := Claim7.holds Tryd.pinned (.plain (OpenSpec.upto fnExactTruthTableSpec)) fnExactTruthTableUptoCard

/-- THE SECOND FORM's CARD OF 'laws.FnExactDependsOn'. -/
def fnExactDependsOnUptoCard : Claim7 := { stood := { row := fnExactDependsOnUptoRow, standIns := [], harness := (true, "a245bd8e0a99e8ecb361875cfee1b49471431446f83db78f940d65383a97ae73"), looks := false }, kinds := [], alts := [], laidByText := true, laidKinds := [.data], laidTests := true, laidLooks := .later }
def FnExactDependsOnUptoCardSaid : Prop := Claim7.holds Tryd.pinned (.plain (OpenSpec.upto fnExactDependsOnSpec)) fnExactDependsOnUptoCard

/-- THE SECOND FORM's CARD OF 'laws.FnExactFirstModel'. -/
def fnExactFirstModelUptoCard : Claim7 := { stood := { row := fnExactFirstModelUptoRow, standIns := [], harness := (true, "a245bd8e0a99e8ecb361875cfee1b49471431446f83db78f940d65383a97ae73"), looks := false }, kinds := [], alts := [], laidByText := true, laidKinds := [.data, .data], laidTests := true, laidLooks := .later }
def FnExactFirstModelUptoCardSaid : Prop := Claim7.holds Tryd.pinned (.plain (OpenSpec.upto fnExactFirstModelSpec)) fnExactFirstModelUptoCard

/-- THE SECOND FORM's CARD OF 'laws.FnExactCountModels'. -/
def fnExactCountModelsUptoCard : Claim7 := { stood := { row := fnExactCountModelsUptoRow, standIns := [], harness := (true, "a245bd8e0a99e8ecb361875cfee1b49471431446f83db78f940d65383a97ae73"), looks := false }, kinds := [], alts := [], laidByText := true, laidKinds := [.data], laidTests := true, laidLooks := .later }
def FnExactCountModelsUptoCardSaid : Prop := Claim7.holds Tryd.pinned (.plain (OpenSpec.upto fnExactCountModelsSpec)) fnExactCountModelsUptoCard

/-- THE SECOND FORM's CARD OF 'laws.FnExactClassicalEntails'. -/
def fnExactClassicalEntailsUptoCard : Claim7 := { stood := { row := fnExactClassicalEntailsUptoRow, standIns := [], harness := (true, "a245bd8e0a99e8ecb361875cfee1b49471431446f83db78f940d65383a97ae73"), looks := false }, kinds := [], alts := [], laidByText := true, laidKinds := [.data], laidTests := true, laidLooks := .later }
def FnExactClassicalEntailsUptoCardSaid : Prop := Claim7.holds Tryd.pinned (.plain (OpenSpec.upto fnExactClassicalEntailsSpec)) fnExactClassicalEntailsUptoCard
end Rows
end Go.Proofs.YtfpnmeacnhcakaaDoor
