/-
  DERIVED. GIVEN WITH THE SEED: THE CARDS: each row of YtnoaaklkbfbdbaaDoorRows.lean that lists a variable, with what it lists TIED to the program's text (the seventh form; the later family's looks); each row that meets fmt, with fmt's text TOLD by the authors' own Lean function (tested against real Go, not proved from fmt's source: count such statements apart). THE CARD IS WHAT COUNTS. Prove the row's statement (the work); the ties are given (YtnoaaklkbfbdbaaDoorTie.lean); close each card by the builder's one call (the guide's Derived/Test/ToyasCard.lean, 'card_holds'). Laid BY PROGRAM, IN A SANDBOX (cutbox-door.mjs). By AI agents, Wed Nov 11 2026. No macro, syntax, notation, axiom, sorry.
-/
import Derived.Test.YtnoaaklkbfbdbaaDoorRows
import GoSem.ClaimSeven
namespace Go.Proofs.YtnoaaklkbfbdbaaDoor
namespace Rows

/-- THE TIED CARD OF 'laws.FnExactFirstRefutation'. -/
def fnExactFirstRefutationCard : Claim7 := { stood := { row := fnExactFirstRefutationRow, standIns := [], harness := (true, "ab590e03806590495aea2290ad73a88d9fd45a7e0fa06ae3fabb08b347c70f8d"), looks := false }, kinds := [], alts := [], laidByText := true, laidKinds := [.data], laidTests := true, laidLooks := .later }
def FnExactFirstRefutationCardSaid : Prop := Claim7.holds Tryd.pinned (.plain (OpenSpec.ofChange fnExactFirstRefutationSpec)) fnExactFirstRefutationCard

/-- THE TIED CARD OF 'laws.FnExactIsValidOn'. -/
def fnExactIsValidOnCard : Claim7 := { stood := { row := fnExactIsValidOnRow, standIns := [], harness := (true, "ab590e03806590495aea2290ad73a88d9fd45a7e0fa06ae3fabb08b347c70f8d"), looks := false }, kinds := [], alts := [], laidByText := true, laidKinds := [.data], laidTests := true, laidLooks := .later }
def FnExactIsValidOnCardSaid : Prop := Claim7.holds Tryd.pinned (.plain (OpenSpec.ofChange fnExactIsValidOnSpec)) fnExactIsValidOnCard

/-- THE SECOND FORM's CARD OF 'laws.FnExactFirstRefutation'. -/
def fnExactFirstRefutationUptoCard : Claim7 := { stood := { row := fnExactFirstRefutationUptoRow, standIns := [], harness := (true, "ab590e03806590495aea2290ad73a88d9fd45a7e0fa06ae3fabb08b347c70f8d"), looks := false }, kinds := [], alts := [], laidByText := true, laidKinds := [.data], laidTests := true, laidLooks := .later }
def FnExactFirstRefutationUptoCardSaid : Prop := Claim7.holds Tryd.pinned (.plain (OpenSpec.upto fnExactFirstRefutationSpec)) fnExactFirstRefutationUptoCard

/-- THE SECOND FORM's CARD OF 'laws.FnExactIsValidOn'. -/
def fnExactIsValidOnUptoCard : Claim7 := { stood := { row := fnExactIsValidOnUptoRow, standIns := [], harness := (true, "ab590e03806590495aea2290ad73a88d9fd45a7e0fa06ae3fabb08b347c70f8d"), looks := false }, kinds := [], alts := [], laidByText := true, laidKinds := [.data], laidTests := true, laidLooks := .later }
def FnExactIsValidOnUptoCardSaid : Prop := Claim7.holds Tryd.pinned (.plain (OpenSpec.upto fnExactIsValidOnSpec)) fnExactIsValidOnUptoCard
end Rows
end Go.Proofs.YtnoaaklkbfbdbaaDoor
