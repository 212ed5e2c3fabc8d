/-
  DERIVED. GIVEN WITH THE SEED: THE CARDS: each row of YtfkahkhmnchnjacDoorRows.lean that lists a variable, with what it lists TIED to the program's text (the seventh form; the later family's looks); each row that meets fmt, with fmt's text TOLD by the authors' own Lean function (tested against real Go, not proved from fmt's source: count such statements apart). THE CARD IS WHAT COUNTS. Prove the row's statement (the work); the ties are given (YtfkahkhmnchnjacDoorTie.lean); close each card by the builder's one call (the guide's Derived/Test/ToyasCard.lean, 'card_holds'). Laid BY PROGRAM, IN A SANDBOX (cutbox-door.mjs). By AI agents, Wed Nov 11 2026. No macro, syntax, notation, axiom, sorry.
-/
import Derived.Test.YtfkahkhmnchnjacDoorRows
import GoSem.ClaimSeven
namespace Go.Proofs.YtfkahkhmnchnjacDoor
namespace Rows

/-- THE TIED CARD OF 'laws.FnExactDependsOn'. -/
def fnExactDependsOnCard : Claim7 := { stood := { row := fnExactDependsOnRow, standIns := [], harness := (true, "256fab7b2bb278b4c8490431885c3e8047afc15ac5b63322d5a7a74250aeb13b"), looks := false }, kinds := [], alts := [], laidByText := true, laidKinds := [.data], laidTests := true, laidLooks := .later }
def FnExactDependsOnCardSaid : Prop := Claim7.holds Tryd.pinned (.plain (OpenSpec.ofChange fnExactDependsOnSpec)) fnExactDependsOnCard

/-- THE TIED CARD OF 'laws.FnExactPrimeImplicates'. -/
def fnExactPrimeImplicatesCard : Claim7 := { stood := { row := fnExactPrimeImplicatesRow, standIns := [], harness := (true, "256fab7b2bb278b4c8490431885c3e8047afc15ac5b63322d5a7a74250aeb13b"), looks := false }, kinds := [], alts := [], laidByText := true, laidKinds := [.data], laidTests := true, laidLooks := .later }
def FnExactPrimeImplicatesCardSaid : Prop := Claim7.holds Tryd.pinned (.plain (OpenSpec.ofChange fnExactPrimeImplicatesSpec)) fnExactPrimeImplicatesCard

/-- THE TIED CARD OF 'laws.FnExactPrimeImplicants'. -/
def fnExactPrimeImplicantsCard : Claim7 := { stood := { row := fnExactPrimeImplicantsRow, standIns := [], harness := (true, "256fab7b2bb278b4c8490431885c3e8047afc15ac5b63322d5a7a74250aeb13b"), looks := false }, kinds := [], alts := [], laidByText := true, laidKinds := [.data], laidTests := true, laidLooks := .later }
def FnExactPrimeImplicantsCardSaid : Prop := Claim7.holds Tryd.pinned (.plain (OpenSpec.ofChange fnExactPrimeImplicantsSpec)) fnExactPrimeImplicantsCard

/-- THE SECOND FORM's CARD OF 'laws.FnExactDependsOn'. -/
def fnExactDependsOnUptoCard : Claim7 := { stood := { row := fnExactDependsOnUptoRow, standIns := [], harness := (true, "256fab7b2bb278b4c8490431885c3e8047afc15ac5b63322d5a7a74250aeb13b"), looks := false }, kinds := [], alts := [], laidByText := true, laidKinds := [.data], laidTests := true, laidLooks := .later }
def FnExactDependsOnUptoCardSaid : Prop := Claim7.holds Tryd.pinned (.plain (OpenSpec.upto fnExactDependsOnSpec)) fnExactDependsOnUptoCard

/-- THE SECOND FORM's CARD OF 'laws.FnExactPrimeImplicates'. -/
def fnExactPrimeImplicatesUptoCard : Claim7 := { stood := { row := fnExactPrimeImplicatesUptoRow, standIns := [], harness := (true, "256fab7b2bb278b4c8490431885c3e8047afc15ac5b63322d5a7a74250aeb13b"), looks := false }, kinds := [], alts := [], laidByText := true, laidKinds := [.data], laidTests := true, laidLooks := .later }
def FnExactPrimeImplicatesUptoCardSaid : Prop := Claim7.holds Tryd.pinned (.plain (OpenSpec.upto fnExactPrimeImplicatesSpec)) fnExactPrimeImplicatesUptoCard

/-- THE SECOND FORM's CARD OF 'laws.FnExactPrimeImplicants'. -/
def fnExactPrimeImplicantsUptoCard : Claim7 := { stood := { row := fnExactPrimeImplicantsUptoRow, standIns := [], harness := (true, "256fab7b2bb278b4c8490431885c3e8047afc15ac5b63322d5a7a74250aeb13b"), looks := false }, kinds := [], alts := [], laidByText := true, laidKinds := [.data], laidTests := true, laidLooks := .later }
def FnExactPrimeImplicantsUptoCardSaid : Prop := Claim7.holds Tryd.pinned (.plain (OpenSpec.upto fnExactPrimeImplicantsSpec)) fnExactPrimeImplicantsUptoCard
end Rows
end Go.Proofs.YtfkahkhmnchnjacDoor
