/- The first row with a value by the model; IsTautology of the model and of the program. Conditions: the package's table for the program, and those in the theorems. -/
import Derived.Test.YtbgmcpmjgcoaaaaDoorMa
import Derived.Test.YtbgmcpmjgcoaaaaDoorTv
namespace Go.Proofs.YtbgmcpmjgcoaaaaDoor
open Go.RowKit

theorem plain_at {xs : List Nd} {a : Option Addr} {cap : Nat} {w : World} (hc : ck xs = 0) (h : AtN w a xs.length xs) (h1 : xs.length ≤ cap) (h2 : cap ≤ maxLen) :
    ∃ b off, a = some ⟨b, off, none⟩ ∧ AtF w b off xs.length cap (toFm xs) ∧ (toFm xs).ok ∧ (toFm xs).pl ∧ xs.length ≤ 40 := by
  obtain ⟨hb, hpl⟩ := ck_good hc
  obtain ⟨b, off, ha, hf⟩ := h.formula hb h1 h2
  exact ⟨b, off, ha, hf, (toFm_of hb).1, toFm_pl hb hpl, (is_pos' hb).2⟩
theorem ret_bi {a b : Bool} {i j : Int} (h1 : a = b) (h2 : i = j) : Ending.returned (.tuple #[.bool a, .int .i64 i]) = .returned (.tuple #[.bool b, .int .i64 j]) := by rw [h1, h2]

end Go.Proofs.YtbgmcpmjgcoaaaaDoor
