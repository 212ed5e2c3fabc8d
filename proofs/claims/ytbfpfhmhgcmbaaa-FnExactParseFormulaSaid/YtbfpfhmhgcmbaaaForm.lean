/- Contracts of the program's functions that read a list of nodes: is it a formula, where does a part end. Conditions: those in the theorems. -/
import Derived.Test.YtbfpfhmhgcmbaaaNodes
import Derived.Deep.RegionWith
import Derived.RegionTactic
import Derived.BigRegion
import Derived.ChangeAlike
namespace Go.Proofs.Ytbfpfhmhgcmbaaa
open Go.RowKit

set_option maxHeartbeats 400000 in
theorem partCount_any (k : Int) (w : World) : Calls Try.prog 50 #[.int .i64 k] w fun e w' => e = .returned (.int .i64 (prt k)) ∧ w = w' := by
  by_cases h : k = 2 ∨ k = 3 ∨ k = 4 ∨ k = 5 ∨ k = 6
  · rcases h with rfl | rfl | rfl | rfl | rfl
    all_goals
      go_enter Try.func50, Try.ntmps50
      go_wp2
      go_ret
      exact ⟨rfl, rfl⟩
  · have e2 : (k == 2) = false := by simp; omega
    have e3 : (k == 3) = false := by simp; omega
    have e4 : (k == 4) = false := by simp; omega
    have e5 : (k == 5) = false := by simp; omega
    have e6 : (k == 6) = false := by simp; omega
    have HP : Hid (prt k = 0) := by show prt k = 0; unfold prt; rw [if_neg (by omega), if_neg (by omega)]
    clear h
    go_enter Try.func50, Try.ntmps50
    go_wp2
    go_ret
    exact ⟨ret_int HP.out.symm, rfl⟩

def okN' (k s : Int) : Bool := if k = 0 then decide (0 ≤ s) && decide (s < 6) else decide (0 < k) && decide (k < 7) && decide (s = 0)
theorem okN_eq (k s : Int) : okN' k s = okN k s := by
  unfold okN' okN inB
  rw [Bool.eq_iff_iff]
  split
  · subst k; simp; omega
  · simp; omega

end Go.Proofs.Ytbfpfhmhgcmbaaa
