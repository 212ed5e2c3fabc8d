/- 2 texts in one: Form, IsF. -/
import Derived.Deep.RegionWith
import Derived.RegionTactic
import Derived.BigRegion
import Derived.ChangeAlike
import Derived.Test.YtfkdefmafhlmnaaJn01
/- Contracts of the program's functions that read a list of nodes: is it a formula, where does a part end. Conditions: those in the theorems. -/
namespace Go.Proofs.Ytfkdefmafhlmnaa
open Go.RowKit

def okN' (k s : Int) : Bool := if k = 0 then decide (0 ≤ s) && decide (s < 6) else decide (0 < k) && decide (k < 7) && decide (s = 0)
theorem okN_eq (k s : Int) : okN' k s = okN k s := by
  unfold okN' okN inB
  rw [Bool.eq_iff_iff]
  split
  · subst k; simp; omega
  · simp; omega

end Go.Proofs.Ytfkdefmafhlmnaa

/- Contract of the program's IsFormula: it answers as the model does, at every list of nodes of at most 2^20 nodes. -/
namespace Go.Proofs.Ytfkdefmafhlmnaa
open Go.RowKit

/-- How many parts are missing behind k nodes. -/
def ms (xs : List Nd) : Nat → Int
  | 0 => 1
  | k + 1 => ms xs k - 1 + prt (kd xs k)
def runB (xs : List Nd) : Nat → Bool
  | 0 => true
  | k + 1 => runB xs k && (decide (0 < ms xs k) && okN (kd xs k) (sy xs k))
theorem ms_le (xs : List Nd) (k : Nat) : ms xs k ≤ 1 + k := by
  induction k with
  | zero => simp [ms]
  | succ k ih => have := prt_bd (kd xs k); rw [ms]; omega
theorem run_ge {xs : List Nd} {k : Nat} (h : runB xs k = true) : 0 ≤ ms xs k := by
  cases k with
  | zero => simp [ms]
  | succ k =>
    rw [runB] at h
    simp only [Bool.and_eq_true, decide_eq_true_eq] at h
    have := prt_bd (kd xs k)
    rw [ms]; omega
theorem run_tree {xs : List Nd} {k : Nat} (h : runB xs k = true) : treeTo xs k = true := by
  induction k with
  | zero => rfl
  | succ k ih =>
    rw [runB] at h
    simp only [Bool.and_eq_true] at h
    rw [treeTo, ih h.1, h.2.2]; rfl
theorem run_pe {xs : List Nd} {k len : Nat} (hk : k ≤ len) (h : runB xs k = true) : pe xs len 1 0 = pe xs (len - k) (ms xs k) k := by
  induction k with
  | zero => rfl
  | succ k ih =>
    rw [runB] at h
    simp only [Bool.and_eq_true, decide_eq_true_eq] at h
    rw [ih (by omega) h.1, show len - k = (len - (k + 1)) + 1 by omega, pe, if_neg (by omega), ms]
theorem is_big {xs : List Nd} {len : Nat} (h : 40 < len) : isB xs len = false := by rw [isB, decide_eq_false (by omega)]; rfl
theorem is_small {xs : List Nd} {len : Nat} (h : len ≤ 40) : isB xs len = treeB xs len := by rw [isB, decide_eq_true h, Bool.true_and]
theorem tree_stop {xs : List Nd} {k len : Nat} (hk : k < len) (h : runB xs k = true) (h0 : ms xs k = 0) : treeB xs len = false := by
  have hp := run_pe (Nat.le_of_lt hk) h
  have : pe xs len 1 0 = k := by rw [hp, h0, show len - k = (len - (k + 1)) + 1 by omega, pe, if_pos (by omega)]
  rw [treeB, this]
  have : ((k : Int) == (len : Int)) = false := by simp; omega
  rw [this, Bool.and_false]
theorem tree_end {xs : List Nd} {len : Nat} (h : runB xs len = true) : treeB xs len = (ms xs len == 0) := by
  have hp := run_pe (Nat.le_refl _) h
  have hg := run_ge h
  rw [treeB, run_tree h, hp, Nat.sub_self, pe]
  by_cases h0 : len = 0
  · subst h0; rfl
  rw [decide_eq_true (by omega : 0 < len)]
  by_cases hz : ms xs len = 0
  · rw [if_pos (by omega), hz]; simp
  · rw [if_neg (by omega)]
    have e1 : (ms xs len == 0) = false := by simpa using hz
    rw [e1]; simp
theorem run_step {xs : List Nd} {k : Nat} (h : runB xs k = true) (h0 : ms xs k ≠ 0) (hok : okN (kd xs k) (sy xs k) = true) : runB xs (k + 1) = true := by
  have := run_ge h
  rw [runB, h, hok, decide_eq_true (by omega : 0 < ms xs k)]; rfl

end Go.Proofs.Ytfkdefmafhlmnaa
