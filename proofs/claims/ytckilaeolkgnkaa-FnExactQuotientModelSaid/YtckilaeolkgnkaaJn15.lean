/- 2 texts in one: SiV, SiW. -/
import Derived.Test.YtckilaeolkgnkaaJn13
/- Contracts of IsSimulation and IsBisimulation of the model and of the program. Conditions: those in the theorems. -/
namespace Go.Proofs.Ytckilaeolkgnkaa
open Go.RowKit

theorem Mo.lk {n0 n1 : Int} {xs ys ps zs ls : List Int} (h0 : isM n0 xs ys = true) (h1 : isM n1 ps zs = true) (hl : (ls.length : Int) = n0) (hm : mksTo n1 ls ls.length = true) : Lk xs ys ps zs ls := by
  obtain ⟨e1, e2, e3, e4⟩ := isM_rel h0
  obtain ⟨f1, f2, f3, f4⟩ := isM_rel h1
  obtain ⟨-, -, -, -, y6, -⟩ := isM_ok h0
  obtain ⟨-, -, -, -, z6, -⟩ := isM_ok h1
  subst f1
  refine ⟨e2, f2, e3, f3, e4, f4, by omega, by omega, fun i => ?_⟩
  by_cases hi : i < ls.length
  · exact (mksTo_iff (by omega) ls ls.length).1 hm i hi
  · rw [nth_high (by omega)]; exact InMk.zero _

def lnkB (n0 n1 : Int) (ls : List Int) : Bool := decide ((ls.length : Int) = n0) && mksTo n1 ls ls.length
theorem lkC_of (n0 : Int) (xs0 ys0 : List Int) (n1 : Int) (xs1 ys1 ls : List Int) : lkC n0 xs0 ys0 n1 xs1 ys1 ls = if isM n0 xs0 ys0 && isM n1 xs1 ys1 && lnkB n0 n1 ls then 0 else 1 := by
  unfold lkC lnkB
  cases (isM n0 xs0 ys0 && isM n1 xs1 ys1)
  · rfl
  · by_cases h : (ls.length : Int) = n0
    · simp [h]
    · simp [h]

def siB (b : Bool) (n0 : Int) (xs ys : List Int) (n1 : Int) (ps zs ls : List Int) : Bool := isM n0 xs ys && isM n1 ps zs && lnkB n0 n1 ls && (if b then insB ls (tab xs.length (stV xs ys ps zs ls)) ls.length else insB ls (tab xs.length (belV xs ys ps zs ls)) ls.length)
theorem si_bad {b : Bool} {n0 n1 : Int} {xs ys ps zs ls : List Int} (h : (isM n0 xs ys && isM n1 ps zs && lnkB n0 n1 ls) = false) : Ending.returned (.tuple #[.bool false, .int .i64 1]) = .returned (.tuple #[.bool (siB b n0 xs ys n1 ps zs ls), .int .i64 (lkC n0 xs ys n1 ps zs ls)]) := by
  rw [siB, lkC_of, h]; rfl
theorem si_ok {b : Bool} {n0 n1 : Int} {xs ys ps zs ls : List Int} {z : Bool} (h : (isM n0 xs ys && isM n1 ps zs && lnkB n0 n1 ls) = true) (hz : z = if b then insB ls (tab xs.length (stV xs ys ps zs ls)) ls.length else insB ls (tab xs.length (belV xs ys ps zs ls)) ls.length) : Ending.returned (.tuple #[.bool z, .int .i64 0]) = .returned (.tuple #[.bool (siB b n0 xs ys n1 ps zs ls), .int .i64 (lkC n0 xs ys n1 ps zs ls)]) := by
  rw [siB, lkC_of, h, hz]; rfl

end Go.Proofs.Ytckilaeolkgnkaa

/- Contracts of IsSimulation and IsBisimulation of the model and of the program, told by values. Conditions: those in the theorems. -/
namespace Go.Proofs.Ytckilaeolkgnkaa
open Go.RowKit

theorem own_mem {w : World} {lo hi : Nat} {v : Value} {xs : List Int} (h : OwnIn w lo hi v xs) : ∃ a c, v = .slice a xs.length c ∧ At w a xs.length xs := by
  obtain ⟨a, c, e, hat, -⟩ := Own.at h.1
  exact ⟨a, c, e, hat⟩


end Go.Proofs.Ytckilaeolkgnkaa
