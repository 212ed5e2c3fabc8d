/- Contracts of arranged of the program and of PartOfFrame of both. Conditions: those in the theorems. -/
import Derived.Test.YtfdoecnpnfojpaaPrt
import Derived.Test.YtfdoecnpnfojpaaSum
namespace Go.Proofs.Ytfdoecnpnfojpaa
open Go.RowKit

/-- The row under way: entries below i are done. -/
def arS (xs ls : List Int) (i t : Nat) : Int := if t < i then arF xs ls t else 0
theorem arS_start (xs ls : List Int) (t : Nat) : arS xs ls 0 t = 0 := by unfold arS; rw [if_neg (by omega)]
theorem arS_all {xs ls : List Int} {n t : Nat} (h : t < n) : arS xs ls n t = arF xs ls t := by unfold arS; rw [if_pos h]
theorem arS_set {xs ls : List Int} {k : Nat} {z : Int} (hz : z = arF xs ls k) (t : Nat) : (if t = k then z else arS xs ls k t) = arS xs ls (k + 1) t := by
  unfold arS
  by_cases e : t = k
  · subst e; rw [if_pos rfl, if_pos (by omega), hz]
  · rw [if_neg e]
    by_cases h2 : t < k
    · rw [if_pos h2, if_pos (by omega)]
    · rw [if_neg h2, if_neg (by omega)]

def prL (n : Int) (xs : List Int) (m : Int) : List Int := if cwV n xs m = 0 then arV xs (memTo m.toNat xs.length) else []
theorem pr_ok {n m : Int} {xs : List Int} (h : cwV n xs m = 0) : prL n xs m = arV xs (memTo m.toNat xs.length) := if_pos h
theorem pr_bad {n m : Int} {xs : List Int} (h : ¬ cwV n xs m = 0) : prL n xs m = [] := if_neg h
theorem RF.bad' {w : World} {B : Nat} {c c' n : Int} {xs : List Int} (h : c = c') (hn : n = 0) (hx : xs = []) : RF w B n c' xs (.returned (.tuple #[.agg #[.int .i64 0, .slice none 0 0], .int .i64 c])) := by
  subst h hn hx
  exact ⟨_, rfl, OwnF.mk (World.ownsRow_nil _ _ _ _)⟩

end Go.Proofs.Ytfdoecnpnfojpaa
