/- Rows and lists under way: entries below k are done. Conditions: those in the theorems. -/
import Derived.Test.YtomldealpmohhaaInv
namespace Go.Proofs.Ytomldealpmohhaa
open Go.RowKit

def upS (F : Nat → Int) (k t : Nat) : Int := if t < k then F t else 0
theorem upS_start (F : Nat → Int) (t : Nat) : upS F 0 t = 0 := by unfold upS; rw [if_neg (by omega)]
theorem upS_all {F : Nat → Int} {n t : Nat} (h : t < n) : upS F n t = F t := by unfold upS; rw [if_pos h]
theorem upS_set {F : Nat → Int} {k : Nat} {z : Int} (hz : z = F k) (t : Nat) : (if t = k then z else upS F k t) = upS F (k + 1) t := by
  unfold upS
  by_cases e : t = k
  · subst e; rw [if_pos rfl, if_pos (by omega), hz]
  · rw [if_neg e]
    by_cases h2 : t < k
    · rw [if_pos h2, if_pos (by omega)]
    · rw [if_neg h2, if_neg (by omega)]
def upTo (F : Nat → Int) : Nat → List Int
  | 0 => []
  | k + 1 => upTo F k ++ [F k]
theorem upTo_len (F : Nat → Int) (k : Nat) : (upTo F k).length = k := by induction k with | zero => rfl | succ k ih => simp [upTo, ih]
theorem upTo_tab (F : Nat → Int) (k : Nat) : upTo F k = tab k F := by
  induction k with
  | zero => rfl
  | succ k ih => rw [upTo, ih]; unfold tab; rw [List.range_succ, List.map_append]; rfl
theorem own_up {w : World} {B k : Nat} {v : Value} {F : Nat → Int} (h : w.ownsRow B 2 1 v k ((upTo F k).map (Value.int .i64))) : Own w B v (upTo F k) := by
  unfold Own; rw [upTo_len]; exact h

end Go.Proofs.Ytomldealpmohhaa
