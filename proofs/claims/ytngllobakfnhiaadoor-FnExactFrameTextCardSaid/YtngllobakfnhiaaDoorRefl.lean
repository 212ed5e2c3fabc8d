/- Contracts of the functions of chapter 1 behind ReflexiveClosure, and the walk of its law. Conditions: those in the theorems. -/
import Derived.Test.YtngllobakfnhiaaDoorBox
import Derived.Deep.RegionLaw
namespace Go.Proofs.YtngllobakfnhiaaDoor
open Go.RowKit

def rfTo (xs : List Int) : Nat → List Int
  | 0 => []
  | k + 1 => rfTo xs k ++ [bits .or .i64 (nth xs k) (one k)]
theorem rfTo_len (xs : List Int) (k : Nat) : (rfTo xs k).length = k := by induction k with | zero => rfl | succ k ih => simp [rfTo, ih]

theorem nth_snoc (xs : List Int) (z : Int) (n : Nat) (h : xs.length = n) : nth (xs ++ [z]) n = z := by unfold nth; subst h; simp [List.getD]
theorem nth_left (xs ys : List Int) (j : Nat) (h : j < xs.length) : nth (xs ++ ys) j = nth xs j := by
  unfold nth; rw [List.getD_eq_getElem?_getD, List.getD_eq_getElem?_getD, List.getElem?_append_left h]
theorem rfTo_nth (xs : List Int) (n k : Nat) (h : k < n) : nth (rfTo xs n) k = bits .or .i64 (nth xs k) (one k) := by
  induction n with
  | zero => omega
  | succ n ih =>
    by_cases e : k = n
    · subst e; exact nth_snoc _ _ _ (rfTo_len xs k)
    · rw [rfTo, nth_left _ _ _ (by rw [rfTo_len]; omega)]; exact ih (by omega)

/-- The result list of a function that may also return a code. -/
def outL (c : Int) (ys : List Int) : List Int := if c = 0 then ys else []

theorem out_ok {v : Value} {c : Int} (h : c = 0) : Ending.returned (.tuple #[v, .int .i64 0]) = .returned (.tuple #[v, .int .i64 c]) := by rw [h]
theorem Own.nil {w : World} {B : Nat} {c : Int} {ys : List Int} (h : ¬ c = 0) : Own w B (.slice none 0 0) (outL c ys) := by
  rw [outL, if_neg h]; exact World.ownsRow_nil _ _ _ _
theorem Own.ok {w : World} {B : Nat} {v : Value} {c : Int} {ys : List Int} (h : c = 0) (ho : Own w B v ys) : Own w B v (outL c ys) := by
  rw [outL, if_pos h]; exact ho
theorem chkI_small {xs : List Int} {len : Nat} (h : chkI xs len = 0) : len ≤ 30 ∧ mksTo len xs len = true := by
  unfold chkI at h
  split at h
  · omega
  · cases h1 : mksTo len xs len <;> simp [h1] at h ⊢; omega

end Go.Proofs.YtngllobakfnhiaaDoor
