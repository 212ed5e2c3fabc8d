/- Substitution: a formula matches its own image; an image of an image is the image under the composition. Conditions: those in the theorems. -/
import Derived.Test.YtfkahkhmnchnjaaComp2
import Derived.Test.YtfkahkhmnchnjaaSubW
import Derived.Test.YtfkahkhmnchnjaaMtS
import Derived.Test.YtfkahkhmnchnjaaSubC
import Derived.Test.YtfkahkhmnchnjaaUf
namespace Go.Proofs.Ytfkahkhmnchnjaa
open Go.RowKit

/-- What is matched when a formula stands against its own image. -/
structure MtS (xs : List Nd) (im : List (List Nd)) (k : Nat) (ps : List (List Nd)) : Prop where
  some : ∀ q : Nat, q ≤ 5 → nthL ps q = [] ∨ nthL ps q = nthL im q
  all : ∀ j, j < k → ∀ q : Nat, kd xs j = 0 → sy xs j = q → q ≤ 5 → nthL ps q = nthL im q

theorem sub_congr {s t : Int → List Nd} {xs : List Nd} : ∀ k, (∀ j, j < k → kd xs j = 0 → s (sy xs j) = t (sy xs j)) → subTo s xs k = subTo t xs k := by
  intro k
  induction k with
  | zero => intro _; rfl
  | succ k ih =>
    intro h
    by_cases h0 : kd xs k = 0
    · rw [sub_var h0, sub_var h0, ih (fun j hj => h j (by omega)), h k (by omega) h0]
    · rw [sub_else h0, sub_else h0, ih (fun j hj => h j (by omega))]
theorem fms_isS {im : List (List Nd)} (h : fms im) (h6 : im.length = 6) : isS im = true := by
  simp only [isS, Bool.and_eq_true, decide_eq_true_eq]
  exact ⟨h6, List.all_eq_true.2 fun j hj => h j (List.mem_range.1 hj)⟩
theorem isS_sOK {im : List (List Nd)} (h : isS im = true) : sOK (sgI im) := fun q hq => by
  rw [sgI, Int.toNat_natCast]
  exact isS_fms h q (by have := (isS_six h).1; omega)
theorem one_is (q : Nat) (hq : q < 6) : isB [((0 : Int), (q : Int))] [((0 : Int), (q : Int))].length = true := by
  have hh : q = 0 ∨ q = 1 ∨ q = 2 ∨ q = 3 ∨ q = 4 ∨ q = 5 := by omega
  rcases hh with rfl | rfl | rfl | rfl | rfl | rfl <;> rfl

end Go.Proofs.Ytfkahkhmnchnjaa
