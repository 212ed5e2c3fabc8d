/- Contracts of the program's functions that make a formula of others, and of the model's. Conditions: those in the theorems. -/
import Derived.Test.YtomldealpmohhaaConcat
namespace Go.Proofs.Ytomldealpmohhaa
open Go.RowKit

/-- One list, or two, laid by a call with several arguments. -/
theorem lay1 {w : World} {C : Nat} {a : Option Addr} {len cap : Nat} {xs : List Nd} (h : AtN w a len xs) (t : TypeId) (hC : C = w.heap.size) : AtNN (w.alloc (.cells #[.slice a len cap] t)) (some ⟨C, 0, none⟩) 1 [xs] := by
  subst hC
  refine ⟨rfl, .inr ⟨w.heap.size, 0, rfl, by simp, fun j hj => ?_⟩⟩
  obtain rfl : j = 0 := by omega
  have hl := h.1
  refine ⟨a, cap, ?_, ?_⟩
  · rw [show (nthL [xs] 0).length = len from hl.symm]
    exact World.cell?_alloc_at _ _ _ _ rfl
  · rw [show (nthL [xs] 0).length = len from hl.symm]
    exact h.keep ((Below.refl _ _).alloc (Nat.le_refl _) _) (Nat.le_refl _)
theorem lay2 {w : World} {C : Nat} {a a' : Option Addr} {len cap len' cap' : Nat} {xs ys : List Nd} (h : AtN w a len xs) (h' : AtN w a' len' ys) (t : TypeId) (hC : C = w.heap.size) : AtNN (w.alloc (.cells #[.slice a len cap, .slice a' len' cap'] t)) (some ⟨C, 0, none⟩) 2 [xs, ys] := by
  subst hC
  refine ⟨rfl, .inr ⟨w.heap.size, 0, rfl, by simp, fun j hj => ?_⟩⟩
  have hl := h.1
  have hl' := h'.1
  have hj2 : j = 0 ∨ j = 1 := by omega
  rcases hj2 with rfl | rfl
  · refine ⟨a, cap, ?_, ?_⟩
    · rw [show (nthL [xs, ys] 0).length = len from hl.symm]
      exact World.cell?_alloc_at _ _ _ _ rfl
    · rw [show (nthL [xs, ys] 0).length = len from hl.symm]
      exact h.keep ((Below.refl _ _).alloc (Nat.le_refl _) _) (Nat.le_refl _)
  · refine ⟨a', cap', ?_, ?_⟩
    · rw [show (nthL [xs, ys] 1).length = len' from hl'.symm]
      exact World.cell?_alloc_at _ _ _ _ rfl
    · rw [show (nthL [xs, ys] 1).length = len' from hl'.symm]
      exact h'.keep ((Below.refl _ _).alloc (Nat.le_refl _) _) (Nat.le_refl _)

end Go.Proofs.Ytomldealpmohhaa
