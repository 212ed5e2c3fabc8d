/- Contracts of the functions of chapter 1 behind ComposeRelations. Conditions: those in the theorems. -/
import Derived.Test.YtngllobakfnhiaaDoorRefl
namespace Go.Proofs.YtngllobakfnhiaaDoor
open Go.RowKit

def cpTo (xs ys : List Int) : Nat → List Int
  | 0 => []
  | k + 1 => cpTo xs ys k ++ [imgTo ys (nth xs k) ys.length]
theorem cpTo_len (xs ys : List Int) (k : Nat) : (cpTo xs ys k).length = k := by induction k with | zero => rfl | succ k ih => simp [cpTo, ih]
theorem cpTo_nth (xs ys : List Int) (n k : Nat) (h : k < n) : nth (cpTo xs ys n) k = imgTo ys (nth xs k) ys.length := by
  induction n with
  | zero => omega
  | succ n ih =>
    by_cases e : k = n
    · subst e; exact nth_snoc _ _ _ (cpTo_len xs ys k)
    · rw [cpTo, nth_left _ _ _ (by rw [cpTo_len]; omega)]; exact ih (by omega)

theorem chkI_cases (xs : List Int) (len : Nat) : (30 < len ∧ chkI xs len = 2) ∨ (len ≤ 30 ∧ chkI xs len = 1) ∨ (len ≤ 30 ∧ chkI xs len = 0) := by
  by_cases h : 30 < len
  · exact .inl ⟨h, chkI_big h⟩
  · cases h1 : mksTo len xs len
    · exact .inr (.inl ⟨by omega, chkI_bad h h1⟩)
    · exact .inr (.inr ⟨by omega, chkI_ok h h1⟩)

def cmpI (xs ys : List Int) (lx ly : Nat) : Int := if chkI xs lx = 2 ∨ chkI ys ly = 2 then 2 else if chkI xs lx ≠ 0 ∨ chkI ys ly ≠ 0 ∨ lx ≠ ly then 1 else 0
theorem cmpI_of {xs ys : List Int} {lx ly : Nat} {c d : Int} (hc : chkI xs lx = c) (hd : chkI ys ly = d) : cmpI xs ys lx ly = if c = 2 ∨ d = 2 then 2 else if c ≠ 0 ∨ d ≠ 0 ∨ lx ≠ ly then 1 else 0 := by rw [cmpI, hc, hd]

theorem cmpI_ret {xs ys : List Int} {lx ly : Nat} {c d r : Int} (h1 : chkI xs lx = c) (h2 : chkI ys ly = d) (h3 : (if c = 2 ∨ d = 2 then 2 else if c ≠ 0 ∨ d ≠ 0 ∨ lx ≠ ly then 1 else 0) = r) : Ending.returned (.int .i64 r) = .returned (.int .i64 (cmpI xs ys lx ly)) := by rw [cmpI_of h1 h2, h3]

theorem cmpI_zero {xs ys : List Int} {lx ly : Nat} (h : cmpI xs ys lx ly = 0) : lx ≤ 30 ∧ ly ≤ 30 ∧ chkI xs lx = 0 ∧ chkI ys ly = 0 ∧ lx = ly := by
  rcases chkI_cases xs lx with ⟨h1, h2⟩ | ⟨h1, h2⟩ | ⟨h1, h2⟩ <;> rcases chkI_cases ys ly with ⟨h3, h4⟩ | ⟨h3, h4⟩ | ⟨h3, h4⟩ <;> rw [cmpI_of h2 h4] at h <;> simp at h ⊢ <;> refine ⟨h1, h3, h2, h4, ?_⟩ <;> omega

theorem cmp_ret {xs ys : List Int} {lx ly : Nat} {c d r : Int} (h1 : chkI xs lx = c) (h2 : chkI ys ly = d) (h3 : (if c = 2 ∨ d = 2 then 2 else if c ≠ 0 ∨ d ≠ 0 ∨ lx ≠ ly then 1 else 0) = r) (hr : r ≠ 0) {w w' : World} (q : Nat) (hw : w' = w.drewN q) {zs : List Int} :
    ∃ v, Ending.returned (.tuple #[.slice none 0 0, .int .i64 r]) = .returned (.tuple #[v, .int .i64 (cmpI xs ys lx ly)]) ∧ Own w' w.heap.size v (outL (cmpI xs ys lx ly) zs) ∧ Below w.heap.size w w' := by
  subst hw
  rw [cmpI_of h1 h2, h3]
  exact ⟨_, rfl, Own.nil hr, below_drewN (Below.refl _ _) q⟩

end Go.Proofs.YtngllobakfnhiaaDoor
