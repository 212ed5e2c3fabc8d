/- The first number at which something does not hold. Plain mathematics. -/
import Derived.Test.YtbfnagmjnaacoaaReads
namespace Go.Proofs.Ytbfnagmjnaacoaa
open Go.RowKit

/-- The first number below n at which f is false, or -1. -/
def frV (f : Nat → Bool) : Nat → Int
  | 0 => -1
  | n + 1 => if frV f n = -1 then (if f n then -1 else n) else frV f n
theorem fr_no {f : Nat → Bool} : ∀ {n : Nat}, (∀ j, j < n → f j = true) → frV f n = -1
  | 0, _ => rfl
  | n + 1, h => by rw [frV, fr_no (fun j hj => h j (by omega)), if_pos rfl, if_pos (h n (by omega))]
theorem fr_at {f : Nat → Bool} {k : Nat} (h1 : ∀ j, j < k → f j = true) (h2 : f k = false) : ∀ {n : Nat}, k < n → frV f n = k
  | 0, h => absurd h (by omega)
  | n + 1, h => by
    by_cases e : k = n
    · subst e
      rw [frV, fr_no h1, if_pos rfl, if_neg (by rw [h2]; decide)]
    · rw [frV, fr_at h1 h2 (show k < n by omega), if_neg (by omega)]
theorem fr_split (f : Nat → Bool) : ∀ n, (∀ j, j < n → f j = true) ∨ ∃ k, k < n ∧ (∀ j, j < k → f j = true) ∧ f k = false
  | 0 => .inl fun j h => absurd h (by omega)
  | n + 1 => by
    rcases fr_split f n with h | ⟨k, h1, h2, h3⟩
    · cases e : f n
      · exact .inr ⟨n, by omega, h, e⟩
      · exact .inl fun j hj => by
          by_cases e2 : j = n
          · rw [e2]; exact e
          · exact h j (by omega)
    · exact .inr ⟨k, by omega, h2, h3⟩
/-- Behind a last round nothing is told apart. -/
theorem fr_far {f g : Nat → Bool} {K n : Nat} (hn : K + 1 ≤ n) (hfg : ∀ j, j ≤ K → f j = g j) (hf : ∀ j, K ≤ j → f j = f K) : frV f n = frV g (K + 1) := by
  rcases fr_split g (K + 1) with h | ⟨k, h1, h2, h3⟩
  · rw [fr_no h]
    refine fr_no fun j _ => ?_
    by_cases e : j ≤ K
    · rw [hfg j e]; exact h j (by omega)
    · rw [hf j (by omega), hfg K (Nat.le_refl _)]; exact h K (by omega)
  · rw [fr_at h2 h3 h1]
    exact fr_at (fun j hj => by rw [hfg j (by omega)]; exact h2 j hj) (by rw [hfg k (by omega)]; exact h3) (by omega)
def alB (f : Nat → Bool) : Nat → Bool
  | 0 => true
  | k + 1 => alB f k && f k
theorem alB_iff {f : Nat → Bool} (n : Nat) : alB f n = true ↔ ∀ k, k < n → f k = true := by
  induction n with
  | zero => exact ⟨fun _ i h => absurd h (by omega), fun _ => rfl⟩
  | succ k ih =>
    rw [alB, Bool.and_eq_true, ih]
    constructor
    · rintro ⟨a, b⟩ y hy
      by_cases e2 : y = k
      · subst e2; exact b
      · exact a y (by omega)
    · exact fun h => ⟨fun y hy => h y (by omega), h k (by omega)⟩
theorem fr_al (f : Nat → Bool) (n : Nat) : decide (0 ≤ frV f n) = !alB f n := by
  rcases fr_split f n with h | ⟨k, h1, h2, h3⟩
  · rw [fr_no h, (alB_iff n).2 h]; rfl
  · rw [fr_at h2 h3 h1, decide_eq_true (by omega)]
    cases e : alB f n
    · rfl
    · rw [(alB_iff n).1 e k h1] at h3; cases h3

end Go.Proofs.Ytbfnagmjnaacoaa
