/- Contracts of RootsOf, of the model and of the program. Conditions: those in the theorems. -/
import Derived.Test.YtbaeacppojpplaaGen
namespace Go.Proofs.Ytbaeacppojpplaa
open Go.RowKit

def rtTo (xs : List Int) : Nat → Int
  | 0 => 0
  | k + 1 => if nth (rcL xs) k = full xs.length then bits .or .i64 (rtTo xs k) (one k) else rtTo xs k
theorem pop_full (n : Nat) : ∀ m, m < 2 ^ n → pop m ≤ n ∧ (pop m = n ↔ m + 1 = 2 ^ n) := by
  induction n with
  | zero => intro m hm; have : m = 0 := by simpa using hm
            subst this; simp [pop_zero]
  | succ n ih =>
    intro m hm
    have hs := pop_step m
    rw [Nat.pow_succ] at hm ⊢
    obtain ⟨a, b⟩ := ih (m / 2) (by omega)
    refine ⟨by omega, ⟨fun h => ?_, fun h => ?_⟩⟩
    · have := b.1 (by omega); omega
    · have := b.2 (by omega); omega
theorem pop_is_full {n c : Nat} (hn : n ≤ 30) (h : InMk n (c : Int)) : ((pop c : Nat) : Int) = n ↔ (c : Int) = full n := by
  have h1 := h.nat
  rw [Int.toNat_natCast] at h1
  have h2 := (pop_full n c h1).2
  rw [full_eq _ (by omega) (by omega), Int.toNat_natCast]
  have e : ((2 : Int) ^ n) = ((2 ^ n : Nat) : Int) := by simp
  rw [e]
  constructor
  · intro h3; have := h2.1 (by omega); omega
  · intro h3; have := h2.2 (by omega); omega

def rtC (n : Int) (xs : List Int) : Int := if frB n xs then 0 else 1
def rtV (n : Int) (xs : List Int) : Int := if frB n xs then rtTo xs xs.length else 0
theorem rt_ok {n : Int} {xs : List Int} (h : frB n xs = true) : Ending.returned (.tuple #[.int .i64 (rtTo xs xs.length), .int .i64 0]) = .returned (.tuple #[.int .i64 (rtV n xs), .int .i64 (rtC n xs)]) := by rw [rtV, rtC, h]; rfl
theorem rt_bad {n : Int} {xs : List Int} (h : frB n xs = false) : Ending.returned (.tuple #[.int .i64 0, .int .i64 1]) = .returned (.tuple #[.int .i64 (rtV n xs), .int .i64 (rtC n xs)]) := by rw [rtV, rtC, h]; rfl

end Go.Proofs.Ytbaeacppojpplaa
