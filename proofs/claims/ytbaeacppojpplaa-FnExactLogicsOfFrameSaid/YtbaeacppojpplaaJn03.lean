/- 2 texts in one: Rts, FlF. -/
import Derived.Test.YtbaeacppojpplaaJn01
import Derived.Test.YtbaeacppojpplaaFlA
import Derived.Test.YtbaeacppojpplaaFlB
import Derived.Test.YtbaeacppojpplaaFlC
import Derived.Test.YtbaeacppojpplaaFlD
/- Contracts of RootsOf, of the model and of the program. Conditions: those in the theorems. -/
namespace Go.Proofs.Ytbaeacppojpplaa
open Go.RowKit

def rtTo (xs : List Int) : Nat → Int
  | 0 => 0
  | k + 1 => if nth (rcL xs) k = full xs.length then bits .or .i64 (rtTo xs k) (one k) else rtTo xs k
theorem pop_full (n : Nat) : ∀ m, m < 2 ^ n → pop m ≤ n ∧ (pop m = n ↔ m + 1 = 2 ^ n) := by
  induction n with
  | zero => intro m hm; have : m = 0 := by simpa using hm
            subst this; simp [pop_zero]
  | succ n ih =>
    intro m hm
    have hs := pop_step m
    rw [Nat.pow_succ] at hm ⊢
    obtain ⟨a, b⟩ := ih (m / 2) (by omega)
    refine ⟨by omega, ⟨fun h => ?_, fun h => ?_⟩⟩
    · have := b.1 (by omega); omega
    · have := b.2 (by omega); omega
theorem pop_is_full {n c : Nat} (hn : n ≤ 30) (h : InMk n (c : Int)) : ((pop c : Nat) : Int) = n ↔ (c : Int) = full n := by
  have h1 := h.nat
  rw [Int.toNat_natCast] at h1
  have h2 := (pop_full n c h1).2
  rw [full_eq _ (by omega) (by omega), Int.toNat_natCast]
  have e : ((2 : Int) ^ n) = ((2 ^ n : Nat) : Int) := by simp
  rw [e]
  constructor
  · intro h3; have := h2.1 (by omega); omega
  · intro h3; have := h2.2 (by omega); omega

def rtC (n : Int) (xs : List Int) : Int := if frB n xs then 0 else 1
def rtV (n : Int) (xs : List Int) : Int := if frB n xs then rtTo xs xs.length else 0
theorem rt_ok {n : Int} {xs : List Int} (h : frB n xs = true) : Ending.returned (.tuple #[.int .i64 (rtTo xs xs.length), .int .i64 0]) = .returned (.tuple #[.int .i64 (rtV n xs), .int .i64 (rtC n xs)]) := by rw [rtV, rtC, h]; rfl
theorem rt_bad {n : Int} {xs : List Int} (h : frB n xs = false) : Ending.returned (.tuple #[.int .i64 0, .int .i64 1]) = .returned (.tuple #[.int .i64 (rtV n xs), .int .i64 (rtC n xs)]) := by rw [rtV, rtC, h]; rfl

end Go.Proofs.Ytbaeacppojpplaa

/- Contracts of the model's list of flags and of FrameFlags of the model. Conditions: those in the theorems. -/
namespace Go.Proofs.Ytbaeacppojpplaa
open Go.RowKit

theorem flag_any (f : Nat) (hf : f ≤ 10) (xs : List Int) (a : Option Addr) (cap : Nat) (w : World) (h8 : xs.length ≤ 8) (hr : Rel xs.length (nth xs)) (h : At w a xs.length xs) :
    Calls Try.prog 58 #[.agg #[.int .i64 xs.length, .slice a xs.length cap], .int .i64 f] w fun e w' => e = .returned (.bool (flB f xs)) ∧ Below w.heap.size w w' :=
  match f, hf with
  | 0, _ => flag0_any xs a cap w h8 hr h
  | 1, _ => flag1_any xs a cap w h8 hr h
  | 2, _ => flag2_any xs a cap w h8 hr h
  | 3, _ => flag3_any xs a cap w h8 hr h
  | 4, _ => flag4_any xs a cap w h8 hr h
  | 5, _ => flag5_any xs a cap w h8 hr h
  | 6, _ => flag6_any xs a cap w h8 hr h
  | 7, _ => flag7_any xs a cap w h8 hr h
  | 8, _ => flag8_any xs a cap w h8 hr h
  | 9, _ => flag9_any xs a cap w h8 hr h
  | 10, _ => flag10_any xs a cap w h8 hr h
  | n + 11, h => absurd h (by omega)

def flL (xs : List Int) : Nat → List Int
  | 0 => []
  | k + 1 => flL xs k ++ [if flB k xs then 1 else 0]
theorem flL_len (xs : List Int) (k : Nat) : (flL xs k).length = k := by induction k with | zero => rfl | succ k ih => simp [flL, ih]
theorem own_app {w : World} {B : Nat} {v : Value} {L M : List Int} {z : Int} (hL : M = L ++ [z]) (h : w.ownsRow B 2 1 v (L.length + 1) (L.map (Value.int .i64) ++ [.int .i64 z])) : Own w B v M := by
  subst hL
  unfold Own
  rw [List.map_append, List.length_append]
  exact h

theorem ff_ok {n : Int} {xs : List Int} (h : frB n xs = true) : rtC n xs = 0 := by rw [rtC, h]; rfl
theorem ff_bad {n : Int} {xs : List Int} (h : frB n xs = false) : rtC n xs = 1 := by rw [rtC, h]; rfl

end Go.Proofs.Ytbaeacppojpplaa
