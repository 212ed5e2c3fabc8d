/- Contracts of the model's list of flags and of FrameFlags of the model. Conditions: those in the theorems. -/
import Derived.Test.YtbaeacppojpplaaFlA
import Derived.Test.YtbaeacppojpplaaFlB
import Derived.Test.YtbaeacppojpplaaFlC
import Derived.Test.YtbaeacppojpplaaFlD
import Derived.Test.YtbaeacppojpplaaRts
namespace Go.Proofs.Ytbaeacppojpplaa
open Go.RowKit

theorem flag_any (f : Nat) (hf : f ≤ 10) (xs : List Int) (a : Option Addr) (cap : Nat) (w : World) (h8 : xs.length ≤ 8) (hr : Rel xs.length (nth xs)) (h : At w a xs.length xs) :
    Calls Try.prog 58 #[.agg #[.int .i64 xs.length, .slice a xs.length cap], .int .i64 f] w fun e w' => e = .returned (.bool (flB f xs)) ∧ Below w.heap.size w w' :=
  match f, hf with
  | 0, _ => flag0_any xs a cap w h8 hr h
  | 1, _ => flag1_any xs a cap w h8 hr h
  | 2, _ => flag2_any xs a cap w h8 hr h
  | 3, _ => flag3_any xs a cap w h8 hr h
  | 4, _ => flag4_any xs a cap w h8 hr h
  | 5, _ => flag5_any xs a cap w h8 hr h
  | 6, _ => flag6_any xs a cap w h8 hr h
  | 7, _ => flag7_any xs a cap w h8 hr h
  | 8, _ => flag8_any xs a cap w h8 hr h
  | 9, _ => flag9_any xs a cap w h8 hr h
  | 10, _ => flag10_any xs a cap w h8 hr h
  | n + 11, h => absurd h (by omega)

def flL (xs : List Int) : Nat → List Int
  | 0 => []
  | k + 1 => flL xs k ++ [if flB k xs then 1 else 0]
theorem flL_len (xs : List Int) (k : Nat) : (flL xs k).length = k := by induction k with | zero => rfl | succ k ih => simp [flL, ih]
theorem own_app {w : World} {B : Nat} {v : Value} {L M : List Int} {z : Int} (hL : M = L ++ [z]) (h : w.ownsRow B 2 1 v (L.length + 1) (L.map (Value.int .i64) ++ [.int .i64 z])) : Own w B v M := by
  subst hL
  unfold Own
  rw [List.map_append, List.length_append]
  exact h

theorem ff_ok {n : Int} {xs : List Int} (h : frB n xs = true) : rtC n xs = 0 := by rw [rtC, h]; rfl
theorem ff_bad {n : Int} {xs : List Int} (h : frB n xs = false) : rtC n xs = 1 := by rw [rtC, h]; rfl

end Go.Proofs.Ytbaeacppojpplaa
