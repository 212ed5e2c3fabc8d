/- Contracts of the model's list of flags and of FrameFlags of the model. Conditions: those in the theorems. -/
import Derived.Test.YtckilaeolkgnkaaFlA
import Derived.Test.YtckilaeolkgnkaaFlB
import Derived.Test.YtckilaeolkgnkaaFlC
import Derived.Test.YtckilaeolkgnkaaFlD
import Derived.Test.YtckilaeolkgnkaaRts
namespace Go.Proofs.Ytckilaeolkgnkaa
open Go.RowKit

def flL (xs : List Int) : Nat → List Int
  | 0 => []
  | k + 1 => flL xs k ++ [if flB k xs then 1 else 0]
theorem flL_len (xs : List Int) (k : Nat) : (flL xs k).length = k := by induction k with | zero => rfl | succ k ih => simp [flL, ih]
theorem own_app {w : World} {B : Nat} {v : Value} {L M : List Int} {z : Int} (hL : M = L ++ [z]) (h : w.ownsRow B 2 1 v (L.length + 1) (L.map (Value.int .i64) ++ [.int .i64 z])) : Own w B v M := by
  subst hL
  unfold Own
  rw [List.map_append, List.length_append]
  exact h

theorem ff_ok {n : Int} {xs : List Int} (h : frB n xs = true) : rtC n xs = 0 := by rw [rtC, h]; rfl
theorem ff_bad {n : Int} {xs : List Int} (h : frB n xs = false) : rtC n xs = 1 := by rw [rtC, h]; rfl

end Go.Proofs.Ytckilaeolkgnkaa
