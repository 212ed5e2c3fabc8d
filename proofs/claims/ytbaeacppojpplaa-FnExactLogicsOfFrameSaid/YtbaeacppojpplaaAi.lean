/- What the model answers on axioms and logics of a frame. Conditions: those in the theorems. -/
import Derived.Test.YtbaeacppojpplaaAh2
import Derived.Test.YtbaeacppojpplaaAw9
namespace Go.Proofs.Ytbaeacppojpplaa
open Go.RowKit

theorem l09Holds_any (i : Nat) (hi : i < 13) (s : ByteArray) (hs : s = stx (nthS nmA i)) (xs : List Int) (a : Option Addr) (cap : Nat) (w : World) (h8 : xs.length ≤ 8) (hr : Rel xs.length (nth xs)) (h : At w a xs.length xs) :
    Calls Try.prog 35 #[.agg #[.int .i64 xs.length, .slice a xs.length cap], .string s] w fun e w' => e = .returned (.bool (axB i xs)) ∧ Below w.heap.size w w' := by
  have hh : i = 0 ∨ i = 1 ∨ i = 2 ∨ i = 3 ∨ i = 4 ∨ i = 5 ∨ i = 6 ∨ i = 7 ∨ i = 8 ∨ i = 9 ∨ i = 10 ∨ i = 11 ∨ i = 12 := by omega
  subst hs
  rcases hh with rfl | rfl | rfl | rfl | rfl | rfl | rfl | rfl | rfl | rfl | rfl | rfl | rfl
  · exact l09Holds_0 xs a cap w h8 hr h
  · exact l09Holds_1 xs a cap w h8 hr h
  · exact l09Holds_2 xs a cap w h8 hr h
  · exact l09Holds_3 xs a cap w h8 hr h
  · exact l09Holds_4 xs a cap w h8 hr h
  · exact l09Holds_5 xs a cap w h8 hr h
  · exact l09Holds_6 xs a cap w h8 hr h
  · exact l09Holds_7 xs a cap w h8 hr h
  · exact l09Holds_8 xs a cap w h8 hr h
  · exact l09Holds_9 xs a cap w h8 hr h
  · exact l09Holds_10 xs a cap w h8 hr h
  · exact l09Holds_11 xs a cap w h8 hr h
  · exact l09Holds_12 xs a cap w h8 hr h

theorem areA_lax (j : Nat) (hj : j < 16) : AreA (lax j) := by
  intro t ht
  have h3 := lax_len j
  have : ∀ j, j < 16 → ∀ t, t < 3 → t < (lax j).length → fdV nmA (stx (nthS (lax j) t)) = (axi (nthS (lax j) t) : Int) ∧ axi (nthS (lax j) t) < 13 := by decide
  exact this j hj t (by omega) ht

end Go.Proofs.Ytbaeacppojpplaa
