/- A model's parts at their places. Conditions: those in the theorems. -/
import Derived.Test.YtomldealpmohhaaIsMo
import Derived.Test.YtomldealpmohhaaRm
namespace Go.Proofs.Ytomldealpmohhaa
open Go.RowKit

/-- A model's parts at their places. -/
def Mo (w : World) (n : Int) (a : Option Addr) (a' : Option Addr) (xs ys : List Int) : Prop := n = xs.length ∧ xs.length ≤ 8 ∧ (mksTo xs.length xs xs.length = true ∧ mksTo xs.length ys ys.length = true) ∧ ys.length = 6 ∧ At w a xs.length xs ∧ At w a' ys.length ys
theorem Mo.keep {w w' : World} {n : Int} {a a' : Option Addr} {xs ys : List Int} (h : Mo w n a a' xs ys) (hb : Below w.heap.size w w') : Mo w' n a a' xs ys := ⟨h.1, h.2.1, h.2.2.1, h.2.2.2.1, h.2.2.2.2.1.keep hb (Nat.le_refl _), h.2.2.2.2.2.keep hb (Nat.le_refl _)⟩
theorem Mo.drw {w : World} {n : Int} {a a' : Option Addr} {xs ys : List Int} (h : Mo w n a a' xs ys) : Mo w.drew n a a' xs ys := h
theorem Mo.of {w : World} {n : Int} {xs ys : List Int} {a a' : Option Addr} (h : isM n xs ys = true) (h1 : At w a xs.length xs) (h2 : At w a' ys.length ys) : Mo w n a a' xs ys := by
  obtain ⟨-, e1, e2, e3, e4, e5⟩ := isM_ok h
  exact ⟨e1, e2, ⟨e3, e5⟩, e4, h1, h2⟩

theorem isM_rel {n : Int} {xs ys : List Int} (h : isM n xs ys = true) : n = xs.length ∧ xs.length ≤ 8 ∧ Rel xs.length (nth xs) ∧ ∀ i, InMk xs.length (nth ys i) := by
  obtain ⟨h1, h2, h3, h4, h5, h6⟩ := isM_ok h
  refine ⟨h2, h3, (frB_ok h1).2.2.2, fun i => ?_⟩
  by_cases hi : i < ys.length
  · exact (mksTo_iff (by omega) ys ys.length).1 h6 i hi
  · rw [nth_high (by omega)]; exact InMk.zero _

end Go.Proofs.Ytomldealpmohhaa
