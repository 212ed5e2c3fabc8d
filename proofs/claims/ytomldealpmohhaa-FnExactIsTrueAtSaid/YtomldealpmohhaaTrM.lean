/- Facts of masks: and, and not; the truth set of a formula in a model is a set of its worlds. Conditions: those in the theorems. -/
import Derived.Test.YtomldealpmohhaaTr
import Derived.Test.YtomldealpmohhaaMsk
import Derived.Test.YtomldealpmohhaaJn01
import Derived.Test.YtomldealpmohhaaRm
namespace Go.Proofs.Ytomldealpmohhaa
open Go.RowKit

/-- The truth set is a set of worlds. -/
theorem tr_in {xs ys : List Int} (hn : xs.length ≤ 30) (hr : Rel xs.length (nth xs)) (hy : ∀ i, InMk xs.length (nth ys i)) (f : Fm) : InMk xs.length (f.tr xs ys) := by
  have hF := InMk.full hn
  induction f with
  | va s => exact hy _
  | fa => exact InMk.zero _
  | un k a ih =>
    rw [Fm.tr]
    split
    · exact (boxTo_T hn hr (ih.bd hn) _ (Nat.le_refl _)).1
    · exact hF.not hn (boxTo_T hn hr ((hF.not hn ih).bd hn) _ (Nat.le_refl _)).1
  | bi k a b iha ihb =>
    rw [Fm.tr]
    split
    · exact iha.an hn ihb
    · split
      · exact iha.or hn ihb
      · exact (hF.not hn iha).or hn ihb
theorem full_iff {n : Nat} (hn : n ≤ 30) {x : Int} (hx : InMk n x) : (x == full n) = (bits .andNot .i64 (full n) x == 0) := by
  rw [Bool.eq_iff_iff, beq_iff_eq, beq_iff_eq, andNot_zero hn (InMk.full hn) hx]
  constructor
  · rintro rfl i h; exact h
  · intro h
    refine T_ext hx (InMk.full hn) fun i => ?_
    cases hi : T (full n) i
    · rw [T_full hn] at hi
      exact T_high hx (by simpa using hi)
    · exact h i hi

end Go.Proofs.Ytomldealpmohhaa
