/- Lists of lists that came in stay when blocks beside theirs turn. Conditions: those in the theorems. -/
import Derived.Test.YtbhgedabcclimaaListN
namespace Go.Proofs.Ytbhgedabcclimaa
open Go.RowKit

theorem InNN.within {w w' : World} {lo hi lo' hi' : Nat} {v : Value} {xss : List (List Nd)} (h : InNN w lo hi v xss) (hw : Within lo' hi' w w') (hd : hi ≤ lo' ∨ hi' ≤ lo) : InNN w' lo hi v xss := by
  obtain ⟨vs, p, h1, h2, h3, h4, h5, h6⟩ := h
  have pm : ∀ i j, i ≤ j → j ≤ xss.length → p i ≤ p j := fun i j => mono_to (fun j hj => (h4 j hj).1)
  have p0 := pm 0 xss.length (by omega) (by omega)
  refine ⟨vs, p, row_within h1 (hi := hi) (fun k hk => ⟨(h2 k hk).1, by have := (h2 k hk).2; omega⟩) hw hd, h2, h3, fun j hj => ⟨(h4 j hj).1, (h4 j hj).2.within hw ?_⟩, h5, Nat.le_trans h6 hw.size⟩
  have a1 := pm 0 j (by omega) (by omega)
  have a2 := pm (j + 1) xss.length (by omega) (by omega)
  omega
theorem InNN.other {w w' : World} {lo hi lo' hi' : Nat} {v u : Value} {xss : List (List Nd)} (h : InNN w lo hi v xss) (hu : ∀ k, u.ownBlock = some k → lo' ≤ k ∧ k < hi') (hg : w.grownBy w' u.ownBlock) (hd : hi ≤ lo' ∨ hi' ≤ lo) : InNN w' lo hi v xss :=
  h.within ((Within.refl lo' hi' w).grown hg hu) hd

end Go.Proofs.Ytbhgedabcclimaa
