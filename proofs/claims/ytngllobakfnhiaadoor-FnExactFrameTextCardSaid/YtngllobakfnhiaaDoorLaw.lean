/- What the laws over results that are lists of int64 need: owned slices told by values, and the contracts of compare, mark and held over them. Conditions: those in the theorems. -/
import Derived.Test.YtngllobakfnhiaaDoorBox
namespace Go.Proofs.YtngllobakfnhiaaDoor
open Go.RowKit

/-- The slice value v is the call's own, its block lies in lo .. hi - 1, and it holds xs. -/
def OwnIn (w : World) (lo hi : Nat) (v : Value) (xs : List Int) : Prop := Own w lo v xs ∧ hi ≤ w.heap.size ∧ ∀ k, v.ownBlock = some k → lo ≤ k ∧ k < hi

theorem Own.inn {w : World} {lo : Nat} {v : Value} {xs : List Int} (h : Own w lo v xs) : OwnIn w lo w.heap.size v xs := ⟨h, Nat.le_refl _, World.ownsRow.lt h⟩
theorem OwnIn.below {w w' : World} {lo hi C : Nat} {v : Value} {xs : List Int} (h : OwnIn w lo hi v xs) (hb : Below C w w') (hC : hi ≤ C) : OwnIn w' lo hi v xs := by
  refine ⟨⟨h.1.1, ?_⟩, Nat.le_trans h.2.1 hb.size, h.2.2⟩
  rcases h.1.2 with h2 | ⟨g, cap, cur, hv, hg, hh, r⟩
  · exact .inl h2
  · have hlt := (h.2.2 g (by rw [hv]; rfl)).2
    exact .inr ⟨g, cap, cur, hv, hg, by rw [hb.block g (by omega)]; exact hh, r⟩
theorem OwnIn.drewN {w : World} {lo hi : Nat} {v : Value} {xs : List Int} (h : OwnIn w lo hi v xs) (q : Nat) : OwnIn (w.drewN q) lo hi v xs := h.below (below_drewN (Below.refl hi w) q) (Nat.le_refl _)
theorem OwnIn.other {w w' : World} {lo hi lo' hi' : Nat} {v u : Value} {xs ys : List Int} (h : OwnIn w lo hi v xs) (hu : OwnIn w lo' hi' u ys) (hg : w.grownBy w' u.ownBlock) (hd : hi ≤ lo' ∨ hi' ≤ lo) : OwnIn w' lo hi v xs := by
  refine ⟨World.ownsRow.kept h.1 hg ?_, Nat.le_trans h.2.1 hg.size, h.2.2⟩
  cases hv : v.ownBlock with
  | none => exact .inl rfl
  | some k =>
    right
    intro e
    have h1 := h.2.2 k hv
    have h2 := hu.2.2 k e.symm
    omega

theorem eq_own (xs : List Int) (v v' : Value) (lo hi lo' hi' : Nat) (w : World) (hl : xs.length ≤ 1048576) (h : OwnIn w lo hi v xs) (h' : OwnIn w lo' hi' v' xs) :
    Calls Tryd.prog 15 #[v, v'] w (SomeDrew w fun e => e = .returned (.bool true)) := by
  obtain ⟨a, cap, rfl, hat, -, -, -⟩ := h.1.at
  obtain ⟨a', cap', rfl, hat', -, -, -⟩ := h'.1.at
  exact eqInt64S_any xs a a' xs.length cap cap' w hl hat hat'

end Go.Proofs.YtngllobakfnhiaaDoor
