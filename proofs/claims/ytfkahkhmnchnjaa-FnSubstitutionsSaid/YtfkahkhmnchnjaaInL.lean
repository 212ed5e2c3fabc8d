/- Lists of lists of nodes that a call owns: compare, mark and held over them. Conditions: those in the theorems. -/
import Derived.Test.YtfkahkhmnchnjaaOwnL
import Derived.Test.YtfkahkhmnchnjaaNNo
namespace Go.Proofs.Ytfkahkhmnchnjaa
open Go.RowKit

/-- The slice value v is the call's own, its blocks lie in lo .. hi - 1, no two of its lists share one, and it holds the lists xss. -/
def InL (w : World) (lo hi : Nat) (v : Value) (xss : List (List Nd)) : Prop :=
  ∃ us : List Value, w.ownsRow lo 24 1 v xss.length us ∧ (∀ j, j < xss.length → OwnN w lo (atV us j) (nthL xss j)) ∧
    (∀ i j, i < j → j < xss.length → ∀ k, (atV us i).ownBlock = some k → (atV us j).ownBlock ≠ some k) ∧ hi ≤ w.heap.size ∧
    (∀ k, v.ownBlock = some k → k < hi) ∧ ∀ j, j < xss.length → ∀ k, (atV us j).ownBlock = some k → k < hi
theorem OwnL.inl {w : World} {lo : Nat} {v : Value} {xss : List (List Nd)} (h : OwnL w lo v xss) : InL w lo w.heap.size v xss := by
  obtain ⟨us, h1, h2, h3⟩ := h
  exact ⟨us, h1, h2, h3, Nat.le_refl _, row_lt h1, fun j hj => row_lt (h2 j hj)⟩
theorem InL.hi {w : World} {lo hi : Nat} {v : Value} {xss : List (List Nd)} (h : InL w lo hi v xss) : hi ≤ w.heap.size := by
  obtain ⟨us, h1, h2, h3, h4, h5, h6⟩ := h
  exact h4
theorem InL.below {w w' : World} {lo hi C : Nat} {v : Value} {xss : List (List Nd)} (h : InL w lo hi v xss) (hb : Below C w w') (hC : hi ≤ C) : InL w' lo hi v xss := by
  obtain ⟨us, h1, h2, h3, h4, h5, h6⟩ := h
  exact ⟨us, ownsRow_below h1 (fun k hk => Nat.lt_of_lt_of_le (h5 k hk) hC) hb, fun j hj => ownsRow_below (h2 j hj) (fun k hk => Nat.lt_of_lt_of_le (h6 j hj k hk) hC) hb, h3, Nat.le_trans h4 hb.size, h5, h6⟩
theorem InL.within {w w' : World} {lo hi lo' hi' : Nat} {v : Value} {xss : List (List Nd)} (h : InL w lo hi v xss) (hw : Within lo' hi' w w') (hd : hi ≤ lo' ∨ hi' ≤ lo) : InL w' lo hi v xss := by
  obtain ⟨us, h1, h2, h3, h4, h5, h6⟩ := h
  exact ⟨us, row_within h1 (fun k hk => ⟨(row_type h1 k hk).1, h5 k hk⟩) hw hd, fun j hj => row_within (h2 j hj) (fun k hk => ⟨(row_type (h2 j hj) k hk).1, h6 j hj k hk⟩) hw hd, h3, Nat.le_trans h4 hw.size, h5, h6⟩
theorem InL.other {w w' : World} {lo hi lo' hi' : Nat} {v u : Value} {xss : List (List Nd)} (h : InL w lo hi v xss) (hu : ∀ k, u.ownBlock = some k → lo' ≤ k ∧ k < hi') (hg : w.grownBy w' u.ownBlock) (hd : hi ≤ lo' ∨ hi' ≤ lo) : InL w' lo hi v xss :=
  h.within ((Within.refl lo' hi' w).grown hg hu) hd
theorem InL.ownL {w : World} {lo hi : Nat} {v : Value} {xss : List (List Nd)} (h : InL w lo hi v xss) : OwnL w lo v xss := by
  obtain ⟨us, h1, h2, h3, -⟩ := h
  exact ⟨us, h1, h2, h3⟩
theorem InL.at {w : World} {lo hi : Nat} {v : Value} {xss : List (List Nd)} (h : InL w lo hi v xss) : ∃ a cap, v = .slice a xss.length cap ∧ AtNN w a xss.length xss := h.ownL.at

/-- The j-th list, marked. -/
def mkA (n : Int) (xss : List (List Nd)) (j : Nat) : List Nd := mkN (n + 2 * (szTo xss j : Int)) (nthL xss j).length
def mkNN (n : Int) (xss : List (List Nd)) : List (List Nd) := (List.range xss.length).map (mkA n xss)
theorem mkNN_len (n : Int) (xss : List (List Nd)) : (mkNN n xss).length = xss.length := by simp [mkNN]
theorem mkNN_at {n : Int} {xss : List (List Nd)} {j : Nat} (h : j < xss.length) : nthL (mkNN n xss) j = mkA n xss j := by
  unfold nthL mkNN
  simp [List.getD_eq_getElem?_getD, h]
theorem mkA_len (n : Int) (xss : List (List Nd)) (j : Nat) : (mkA n xss j).length = (nthL xss j).length := mkN_len _ _

end Go.Proofs.Ytfkahkhmnchnjaa
