/- Contracts of slices.Equal at nodes, and of OccurrencesOf of the model and of the program, at every argument. Conditions: those in the theorems. -/
import Derived.Test.YtfpnmeacnhcakaaDoorNPol
import Derived.Laws.StructEq
namespace Go.Proofs.YtfpnmeacnhcakaaDoor
open Go.RowKit

theorem Own.snoc {w : World} {B : Nat} {v : Value} {xs : List Int} {z : Int} (h : w.ownsRow B 2 1 v (xs.length + 1) (xs.map (Value.int .i64) ++ [.int .i64 z])) : Own w B v (xs ++ [z]) := by
  unfold Own
  rw [List.length_append, List.map_append]
  exact h
def ocB (xs ys : List Nd) (k : Nat) : Bool := decide ((xs.drop k).take ((pe xs (xs.length - k) 1 k).toNat - k) = ys)
def ocTo (xs ys : List Nd) : Nat → List Int
  | 0 => []
  | k + 1 => if ocB xs ys k then ocTo xs ys k ++ [(k : Int)] else ocTo xs ys k
theorem ocTo_len (xs ys : List Nd) (k : Nat) : (ocTo xs ys k).length ≤ k := by
  induction k with
  | zero => exact Nat.le_refl _
  | succ k ih =>
    rw [ocTo]
    split
    · simp; omega
    · omega
def ocR (xs ys : List Nd) : List Int := if isB xs xs.length && isB ys ys.length then ocTo xs ys xs.length else []
def ocC (xs ys : List Nd) : Int := if isB xs xs.length && isB ys ys.length then 0 else 1
theorem OccurrencesOf_len (xs ys : List Nd) : (ocR xs ys).length ≤ 1048576 := by
  rw [ocR]
  split
  · rename_i h
    have h1 : isB xs xs.length = true := by simp at h; exact h.1
    have := is_pos' h1
    have := ocTo_len xs ys xs.length
    omega
  · simp
theorem oc_bad {xs ys : List Nd} (h : (isB xs xs.length && isB ys ys.length) = false) : ocR xs ys = [] ∧ ocC xs ys = 1 := by simp only [ocR, ocC, h]; exact ⟨rfl, rfl⟩
theorem oc_good {xs ys : List Nd} (h : (isB xs xs.length && isB ys ys.length) = true) : ocR xs ys = ocTo xs ys xs.length ∧ ocC xs ys = 0 := by simp only [ocR, ocC, h]; exact ⟨rfl, rfl⟩
theorem ownI_none (w : World) (B : Nat) : Own w B (.slice none 0 0) [] := World.ownsRow_nil w B 2 1

end Go.Proofs.YtfpnmeacnhcakaaDoor
