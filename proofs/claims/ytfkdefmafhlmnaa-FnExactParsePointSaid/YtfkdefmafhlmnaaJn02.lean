/- 2 texts in one: PrM, PmM. -/
import Derived.Test.YtfkdefmafhlmnaaPrB
import Derived.Test.YtfkdefmafhlmnaaPoM
import Derived.Test.YtfkdefmafhlmnaaPtA
/- The program's reader of point formulas as a function: what it makes of a text; of the text of a formula it makes this formula. Conditions: those in the theorems. -/
namespace Go.Proofs.Ytfkdefmafhlmnaa
open Go.RowKit

/-- The letters of quantifiers, of links, of variables. -/
def qtL : List UInt8 := [65, 69]
def lkL : List UInt8 := [38, 124, 62]
def vaB : List UInt8 := [112, 113, 114, 115, 116, 117]
/-- The list with another kind at a place. -/
def kdS (ls : List Pd) (j : Nat) (k : Int) : List Pd := ls.set j (k, fp ls j, tp ls j)
def rd : Nat → List UInt8 → List Pd → List UInt8 × List Pd
  | 0, s, ls => (s, ls)
  | n + 1, s, ls =>
    if 120 < ls.length then (s, ls)
    else if hdN s = 82 then (s.tail.tail.tail, ls ++ [(0, ptN s.tail, ptN s.tail.tail)])
    else if hdN s = 70 then (s.tail, ls ++ [(3, 0, 0)])
    else if hdN s = 65 ∨ hdN s = 69 then rd n s.tail.tail (ls ++ [(7 + ixB qtL (hdN s), ptN s.tail, 0)])
    else if hdN s = 126 then ((rd n s.tail (ls ++ [(6, 0, 0)])).1, (rd n s.tail (ls ++ [(6, 0, 0)])).2 ++ [(3, 0, 0)])
    else if hdN s = 40 then
      ((rd n (rd n s.tail (ls ++ [(0, 0, 0)])).1.tail (kdS (rd n s.tail (ls ++ [(0, 0, 0)])).2 ls.length (4 + ixB lkL (hdN (rd n s.tail (ls ++ [(0, 0, 0)])).1)))).1.tail,
       (rd n (rd n s.tail (ls ++ [(0, 0, 0)])).1.tail (kdS (rd n s.tail (ls ++ [(0, 0, 0)])).2 ls.length (4 + ixB lkL (hdN (rd n s.tail (ls ++ [(0, 0, 0)])).1)))).2)
    else if 0 ≤ ixB vaB (hdN s) then (s.tail.tail, ls ++ [(2, ixB vaB (hdN s), ptN s.tail)])
    else (s.tail.tail.tail, ls ++ [(1, (hdN s : Int) - 48, ptN s.tail.tail)])
theorem kdS_len (ls : List Pd) (j : Nat) (k : Int) : (kdS ls j k).length = ls.length := by simp [kdS]
theorem rd_ge : ∀ (n : Nat) (s : List UInt8) (ls : List Pd), ls.length ≤ (rd n s ls).2.length
  | 0, s, ls => Nat.le_refl _
  | n + 1, s, ls => by
    rw [rd]
    split
    · exact Nat.le_refl _
    split
    · simp
    split
    · simp
    split
    · refine Nat.le_trans ?_ (rd_ge n _ _); simp
    split
    · have := rd_ge n s.tail (ls ++ [(6, 0, 0)])
      simp at this ⊢; omega
    split
    · have h1 := rd_ge n s.tail (ls ++ [(0, 0, 0)])
      refine Nat.le_trans ?_ (rd_ge n _ _)
      rw [kdS_len]; simp at h1; omega
    split <;> simp
theorem rd_le : ∀ (n : Nat) (s : List UInt8) (ls : List Pd), (rd n s ls).2.length ≤ max ls.length (121 + n)
  | 0, s, ls => by simp only [rd]; omega
  | n + 1, s, ls => by
    rw [rd]
    split
    · show ls.length ≤ _; omega
    split
    · simp; omega
    split
    · simp; omega
    split
    · have := rd_le n s.tail.tail (ls ++ [(7 + ixB qtL (hdN s), ptN s.tail, 0)])
      simp at this; omega
    split
    · have := rd_le n s.tail (ls ++ [(6, 0, 0)])
      simp at this ⊢; omega
    split
    · have h1 := rd_le n s.tail (ls ++ [(0, 0, 0)])
      have h2 := rd_le n (rd n s.tail (ls ++ [(0, 0, 0)])).1.tail (kdS (rd n s.tail (ls ++ [(0, 0, 0)])).2 ls.length (4 + ixB lkL (hdN (rd n s.tail (ls ++ [(0, 0, 0)])).1)))
      rw [kdS_len] at h2
      simp at h1
      refine Nat.le_trans h2 ?_
      omega
    split <;> (simp; omega)
theorem rd_len : ∀ (n : Nat) (s : List UInt8) (ls : List Pd), (rd n s ls).1.length ≤ s.length
  | 0, s, ls => Nat.le_refl _
  | n + 1, s, ls => by
    rw [rd]
    split
    · exact Nat.le_refl _
    split
    · simp; omega
    split
    · simp
    split
    · have := rd_len n s.tail.tail (ls ++ [(7 + ixB qtL (hdN s), ptN s.tail, 0)])
      simp at this; omega
    split
    · have := rd_len n s.tail (ls ++ [(6, 0, 0)])
      simp at this ⊢; omega
    split
    · have h1 := rd_len n s.tail (ls ++ [(0, 0, 0)])
      have h2 := rd_len n (rd n s.tail (ls ++ [(0, 0, 0)])).1.tail (kdS (rd n s.tail (ls ++ [(0, 0, 0)])).2 ls.length (4 + ixB lkL (hdN (rd n s.tail (ls ++ [(0, 0, 0)])).1)))
      simp at h1 h2 ⊢
      omega
    split <;> (simp; omega)

end Go.Proofs.Ytfkdefmafhlmnaa

/- The model's reader of point formulas as a function. Conditions: those in the theorems. -/
namespace Go.Proofs.Ytfkdefmafhlmnaa
open Go.RowKit

/-- A text begins with a digit; the point that it tells. -/
def dgB (s : List UInt8) : Bool := decide (48 ≤ hdN s) && decide (hdN s ≤ 57)
def dvN (s : List UInt8) : Int := if dgB s then (hdN s : Int) - 48 else 0
/-- A sign of a link. -/
def sgB (c : Nat) : Bool := c == 38 || c == 124 || c == 62
def sgK (c : Nat) : Int := if c = 38 then 4 else if c = 124 then 5 else 6
/-- What is left of the text, whether it has failed, and the list. -/
def mr : Nat → List UInt8 → Bool → List UInt8 × Bool × List Pd
  | 0, s, fl => (s, fl, [(3, 0, 0)])
  | n + 1, s, fl =>
    if (fl || s.isEmpty) = true then (s.tail, true, [(3, 0, 0)])
    else if hdN s = 82 then (s.tail.tail.tail, !(dgB s.tail && dgB s.tail.tail), [(0, dvN s.tail, dvN s.tail.tail)])
    else if hdN s = 70 then (s.tail, false, [(3, 0, 0)])
    else if hdN s = 126 then ((mr n s.tail false).1, (mr n s.tail false).2.1, (6, 0, 0) :: ((mr n s.tail false).2.2 ++ [(3, 0, 0)]))
    else if hdN s = 65 ∨ hdN s = 69 then ((mr n s.tail.tail (!dgB s.tail)).1, (mr n s.tail.tail (!dgB s.tail)).2.1, ((if hdN s = 65 then 7 else 8), dvN s.tail, 0) :: (mr n s.tail.tail (!dgB s.tail)).2.2)
    else if 112 ≤ hdN s ∧ hdN s ≤ 117 then (s.tail.tail, !dgB s.tail, [(2, (hdN s : Int) - 112, dvN s.tail)])
    else if 48 ≤ hdN s ∧ hdN s ≤ 57 then (s.tail.tail.tail, !(decide (hdN s.tail = 61) && dgB s.tail.tail), [(1, (hdN s : Int) - 48, dvN s.tail.tail)])
    else if hdN s = 40 then
      let a := mr n s.tail false
      let b := mr n a.1.tail (a.2.1 || a.1.isEmpty)
      (b.1.tail, (b.2.1 || b.1.isEmpty) || !(decide (hdN b.1 = 41) && sgB (hdN a.1)), (sgK (hdN a.1), 0, 0) :: (a.2.2 ++ b.2.2))
    else (s.tail, true, [(3, 0, 0)])
theorem mr_len : ∀ (n : Nat) (s : List UInt8) (fl : Bool), 1 ≤ (mr n s fl).2.2.length ∧ (mr n s fl).2.2.length + 2 * (mr n s fl).1.length ≤ 2 * s.length + 1
  | 0, s, fl => by simp [mr]; omega
  | n + 1, s, fl => by
    rw [mr]
    split
    · simp; omega
    rename_i hne
    have hs : 0 < s.length := by
      cases s with
      | nil => simp at hne
      | cons c s => simp
    split
    · simp; omega
    split
    · simp; omega
    split
    · have := mr_len n s.tail false
      simp at this ⊢; omega
    split
    · have := mr_len n s.tail.tail (!dgB s.tail)
      simp at this ⊢; omega
    split
    · simp; omega
    split
    · simp; omega
    split
    · have h1 := mr_len n s.tail false
      have h2 := mr_len n (mr n s.tail false).1.tail ((mr n s.tail false).2.1 || (mr n s.tail false).1.isEmpty)
      simp at h1 h2 ⊢; omega
    · simp; omega

end Go.Proofs.Ytfkdefmafhlmnaa
