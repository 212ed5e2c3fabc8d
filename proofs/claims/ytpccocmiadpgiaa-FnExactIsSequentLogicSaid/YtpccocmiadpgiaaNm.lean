/- The names of axioms and of logics: the model's lists, its search in them, and its entries by number. Conditions: those in the theorems. -/
import Derived.Test.YtpccocmiadpgiaaStrL
namespace Go.Proofs.Ytpccocmiadpgiaa
open Go.RowKit

/-- The names of the axioms; of the logics. -/
def nmA : List (List UInt8) := [[52], [53], [66], [67], [68], [70], [71], [72], [76], [84], [86], [88], [90]]
def nmL : List (List UInt8) := [[68], [68, 52], [71, 76], [71, 114, 122], [75], [75, 52], [75, 52, 53], [75, 66], [75, 68, 52, 53], [83, 52], [83, 52, 50], [83, 52, 51], [83, 53], [84], [84, 114, 105, 118], [86, 101, 114]]
/-- Where a text stands first in a list, from place k on; -1: nowhere. -/
def fdF : List (List UInt8) → ByteArray → Int → Int
  | [], _, _ => -1
  | x :: xs, s, k => if stx x = s then k else fdF xs s (k + 1)
def fdV (ns : List (List UInt8)) (s : ByteArray) : Int := fdF ns s 0
theorem fd_step {ns : List (List UInt8)} {s : ByteArray} {k : Nat} (h : k < ns.length) : fdF (ns.drop k) s (k : Int) = if stx (nthS ns k) = s then (k : Int) else fdF (ns.drop (k + 1)) s ((k + 1 : Nat) : Int) := by
  rw [List.drop_eq_getElem_cons h, fdF]
  have e : nthS ns k = ns[k] := by simp [nthS, List.getD_eq_getElem?_getD, h]
  rw [e]
  rfl
theorem fd_end {ns : List (List UInt8)} {s : ByteArray} : fdF (ns.drop ns.length) s (ns.length : Int) = -1 := by
  rw [List.drop_length]; rfl
theorem bs_eq (a b : ByteArray) : (a.toList == b.toList) = decide (a = b) := by
  rw [ByteArray.toList_eq, ByteArray.toList_eq]
  by_cases h : a = b
  · subst h; simp
  · rw [decide_eq_false h, beq_eq_false_iff_ne]
    intro e
    exact h (ByteArray.ext (Array.toList_inj.1 e))
theorem bs_no {a b : ByteArray} (h : ¬ a = b) : (a.toList == b.toList) = false := by rw [bs_eq, decide_eq_false h]
theorem fdF_cases (ns : List (List UInt8)) (s : ByteArray) (k : Int) : fdF ns s k = -1 ∨ ∃ i : Nat, i < ns.length ∧ s = stx (nthS ns i) ∧ fdF ns s k = k + i := by
  induction ns generalizing k with
  | nil => exact .inl rfl
  | cons x xs ih =>
    rw [fdF]
    by_cases h : stx x = s
    · rw [if_pos h]
      exact .inr ⟨0, by simp, h.symm, by simp⟩
    · rw [if_neg h]
      rcases ih (k + 1) with e | ⟨i, hi, hs, e⟩
      · exact .inl e
      · exact .inr ⟨i + 1, by simpa using hi, hs, by rw [e]; omega⟩
theorem fd_cases (ns : List (List UInt8)) (s : ByteArray) : fdV ns s = -1 ∨ ∃ i : Nat, i < ns.length ∧ s = stx (nthS ns i) ∧ fdV ns s = i := by
  rcases fdF_cases ns s 0 with h | ⟨i, hi, hs, e⟩
  · exact .inl h
  · exact .inr ⟨i, hi, hs, by rw [fdV, e]; omega⟩

/-- The entry of a list by its number, and the code. -/
def atC (ns : List (List UInt8)) (i : Int) : Int := if inB i 0 (ns.length - 1) then 0 else 2
def atR (ns : List (List UInt8)) (i : Int) : ByteArray := if inB i 0 (ns.length - 1) then stx (nthS ns i.toNat) else stx []
theorem at_cases (ns : List (List UInt8)) (i m : Int) (hm : (ns.length : Int) - 1 = m) : (inB i 0 m = true ∧ atR ns i = stx (nthS ns i.toNat) ∧ atC ns i = 0 ∧ 0 ≤ i ∧ i < m + 1) ∨ (inB i 0 m = false ∧ atR ns i = stx [] ∧ atC ns i = 2) := by
  unfold atR atC
  rw [hm]
  cases h : inB i 0 m
  · exact .inr ⟨rfl, rfl, rfl⟩
  · have h2 := h
    unfold inB at h2
    simp at h2
    exact .inl ⟨rfl, rfl, rfl, h2.1, by omega⟩


end Go.Proofs.Ytpccocmiadpgiaa
