/- Contracts of the model's functions that read a list of nodes: where a part ends, whether a list is a formula. Conditions: those in the theorems. -/
import Derived.Test.YtfpnmeacnhcakaaBase
namespace Go.Proofs.Ytfpnmeacnhcakaa
open Go.RowKit

/-- A node: its kind and its symbol. -/
abbrev Nd := Int × Int
def kd (xs : List Nd) (i : Nat) : Int := (xs.getD i (0, 0)).1
def sy (xs : List Nd) (i : Nat) : Int := (xs.getD i (0, 0)).2

/-- The list of nodes xs lies at the slice value (a, len): no element, or cells in a row, two for each node. -/
def AtN (w : World) (a : Option Addr) (len : Nat) (xs : List Nd) : Prop :=
  len = xs.length ∧ (len = 0 ∨ ∃ b off, a = some ⟨b, off, none⟩ ∧ b < w.heap.size ∧ ∀ j, j < len → w.cell? ⟨b, off + j * 2, none⟩ = some (.int .i64 (kd xs j)) ∧ w.cell? ⟨b, off + j * 2 + 1, none⟩ = some (.int .i64 (sy xs j)))

def prt (k : Int) : Int := if k = 2 ∨ k = 3 ∨ k = 4 then 2 else if k = 5 ∨ k = 6 then 1 else 0
theorem prt_bd (k : Int) : 0 ≤ prt k ∧ prt k ≤ 2 := by unfold prt; split <;> (try split) <;> omega

/-- Where a part ends, told from index i on with o parts open; -1 if the list ends first. -/
def pe (xs : List Nd) : Nat → Int → Nat → Int
  | 0, o, i => if o ≤ 0 then i else -1
  | f + 1, o, i => if o ≤ 0 then i else pe xs f (o - 1 + prt (kd xs i)) (i + 1)

def okN (k s : Int) : Bool := inB k 0 6 && inB s 0 5 && (k == 0 || s == 0)
def treeTo (xs : List Nd) : Nat → Bool
  | 0 => true
  | i + 1 => treeTo xs i && okN (kd xs i) (sy xs i)
def treeB (xs : List Nd) (len : Nat) : Bool := treeTo xs len && decide (0 < len) && (pe xs len 1 0 == (len : Int))
def isB (xs : List Nd) (len : Nat) : Bool := decide (len ≤ 40) && treeB xs len
theorem treeTo_false {xs : List Nd} {k l : Nat} (hk : k ≤ l) (h : treeTo xs k = false) : treeTo xs l = false := by
  induction l with
  | zero => simp at hk; subst hk; exact h
  | succ l ih =>
    by_cases e : k = l + 1
    · subst e; exact h
    · rw [treeTo, ih (by omega)]; rfl
theorem tree_bad {xs : List Nd} {len k : Nat} (hk : k < len) (h : okN (kd xs k) (sy xs k) = false) : treeB xs len = false := by
  have h1 : treeTo xs (k + 1) = false := by rw [treeTo, h, Bool.and_false]
  rw [treeB, treeTo_false (k := k + 1) hk h1]; rfl

end Go.Proofs.Ytfpnmeacnhcakaa
