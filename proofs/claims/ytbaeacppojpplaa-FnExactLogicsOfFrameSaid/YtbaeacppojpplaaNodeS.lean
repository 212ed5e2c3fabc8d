/- Contracts of the small functions of package laws over lists of nodes: copy, compare, mark, held. Conditions: those in the theorems. -/
import Derived.Deep.OwnRows
import Derived.OwnWalk
import Derived.RegionTactic
import Derived.ChangeAlike
import Derived.BigRegion
import Derived.Deep.RegionWith
import Derived.Test.YtbaeacppojpplaaNodes
namespace Go.Proofs.Ytbaeacppojpplaa
open Go.RowKit

/-- A list of which the first k nodes are xs's and the others zero. -/
def cplN (xs : List Nd) (len k : Nat) : List Nd := xs.take k ++ List.replicate (len - k) (0, 0)
theorem cplN_len (xs : List Nd) (len k : Nat) (h : len = xs.length) (hk : k ≤ len) : (cplN xs len k).length = len := by simp [cplN]; omega

theorem cplN_set (xs : List Nd) (len k : Nat) (h : len = xs.length) (hk : k < len) : (cplN xs len k).set k (kd xs k, sy xs k) = cplN xs len (k + 1) := by
  have hx : (kd xs k, sy xs k) = xs[k]'(by omega) := by unfold kd sy; simp [List.getD, show k < xs.length by omega]
  rw [hx]
  unfold cplN
  apply List.ext_getElem?
  intro j
  by_cases e : j = k
  · subst e
    rw [List.getElem?_set_self (by simp; omega), List.getElem?_append_left (by simp; omega), List.getElem?_take, if_pos (by omega), List.getElem?_eq_getElem (by omega)]
  · rw [List.getElem?_set_ne (by omega)]
    simp only [List.getElem?_append, List.getElem?_take, List.length_take, List.getElem?_replicate]
    by_cases h1 : j < k
    · simp [h1, show j < min k xs.length by omega, show j < k + 1 by omega, show j < min (k+1) xs.length by omega]
    · simp [show ¬ j < min k xs.length by omega, show ¬ j < min (k+1) xs.length by omega]
      simp [show min k xs.length = k by omega, show min (k + 1) xs.length = k + 1 by omega, show (j - k < len - k) ↔ (j - (k + 1) < len - (k + 1)) by omega]
theorem cplN_all (xs : List Nd) (len : Nat) (h : len = xs.length) : cplN xs len len = xs := by subst h; simp [cplN]

theorem AtN.keep {w w' : World} {C : Nat} {a : Option Addr} {len : Nat} {xs : List Nd} (h : AtN w a len xs) (hb : Below C w w') (hC : w.heap.size ≤ C) : AtN w' a len xs := by
  refine ⟨h.1, ?_⟩
  rcases h.2 with h2 | ⟨b, off, ha, hlt, hc⟩
  · exact .inl h2
  · exact .inr ⟨b, off, ha, Nat.lt_of_lt_of_le hlt hb.size, fun j hj => ⟨(hb.cell (p := ⟨b, off + j * 2, none⟩) (by show b < C; omega)).trans (hc j hj).1, (hb.cell (p := ⟨b, off + j * 2 + 1, none⟩) (by show b < C; omega)).trans (hc j hj).2⟩⟩

/-- The marks n, n + 1, .. on the nodes of a list, two for each node. -/
def mkN (n : Int) : Nat → List Nd
  | 0 => []
  | k + 1 => mkN n k ++ [(n + 2 * k, n + 2 * k + 1)]
theorem mkN_len (n : Int) (k : Nat) : (mkN n k).length = k := by induction k with | zero => rfl | succ k ih => simp [mkN, ih]
theorem mkN_at (n : Int) (k j : Nat) (h : j < k) : kd (mkN n k) j = n + 2 * j ∧ sy (mkN n k) j = n + 2 * j + 1 := by
  induction k with
  | zero => omega
  | succ k ih =>
    have hl := mkN_len n k
    unfold kd sy at *
    by_cases e : j = k
    · subst e; simp [mkN, List.getD, hl]
    · have := ih (by omega)
      simp only [mkN, List.getD_eq_getElem?_getD] at this ⊢
      rw [List.getElem?_append_left (by omega)]
      exact this
def mklN (xs : List Nd) (n : Int) (j : Nat) : List Nd := mkN n j ++ xs.drop j
theorem mklN_len (xs : List Nd) (n : Int) (j : Nat) (h : j ≤ xs.length) : (mklN xs n j).length = xs.length := by simp [mklN, mkN_len]; omega
theorem mklN_set (xs : List Nd) (n : Int) (j : Nat) (h : j < xs.length) : (mklN xs n j).set j (n + 2 * j, n + 2 * j + 1) = mklN xs n (j + 1) := by
  have e : xs.drop j = xs[j] :: xs.drop (j + 1) := List.drop_eq_getElem_cons h
  rw [mklN, mklN, mkN, e, List.set_append_right _ _ (by simp [mkN_len]), mkN_len, Nat.sub_self, List.set_cons_zero, List.append_assoc]
  rfl
theorem mklN_all (xs : List Nd) (n : Int) : mklN xs n xs.length = mkN n xs.length := by simp [mklN]

end Go.Proofs.Ytbaeacppojpplaa
