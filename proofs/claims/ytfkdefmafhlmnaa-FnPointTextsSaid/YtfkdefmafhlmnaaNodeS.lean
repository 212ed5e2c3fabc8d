/- Contracts of the small functions of package laws over lists of nodes: copy, compare, mark, held. Conditions: those in the theorems. -/
import Derived.Deep.OwnRows
import Derived.OwnWalk
import Derived.RegionTactic
import Derived.ChangeAlike
import Derived.BigRegion
import Derived.Deep.RegionWith
import Derived.Test.YtfkdefmafhlmnaaJn01
namespace Go.Proofs.Ytfkdefmafhlmnaa
open Go.RowKit

theorem infoNd : (Try.prog.info? 140).map (fun i => (i.zero, i.size, i.bytes)) = some (some (.agg #[.int .i64 0, .int .i64 0]), 2, 16) := by kernel_rfl

/-- The cells of a list of nodes. -/
def cellsN (xs : List Nd) : List Value := xs.flatMap fun x => [.int .i64 x.1, .int .i64 x.2]
theorem cellsN_len (xs : List Nd) : (cellsN xs).length = xs.length * 2 := by
  unfold cellsN
  induction xs with
  | nil => rfl
  | cons x xs ih => simp only [List.flatMap_cons, List.length_append, List.length_cons, List.length_nil]; omega
theorem cellsN_at (xs : List Nd) (j : Nat) (h : j < xs.length) : (cellsN xs)[j * 2]? = some (.int .i64 (kd xs j)) ∧ (cellsN xs)[j * 2 + 1]? = some (.int .i64 (sy xs j)) := by
  induction xs generalizing j with
  | nil => simp at h
  | cons x xs ih =>
    cases j with
    | zero => exact ⟨rfl, rfl⟩
    | succ j =>
      have := ih j (by simpa using h)
      have e1 : (j + 1) * 2 = j * 2 + 1 + 1 := by omega
      rw [e1]
      exact ⟨this.1, this.2⟩
def OwnN (w : World) (B : Nat) (v : Value) (xs : List Nd) : Prop := w.ownsRow B 140 2 v xs.length (cellsN xs)

theorem cellsN_append (xs ys : List Nd) : cellsN (xs ++ ys) = cellsN xs ++ cellsN ys := by simp [cellsN]
theorem cellsN_set (xs : List Nd) (k : Nat) (h : k < xs.length) (x y : Int) : ((cellsN xs).set (k * 2) (.int .i64 x)).set (k * 2 + 1) (.int .i64 y) = cellsN (xs.set k (x, y)) := by
  induction xs generalizing k with
  | nil => simp at h
  | cons z xs ih =>
    cases k with
    | zero => rfl
    | succ k =>
      have e1 : (k + 1) * 2 = k * 2 + 1 + 1 := by omega
      rw [e1]
      show Value.int .i64 z.1 :: Value.int .i64 z.2 :: ((cellsN xs).set (k * 2) _).set (k * 2 + 1) _ = _
      rw [ih k (by simpa using h)]
      rfl
theorem cellsN_made (len : Nat) : (madeCells #[.int .i64 0, .int .i64 0] (len * 2)).toList = cellsN (List.replicate len (0, 0)) := by
  apply List.ext_getElem?
  intro i
  have hl := cellsN_len (List.replicate len ((0 : Int), (0 : Int)))
  rw [List.length_replicate] at hl
  by_cases hi : i < len * 2
  · have hz : ∀ j, j < 2 → (#[Value.int .i64 0, Value.int .i64 0])[j]? = some (Value.int .i64 0) := fun j hj => by
      match j, hj with
      | 0, _ => rfl
      | 1, _ => rfl
    have h1 : (madeCells #[Value.int .i64 0, Value.int .i64 0] (len * 2)).toList[i]? = some (.int .i64 0) := by
      have h2 := hz (i % 2) (by omega)
      have h3 : i % 2 = 0 ∨ i % 2 = 1 := by omega
      rcases h3 with h3 | h3 <;> simp [madeCells, hi, h3]
    rw [h1]
    have hk : i / 2 < (List.replicate len ((0 : Int), (0 : Int))).length := by rw [List.length_replicate]; omega
    obtain ⟨g1, g2⟩ := cellsN_at (List.replicate len ((0 : Int), (0 : Int))) (i / 2) hk
    have e1 : kd (List.replicate len ((0 : Int), (0 : Int))) (i / 2) = 0 := by unfold kd; simp [List.getD, show i / 2 < len by omega]
    have e2 : sy (List.replicate len ((0 : Int), (0 : Int))) (i / 2) = 0 := by unfold sy; simp [List.getD, show i / 2 < len by omega]
    rw [e1] at g1
    rw [e2] at g2
    by_cases hm : i % 2 = 0
    · rw [show i / 2 * 2 = i by omega] at g1; exact g1.symm
    · rw [show i / 2 * 2 + 1 = i by omega] at g2; exact g2.symm
  · rw [List.getElem?_eq_none (by simp [madeCells]; omega), List.getElem?_eq_none (by omega)]

/-- A list of which the first k nodes are xs's and the others zero. -/
def cplN (xs : List Nd) (len k : Nat) : List Nd := xs.take k ++ List.replicate (len - k) (0, 0)
theorem cplN_len (xs : List Nd) (len k : Nat) (h : len = xs.length) (hk : k ≤ len) : (cplN xs len k).length = len := by simp [cplN]; omega

theorem cplN_set (xs : List Nd) (len k : Nat) (h : len = xs.length) (hk : k < len) : (cplN xs len k).set k (kd xs k, sy xs k) = cplN xs len (k + 1) := by
  have hx : (kd xs k, sy xs k) = xs[k]'(by omega) := by unfold kd sy; simp [List.getD, show k < xs.length by omega]
  rw [hx]
  unfold cplN
  apply List.ext_getElem?
  intro j
  by_cases e : j = k
  · subst e
    rw [List.getElem?_set_self (by simp; omega), List.getElem?_append_left (by simp; omega), List.getElem?_take, if_pos (by omega), List.getElem?_eq_getElem (by omega)]
  · rw [List.getElem?_set_ne (by omega)]
    simp only [List.getElem?_append, List.getElem?_take, List.length_take, List.getElem?_replicate]
    by_cases h1 : j < k
    · simp [h1, show j < min k xs.length by omega, show j < k + 1 by omega, show j < min (k+1) xs.length by omega]
    · simp [show ¬ j < min k xs.length by omega, show ¬ j < min (k+1) xs.length by omega]
      simp [show min k xs.length = k by omega, show min (k + 1) xs.length = k + 1 by omega, show (j - k < len - k) ↔ (j - (k + 1) < len - (k + 1)) by omega]
theorem cplN_all (xs : List Nd) (len : Nat) (h : len = xs.length) : cplN xs len len = xs := by subst h; simp [cplN]

theorem AtN.keep {w w' : World} {C : Nat} {a : Option Addr} {len : Nat} {xs : List Nd} (h : AtN w a len xs) (hb : Below C w w') (hC : w.heap.size ≤ C) : AtN w' a len xs := by
  refine ⟨h.1, ?_⟩
  rcases h.2 with h2 | ⟨b, off, ha, hlt, hc⟩
  · exact .inl h2
  · exact .inr ⟨b, off, ha, Nat.lt_of_lt_of_le hlt hb.size, fun j hj => ⟨(hb.cell (p := ⟨b, off + j * 2, none⟩) (by show b < C; omega)).trans (hc j hj).1, (hb.cell (p := ⟨b, off + j * 2 + 1, none⟩) (by show b < C; omega)).trans (hc j hj).2⟩⟩

/-- The marks n, n + 1, .. on the nodes of a list, two for each node. -/
def mkN (n : Int) : Nat → List Nd
  | 0 => []
  | k + 1 => mkN n k ++ [(n + 2 * k, n + 2 * k + 1)]
theorem mkN_len (n : Int) (k : Nat) : (mkN n k).length = k := by induction k with | zero => rfl | succ k ih => simp [mkN, ih]
theorem mkN_at (n : Int) (k j : Nat) (h : j < k) : kd (mkN n k) j = n + 2 * j ∧ sy (mkN n k) j = n + 2 * j + 1 := by
  induction k with
  | zero => omega
  | succ k ih =>
    have hl := mkN_len n k
    unfold kd sy at *
    by_cases e : j = k
    · subst e; simp [mkN, List.getD, hl]
    · have := ih (by omega)
      simp only [mkN, List.getD_eq_getElem?_getD] at this ⊢
      rw [List.getElem?_append_left (by omega)]
      exact this
def mklN (xs : List Nd) (n : Int) (j : Nat) : List Nd := mkN n j ++ xs.drop j
theorem mklN_len (xs : List Nd) (n : Int) (j : Nat) (h : j ≤ xs.length) : (mklN xs n j).length = xs.length := by simp [mklN, mkN_len]; omega
theorem mklN_set (xs : List Nd) (n : Int) (j : Nat) (h : j < xs.length) : (mklN xs n j).set j (n + 2 * j, n + 2 * j + 1) = mklN xs n (j + 1) := by
  have e : xs.drop j = xs[j] :: xs.drop (j + 1) := List.drop_eq_getElem_cons h
  rw [mklN, mklN, mkN, e, List.set_append_right _ _ (by simp [mkN_len]), mkN_len, Nat.sub_self, List.set_cons_zero, List.append_assoc]
  rfl
theorem mklN_all (xs : List Nd) (n : Int) : mklN xs n xs.length = mkN n xs.length := by simp [mklN]

end Go.Proofs.Ytfkdefmafhlmnaa
