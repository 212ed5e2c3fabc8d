/- 5 texts in one: Has, Euc, Clo, ClS, ClS2. -/
import Derived.Laws.StructEq
import Derived.Test.YtckilaeolkgnkaaJn02
import Derived.Test.YtckilaeolkgnkaaEu
import Derived.Test.YtckilaeolkgnkaaPrt2
/- Contracts of the comparison of sets of flags, and of the least Euclidean relation of the program. Conditions: those in the theorems. -/
namespace Go.Proofs.Ytckilaeolkgnkaa
open Go.RowKit

end Go.Proofs.Ytckilaeolkgnkaa

/- Contracts of the program's euclideanClosure and closureOf. Conditions: those in the theorems. -/
namespace Go.Proofs.Ytckilaeolkgnkaa
open Go.RowKit

end Go.Proofs.Ytckilaeolkgnkaa

/- Contracts of the program's closureOf and CloseFrame. Conditions: those in the theorems. -/
namespace Go.Proofs.Ytckilaeolkgnkaa
open Go.RowKit

def knF (f : Int) : Bool := decide (f = 0) || decide (f = 2) || decide (f = 3) || decide (f = 4)
def clR (xs E : List Int) (f : Int) : List Int := if f = 0 then rfTo xs xs.length else if f = 2 then csL xs else if f = 3 then opL .or xs (bsL xs) xs.length else E
theorem clR_len {xs E : List Int} (hE : EuSpec xs E) (f : Int) : (clR xs E f).length = xs.length := by
  unfold clR
  split
  · exact rfTo_len _ _
  · split
    · exact tab_len _ _
    · split
      · exact opL_len _ _ _ _
      · exact hE.1
def clC (n : Int) (xs : List Int) (f : Int) : Int := if frB n xs then (if knF f then 0 else 2) else 1
def clL (n : Int) (xs E : List Int) (f : Int) : List Int := if clC n xs f = 0 then clR xs E f else []
theorem clC_1 {n f : Int} {xs : List Int} (h : frB n xs = false) : clC n xs f = 1 := by rw [clC, h]; rfl
theorem clC_2 {n f : Int} {xs : List Int} (h : frB n xs = true) (h2 : knF f = false) : clC n xs f = 2 := by rw [clC, h, h2]; rfl
theorem clC_0 {n f : Int} {xs : List Int} (h : frB n xs = true) (h2 : knF f = true) : clC n xs f = 0 := by rw [clC, h, h2]; rfl
theorem clL_no {n f : Int} {xs E : List Int} (h : ¬ clC n xs f = 0) : clL n xs E f = [] := if_neg h
theorem clL_ok {n f : Int} {xs E : List Int} (h : clC n xs f = 0) : clL n xs E f = clR xs E f := if_pos h
theorem kn_cases {f : Int} (h : knF f = true) : f = 0 ∨ f = 2 ∨ f = 3 ∨ f = 4 := by
  unfold knF at h
  simp at h
  omega
theorem kn_not {f : Int} (h : knF f = false) : (f == 0) = false ∧ (f == 2) = false ∧ (f == 3) = false ∧ (f == 4) = false := by
  unfold knF at h
  simp at h
  simp
  omega

end Go.Proofs.Ytckilaeolkgnkaa

/- Contracts of the model's CloseFrame. Conditions: those in the theorems. -/
namespace Go.Proofs.Ytckilaeolkgnkaa
open Go.RowKit

def syF (xs : List Int) (k t : Nat) : Int := if t < k then bits .or .i64 (nth xs t) (nth (bsL xs) t) else nth xs t
theorem sy_zero (xs : List Int) : tab xs.length (syF xs 0) = xs := by
  have e : syF xs 0 = nth xs := by funext t; unfold syF; rw [if_neg (by omega)]
  rw [e, tab_self]
theorem sy_all (xs : List Int) : tab xs.length (syF xs xs.length) = opL .or xs (bsL xs) xs.length := by
  apply List.ext_getElem?
  intro j
  by_cases hj : j < xs.length
  · have h1 : (tab xs.length (syF xs xs.length))[j]? = some (bits .or .i64 (nth xs j) (nth (bsL xs) j)) := by simp [tab, hj, syF]
    have h2 : j < (opL .or xs (bsL xs) xs.length).length := by rw [opL_len]; exact hj
    rw [h1, ← opL_nth .or xs (bsL xs) xs.length j hj, nth, List.getD, List.getElem?_eq_getElem h2]
    rfl
  · rw [List.getElem?_eq_none (by rw [tab_len]; omega), List.getElem?_eq_none (by rw [opL_len]; omega)]
theorem sy_set (xs : List Int) (k t : Nat) : (if t = k then bits .or .i64 (nth xs k) (nth (bsL xs) k) else syF xs k t) = syF xs (k + 1) t := by
  unfold syF
  by_cases e : t = k
  · subst e; rw [if_pos rfl, if_pos (by omega)]
  · rw [if_neg e]
    by_cases h2 : t < k
    · have h3 : t < k + 1 := by omega
      rw [if_pos h2, if_pos h3]
    · have h3 : ¬ t < k + 1 := by omega
      rw [if_neg h2, if_neg h3]
theorem sy_at (xs : List Int) (k : Nat) : syF xs k k = nth xs k := by unfold syF; rw [if_neg (by omega)]

/-- The row that the model closes in place. -/
def RowO (w : World) (B : Nat) (v : Value) (n : Nat) (F : Nat → Int) : Prop := w.ownsRow B 2 1 v n ((tab n F).map (Value.int .i64))
theorem RowO.cell {w : World} {B g c n : Nat} {F : Nat → Int} (h : RowO w B (.slice (some ⟨g, 0, none⟩) n c) n F) {j : Nat} (hj : j < n) : w.cell? ⟨g, j, none⟩ = some (.int .i64 (F j)) ∧ w.frozen? ⟨g, j, none⟩ = false :=
  ⟨(World.ownsRow.cellAt h j (by omega)).trans (tab_get hj), World.ownsRow.frozenAt h j⟩
theorem RowO.set {w : World} {B g c n : Nat} {F G : Nat → Int} {z : Int} {j : Nat} (h : RowO w B (.slice (some ⟨g, 0, none⟩) n c) n F) (e : ∀ t, (if t = j then z else F t) = G t) : RowO (w.setCell ⟨g, j, none⟩ (.int .i64 z)) B (.slice (some ⟨g, 0, none⟩) n c) n G := by
  unfold RowO
  rw [← tab_set e]
  exact (World.ownsRow.stored h j _).1
theorem RowO.drewN {w : World} {B n : Nat} {v : Value} {F : Nat → Int} (h : RowO w B v n F) (q : Nat) : RowO (w.drewN q) B v n F := h
theorem RowO.own {w : World} {B n : Nat} {v : Value} {F : Nat → Int} (h : RowO w B v n F) : Own w B v (tab n F) := by unfold Own; rw [tab_len]; exact h

/-- What the search through the pairs has seen. -/
def Seen (F : Nat → Int) (n k j : Nat) : Prop := ∀ x y, y < n → (x < k ∨ (x = k ∧ y < j)) → T (F x) y = true → bits .andNot .i64 (F x) (F y) = 0

end Go.Proofs.Ytckilaeolkgnkaa

/- Contracts of the model's CloseFrame, for the other flags. Conditions: those in the theorems. -/
namespace Go.Proofs.Ytckilaeolkgnkaa
open Go.RowKit

theorem At.setO {w : World} {a : Option Addr} {len g o : Nat} {xs : List Int} {v : Value} (h : At w a len xs) (hne : ∀ p, a = some p → p.block ≠ g) : At (w.setCell ⟨g, o, none⟩ v) a len xs := by
  refine ⟨h.1, ?_⟩
  rcases h.2 with h2 | ⟨b, off, ha, hlt, hc⟩
  · exact .inl h2
  · exact .inr ⟨b, off, ha, by simpa using hlt, fun j hj => (World.cell?_setCell_other _ _ _ _ (fun e => hne _ ha (by cases e; rfl))).trans (hc j hj)⟩

end Go.Proofs.Ytckilaeolkgnkaa
