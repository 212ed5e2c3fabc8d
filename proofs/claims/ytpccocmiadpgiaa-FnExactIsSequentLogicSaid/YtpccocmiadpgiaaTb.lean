/- The axioms of each logic: the model's lists. Conditions: those in the theorems. -/
import Derived.Test.YtpccocmiadpgiaaNm
namespace Go.Proofs.Ytpccocmiadpgiaa
open Go.RowKit

/-- The names of the axioms of each logic. -/
def lxL : List (List (List UInt8)) := [[[68]], [[52], [68]], [[76]], [[90]], [], [[52]], [[52], [53]], [[66]], [[52], [53], [68]], [[52], [84]], [[52], [71], [84]], [[52], [72], [84]], [[53], [84]], [[84]], [[84], [88]], [[86]]]
def lax (j : Nat) : List (List UInt8) := lxL.getD j []
theorem lax_len (j : Nat) : (lax j).length ≤ 3 := by
  by_cases h : j < 16
  · exact (by decide : ∀ j, j < 16 → (lax j).length ≤ 3) j h
  · have e : lax j = [] := by unfold lax; rw [List.getD_eq_getElem?_getD, List.getElem?_eq_none (by show 16 ≤ j; omega)]; rfl
    rw [e]; decide

/-- Blocks that are made one after another. -/
def lots (w : World) (os : List Obj) : World := os.foldl World.alloc w
theorem lots_size (os : List Obj) (w : World) : (lots w os).heap.size = w.heap.size + os.length := by
  induction os generalizing w with
  | nil => rfl
  | cons o os ih =>
    show (lots (w.alloc o) os).heap.size = _
    rw [ih]
    have : (w.alloc o).heap.size = w.heap.size + 1 := by simp [World.alloc_eq]
    rw [this, List.length_cons]; omega
theorem lots_below (os : List Obj) (w : World) : Below w.heap.size w (lots w os) := by
  have : ∀ (os : List Obj) (w' : World), Below w.heap.size w w' → Below w.heap.size w (lots w' os) := by
    intro os
    induction os with
    | nil => exact fun _ h => h
    | cons o os ih => exact fun w' h => ih (w'.alloc o) (h.alloc h.size _)
  exact this os w (Below.refl _ _)
theorem lots_block (os : List Obj) (w : World) (k : Nat) (h : k < os.length) : (lots w os).heap[w.heap.size + k]? = os[k]? := by
  induction os generalizing w k with
  | nil => cases h
  | cons o os ih =>
    show (lots (w.alloc o) os).heap[_]? = _
    have hs : (w.alloc o).heap.size = w.heap.size + 1 := by simp [World.alloc_eq]
    cases k with
    | zero =>
      rw [(lots_below os (w.alloc o)).block _ (by omega)]
      exact heap_alloc_new w o
    | succ k =>
      have e := ih (w.alloc o) k (by simpa using h)
      rw [hs] at e
      rw [show w.heap.size + (k + 1) = w.heap.size + 1 + k by omega, e]
      rfl
theorem own_lit_at {w : World} {B g : Nat} {ss : List (List UInt8)} (h : w.heap[g]? = some (.cells (cS ss).toArray 9)) (hB : B ≤ g) (hm : ss.length ≤ maxLen) : OwnS w B (.slice (some ⟨g, 0, none⟩) ss.length ss.length) ss :=
  ⟨by simp [cS], .inr ⟨g, ss.length, (cS ss).toArray, rfl, hB, h, Nat.le_refl _, hm, by simp [cS], by rw [List.take_of_length_le (by simp [cS])]⟩⟩
def axO : List Obj := (List.range 16).map fun j => .cells (cS (lax j)).toArray 9
theorem axO_at (j : Nat) (h : j < 16) : axO[j]? = some (.cells (cS (lax j)).toArray 9) := by
  unfold axO
  rw [List.getElem?_map, List.getElem?_range h]; rfl
theorem axo_own (w w' : World) (hb : Below (w.heap.size + 16) (lots w axO) w') (j : Nat) (h : j < 16) : OwnS w' w.heap.size (.slice (some ⟨w.heap.size + j, 0, none⟩) (lax j).length (lax j).length) (lax j) := by
  refine own_lit_at ?_ (by omega) (by have := lax_len j; unfold maxLen; omega)
  rw [hb.block _ (by omega), lots_block axO w j (by rw [axO, List.length_map, List.length_range]; exact h), axO_at j h]

def axS (B j : Nat) : Value := .slice (some ⟨B + j, 0, none⟩) (lax j).length (lax j).length
def axR (B : Nat) : Array Value := ((List.range 16).map (axS B)).toArray
theorem axR_at (B j : Nat) (h : j < 16) : (axR B)[j]? = some (axS B j) := by
  unfold axR
  rw [List.getElem?_toArray, List.getElem?_map, List.getElem?_range h]; rfl
theorem axw {w w1 : World} (hb : Below ((lots w axO).alloc (.cells (axR w.heap.size) 23)).heap.size ((lots w axO).alloc (.cells (axR w.heap.size) 23)) w1) :
    Below w.heap.size w w1 ∧ Below (w.heap.size + 16) (lots w axO) w1 ∧ ∀ j, j < 16 → w1.cell? ⟨w.heap.size + 16, j, none⟩ = some (axS w.heap.size j) := by
  have hs : (lots w axO).heap.size = w.heap.size + 16 := lots_size axO w
  have hs2 : ((lots w axO).alloc (.cells (axR w.heap.size) 23)).heap.size = w.heap.size + 16 + 1 := by rw [← hs]; simp [World.alloc_eq]
  have b1 : Below (w.heap.size + 16) (lots w axO) ((lots w axO).alloc (.cells (axR w.heap.size) 23)) := (Below.refl _ _).alloc (by omega) _
  have b2 := b1.trans (hb.mono (by omega))
  refine ⟨(lots_below axO w).trans (b2.mono (by omega)), b2, fun j hj => ?_⟩
  have c1 := World.cell?_alloc_new (lots w axO) (axR w.heap.size) 23 j
  rw [hs, axR_at _ _ hj] at c1
  rw [← c1]
  exact hb.cell (p := ⟨w.heap.size + 16, j, none⟩) (by rw [hs2]; show w.heap.size + 16 < _; omega)

end Go.Proofs.Ytpccocmiadpgiaa
