/- Contracts of the functions of chapter 1 behind TransitiveClosure. Conditions: those in the theorems. -/
import Derived.Test.YtngllobakfnhiaaDoorInv
import Derived.Laws.CopyOwn
import Derived.Laws.AppendOwnNone
namespace Go.Proofs.YtngllobakfnhiaaDoor
open Go.RowKit

/-- One step of the closure at via k, row i. -/
def tcStep (F : Nat → Int) (k i : Nat) : Nat → Int := fun t => if t = i then (if bitB (F i) k then bits .or .i64 (F i) (F k) else F i) else F t
def tcIn (F : Nat → Int) (k : Nat) : Nat → Nat → Int
  | 0 => F
  | i + 1 => tcStep (tcIn F k i) k i
def tcTo (xs : List Int) (len : Nat) : Nat → Nat → Int
  | 0 => nth xs
  | k + 1 => tcIn (tcTo xs len k) k len

theorem tcStep_no {F : Nat → Int} {k i : Nat} (h : bitB (F i) k = false) (t : Nat) : tcStep F k i t = F t := by
  unfold tcStep; by_cases e : t = i
  · subst e; rw [if_pos rfl, h]; rfl
  · rw [if_neg e]
theorem tcStep_yes {F : Nat → Int} {k i : Nat} (h : bitB (F i) k = true) (t : Nat) : (if t = i then bits .or .i64 (F i) (F k) else F t) = tcStep F k i t := by
  unfold tcStep; by_cases e : t = i
  · subst e; rw [if_pos rfl, if_pos rfl, h]; rfl
  · rw [if_neg e, if_neg e]

theorem tab_self (xs : List Int) : tab xs.length (nth xs) = xs := by
  apply List.ext_getElem?
  intro j
  by_cases hj : j < xs.length
  · simp [tab, nth, List.getD, hj]
  · rw [List.getElem?_eq_none (by rw [tab_len]; omega), List.getElem?_eq_none (by omega)]
theorem tab_get {n j : Nat} {F : Nat → Int} (h : j < n) : ((tab n F).map (Value.int .i64))[j]? = some (.int .i64 (F j)) := by simp [tab, h]
theorem tab_congr {n : Nat} {F G : Nat → Int} (h : ∀ t, t < n → F t = G t) : tab n F = tab n G := by
  unfold tab
  apply List.map_congr_left
  intro t ht
  exact h t (by simpa using ht)
theorem tab_set {n j : Nat} {F G : Nat → Int} {z : Int} (e : ∀ t, (if t = j then z else F t) = G t) : ((tab n F).map (Value.int .i64)).set j (.int .i64 z) = (tab n G).map (Value.int .i64) := by
  apply List.ext_getElem?
  intro t
  by_cases ht : t < n
  · rw [tab_get ht, ← e t]
    by_cases h : t = j
    · subst h; rw [List.getElem?_set_self (by simp [tab, ht])]; simp
    · rw [List.getElem?_set_ne (by omega), tab_get ht, if_neg h]
  · rw [List.getElem?_eq_none (by simp [tab]; omega), List.getElem?_eq_none (by simp [tab]; omega)]
theorem own_of_heap {w : World} {B g n : Nat} {zs : List Value} (hB : B ≤ g) (hn : zs.length = n) (hm : n ≤ 1099511627776) (h : w.heap[g]? = some (.cells zs.toArray 2 (0, 0))) : w.ownsRow B 2 1 (.slice (some ⟨g, 0, none⟩) n n) n zs := by
  subst hn
  exact ⟨by simp, .inr ⟨g, zs.length, zs.toArray, rfl, hB, h, Nat.le_refl _, by unfold maxLen; omega, by simp, by simp⟩⟩
theorem size64 : (Tryd.prog.info? 2).map (·.size) = some 1 := by kernel_rfl

theorem owned_some {w : World} {B : Nat} {v : Value} {n : Nat} {zs : List Value} (h : w.ownsRow B 2 1 v n zs) (hv : v ≠ .slice none 0 0) : ∃ g cap, v = .slice (some ⟨g, 0, none⟩) n cap ∧ B ≤ g := by
  rcases h.2 with ⟨h1, _⟩ | ⟨g, cap, cur, h1, h2, _⟩
  · exact absurd h1 hv
  · exact ⟨g, cap, h1, h2⟩

end Go.Proofs.YtngllobakfnhiaaDoor
