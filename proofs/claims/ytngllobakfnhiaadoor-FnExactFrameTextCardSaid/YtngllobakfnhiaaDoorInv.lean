/- Contracts of the functions of chapter 1 behind InverseRelation. Conditions: those in the theorems. -/
import Derived.Test.YtngllobakfnhiaaDoorRefl
import Derived.RegionTactic
import Derived.ChangeAlike
import Derived.BigRegion
import Derived.Deep.RegionWith
namespace Go.Proofs.YtngllobakfnhiaaDoor
open Go.RowKit

/-- The list of a function's first n values. -/
def tab (n : Nat) (F : Nat → Int) : List Int := (List.range n).map F
theorem tab_len (n : Nat) (F : Nat → Int) : (tab n F).length = n := by simp [tab]
theorem tab_nth (n : Nat) (F : Nat → Int) (t : Nat) (h : t < n) : nth (tab n F) t = F t := by simp [nth, tab, List.getD, h]

/-- A row that the call made, told cell by cell, is owned as a list. -/
theorem own_of_row {w : World} {B g n : Nat} {F : Nat → Int} (hB : B ≤ g) (hn : n ≤ 1099511627776) (h : w.rowIs g 2 n (fun t => .int .i64 (F t))) : Own w B (.slice (some ⟨g, 0, none⟩) n n) (tab n F) := by
  obtain ⟨c, hb, hs, hc⟩ := h
  unfold Own
  rw [tab_len]
  refine ⟨by simp [tab], .inr ⟨g, n, c, rfl, hB, hb, Nat.le_refl _, by unfold maxLen; omega, by omega, ?_⟩⟩
  apply List.ext_getElem?
  intro j
  by_cases hj : j < n
  · rw [List.getElem?_take, if_pos (by omega), Array.getElem?_toList, hc j hj]
    simp [tab, hj]
  · rw [List.getElem?_eq_none (by simp; omega), List.getElem?_eq_none (by simp [tab]; omega)]

def ivTo (xs : List Int) (t : Nat) : Nat → Int
  | 0 => 0
  | k + 1 => if bitB (nth xs k) t then bits .or .i64 (ivTo xs t k) (one k) else ivTo xs t k

def ivMid (xs : List Int) (k j t : Nat) : Int := if t < j then ivTo xs t (k + 1) else ivTo xs t k
theorem ivMid_zero (xs : List Int) (k t : Nat) : ivMid xs k 0 t = ivTo xs t k := by simp [ivMid]
theorem ivMid_at (xs : List Int) (k j : Nat) : ivMid xs k j j = ivTo xs j k := by simp [ivMid]
theorem ivMid_no {xs : List Int} {k j : Nat} (h : bitB (nth xs k) j = false) (t : Nat) : ivMid xs k j t = ivMid xs k (j + 1) t := by
  unfold ivMid
  by_cases e : t = j
  · subst e; rw [if_neg (by omega), if_pos (by omega), ivTo, h]; rfl
  · by_cases h2 : t < j
    · rw [if_pos h2, if_pos (by omega)]
    · rw [if_neg h2, if_neg (by omega)]
theorem ivMid_yes {xs : List Int} {k j : Nat} (h : bitB (nth xs k) j = true) (t : Nat) : (if t = j then bits .or .i64 (ivTo xs j k) (one k) else ivMid xs k j t) = ivMid xs k (j + 1) t := by
  unfold ivMid
  by_cases e : t = j
  · subst e; rw [if_pos rfl, if_pos (by omega), ivTo, h]; rfl
  · rw [if_neg e]
    by_cases h2 : t < j
    · rw [if_pos h2, if_pos (by omega)]
    · rw [if_neg h2, if_neg (by omega)]
theorem ivMid_all {xs : List Int} {k len t : Nat} (h : t < len) : ivMid xs k len t = ivTo xs t (k + 1) := by simp [ivMid, h]
theorem row_setI {w : World} {g n j : Nat} {F G : Nat → Int} {z : Int} (h : w.rowIs g 2 n (fun t => .int .i64 (F t))) (e : ∀ t, (if t = j then z else F t) = G t) : (w.setCell ⟨g, j, none⟩ (.int .i64 z)).rowIs g 2 n (fun t => .int .i64 (G t)) :=
  (h.set j (.int .i64 z)).congr fun t _ => by rw [← e t]; by_cases h : t = j <;> simp [h]

def ivS (xs : List Int) (len i j t : Nat) : Int := if t < i then ivTo xs t len else if t = i then ivTo xs i j else 0
theorem ivS_at (xs : List Int) (len i j : Nat) : ivS xs len i j i = ivTo xs i j := by simp [ivS]
theorem ivS_start (xs : List Int) (len t : Nat) : ivS xs len 0 0 t = 0 := by
  unfold ivS; rw [if_neg (by omega)]; split <;> rfl
theorem ivS_next (xs : List Int) (len i t : Nat) : ivS xs len i len t = ivS xs len (i + 1) 0 t := by
  unfold ivS
  by_cases h : t < i
  · rw [if_pos h, if_pos (by omega)]
  · by_cases e : t = i
    · subst e; rw [if_neg h, if_pos rfl, if_pos (by omega)]
    · rw [if_neg h, if_neg e, if_neg (by omega)]; split <;> rfl
theorem ivS_all {xs : List Int} {len t : Nat} (h : t < len) : ivS xs len len 0 t = ivTo xs t len := by unfold ivS; rw [if_pos h]
theorem ivS_no {xs : List Int} {len i j : Nat} (h : bitB (nth xs j) i = false) (t : Nat) : ivS xs len i j t = ivS xs len i (j + 1) t := by
  unfold ivS
  by_cases h2 : t < i
  · rw [if_pos h2, if_pos h2]
  · by_cases e : t = i
    · subst e; rw [if_neg h2, if_pos rfl, if_neg h2, if_pos rfl, ivTo, h]; rfl
    · rw [if_neg h2, if_neg e, if_neg h2, if_neg e]
theorem ivS_yes {xs : List Int} {len i j : Nat} (h : bitB (nth xs j) i = true) (t : Nat) : (if t = i then bits .or .i64 (ivTo xs i j) (one j) else ivS xs len i j t) = ivS xs len i (j + 1) t := by
  by_cases e : t = i
  · subst e; rw [if_pos rfl, ivS_at, ivTo, h]; rfl
  · rw [if_neg e]
    unfold ivS
    rw [if_neg e, if_neg e]

end Go.Proofs.YtngllobakfnhiaaDoor
