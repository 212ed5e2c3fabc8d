/- 5 texts in one: FlB, FlC, FlD, FlF, Ff. -/
import Derived.Test.YtckilaeolkgnkaaFlM
import Derived.Test.YtckilaeolkgnkaaJn01
import Derived.Test.YtckilaeolkgnkaaRts
/- The walks of the model's l05Flag at some flags. Conditions: those in the theorems. -/
namespace Go.Proofs.Ytckilaeolkgnkaa
open Go.RowKit

end Go.Proofs.Ytckilaeolkgnkaa

/- The walks of the model's l05Flag at some flags. Conditions: those in the theorems. -/
namespace Go.Proofs.Ytckilaeolkgnkaa
open Go.RowKit

end Go.Proofs.Ytckilaeolkgnkaa

/- The walks of the model's l05Flag at some flags. Conditions: those in the theorems. -/
namespace Go.Proofs.Ytckilaeolkgnkaa
open Go.RowKit

end Go.Proofs.Ytckilaeolkgnkaa

/- Contracts of the model's list of flags and of FrameFlags of the model. Conditions: those in the theorems. -/
namespace Go.Proofs.Ytckilaeolkgnkaa
open Go.RowKit

def flL (xs : List Int) : Nat → List Int
  | 0 => []
  | k + 1 => flL xs k ++ [if flB k xs then 1 else 0]
theorem flL_len (xs : List Int) (k : Nat) : (flL xs k).length = k := by induction k with | zero => rfl | succ k ih => simp [flL, ih]
theorem own_app {w : World} {B : Nat} {v : Value} {L M : List Int} {z : Int} (hL : M = L ++ [z]) (h : w.ownsRow B 2 1 v (L.length + 1) (L.map (Value.int .i64) ++ [.int .i64 z])) : Own w B v M := by
  subst hL
  unfold Own
  rw [List.map_append, List.length_append]
  exact h

theorem ff_ok {n : Int} {xs : List Int} (h : frB n xs = true) : rtC n xs = 0 := by rw [rtC, h]; rfl
theorem ff_bad {n : Int} {xs : List Int} (h : frB n xs = false) : rtC n xs = 1 := by rw [rtC, h]; rfl

end Go.Proofs.Ytckilaeolkgnkaa

/- Contracts of FrameFlags of the program, and in value form. Conditions: those in the theorems. -/
namespace Go.Proofs.Ytckilaeolkgnkaa
open Go.RowKit

def fsF (xs : List Int) (k i : Nat) : Int := if i < k then (if flB i xs then 1 else 0) else 0
theorem fs_set {xs : List Int} {k : Nat} (h : flB k xs = true) (t : Nat) : (if t = k then (1 : Int) else fsF xs k t) = fsF xs (k + 1) t := by
  unfold fsF
  by_cases e : t = k
  · subst e; rw [if_pos rfl, if_pos (by omega), h]; rfl
  · rw [if_neg e]
    by_cases h2 : t < k
    · have h3 : t < k + 1 := by omega
      rw [if_pos h2, if_pos h3]
    · have h3 : ¬ t < k + 1 := by omega
      rw [if_neg h2, if_neg h3]
theorem fs_no {xs : List Int} {k : Nat} (h : flB k xs = false) : fsF xs k = fsF xs (k + 1) := by
  funext t
  unfold fsF
  by_cases e : t = k
  · subst e; rw [if_neg (by omega), if_pos (by omega), h]; rfl
  · by_cases h2 : t < k
    · have h3 : t < k + 1 := by omega
      rw [if_pos h2, if_pos h3]
    · have h3 : ¬ t < k + 1 := by omega
      rw [if_neg h2, if_neg h3]
theorem flL_tab (xs : List Int) (k : Nat) : flL xs k = tab k (fun i => if flB i xs then 1 else 0) := by
  induction k with
  | zero => rfl
  | succ k ih => rw [flL, ih]; unfold tab; rw [List.range_succ, List.map_append]; rfl
theorem fs_all (xs : List Int) : tab 11 (fsF xs 11) = flL xs 11 := by
  rw [flL_tab]
  exact tab_congr fun t ht => by rw [fsF, if_pos ht]
theorem fs_zero (xs : List Int) : (madeCells #[.int .i64 0] 11).toList = (tab 11 (fsF xs 0)).map (Value.int .i64) := by
  rw [toList_madeCells_one]
  rfl

end Go.Proofs.Ytckilaeolkgnkaa
