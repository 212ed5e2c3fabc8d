/- 3 texts in one: Prt, Prt2, DpS. -/
import Derived.Test.YthjagdkploladaaDoorMk
import Derived.Test.YthjagdkploladaaDoorJn01
import Derived.Test.YthjagdkploladaaDoorJn02
import Derived.Test.YthjagdkploladaaDoorCkM
import Derived.Test.YthjagdkploladaaDoorJn03
/- Contracts of the frame of a list of worlds, of the model and of the program, and of PartOfFrame. Conditions: those in the theorems. -/
namespace Go.Proofs.YthjagdkploladaaDoor
open Go.RowKit

/-- The mask of the indices, in a list of worlds, of the members of x. -/
def sqTo (ls : List Int) (x : Int) : Nat → Int
  | 0 => 0
  | k + 1 => if bitB x (nth ls k) then bits .or .i64 (sqTo ls x k) (one k) else sqTo ls x k
def arF (xs ls : List Int) (i : Nat) : Int := sqTo ls (nth xs (nth ls i).toNat) ls.length
def arV (xs ls : List Int) : List Int := tab ls.length (arF xs ls)
def LsOk (n : Nat) (ls : List Int) : Prop := ∀ k, k < ls.length → ∃ p : Nat, nth ls k = p ∧ p < n
theorem memTo_ok (m k : Nat) : LsOk k (memTo m k) := by
  induction k with
  | zero => intro i hi; simp [memTo] at hi
  | succ k ih =>
    intro i hi
    rw [memTo] at hi ⊢
    split at hi
    · rename_i h
      rw [if_pos h]
      by_cases e : i < (memTo m k).length
      · obtain ⟨p, h1, h2⟩ := ih i e
        exact ⟨p, by rw [nth_left _ _ _ e]; exact h1, by omega⟩
      · have e2 : i = (memTo m k).length := by simp at hi; omega
        subst e2
        exact ⟨k, nth_snoc _ _ _ rfl, by omega⟩
    · rename_i h
      rw [if_neg h]
      obtain ⟨p, h1, h2⟩ := ih i hi
      exact ⟨p, h1, by omega⟩

theorem boxF1 (w : World) (n : Int) (a : Option Addr) (l c : Nat) : ∃ W : World, W = (w.alloc (.cells #[.int .i64 n, .slice a l c] 26)).alloc (.cells #[.int .i64 0, .slice none 0 0] 26) ∧
    Hid (Below w.heap.size w W) ∧ Hid (Bx W w.heap.size n a l c) ∧ Hid (Bz W (w.heap.size + 1)) ∧ W.heap.size = w.heap.size + 1 + 1 := by
  refine ⟨_, rfl, Lib.hid (((Below.refl w.heap.size w).alloc (Nat.le_refl _) _).alloc (by simp) _), Lib.hid ((Bx.new w n a l c _).keep (alloc_keep _ _).1), ?_, by simp⟩
  have := Bz.new (w.alloc (.cells #[.int .i64 n, .slice a l c] 26))
  exact Lib.hid (by simpa using this)

def arTo (xs ls : List Int) : Nat → List Int
  | 0 => []
  | k + 1 => arTo xs ls k ++ [arF xs ls k]
theorem arTo_len (xs ls : List Int) (k : Nat) : (arTo xs ls k).length = k := by induction k with | zero => rfl | succ k ih => simp [arTo, ih]
theorem arTo_tab (xs ls : List Int) (k : Nat) : arTo xs ls k = tab k (arF xs ls) := by
  induction k with
  | zero => rfl
  | succ k ih => rw [arTo, ih]; unfold tab; rw [List.range_succ, List.map_append]; rfl
theorem own_ar {w : World} {B k : Nat} {v : Value} {xs ls : List Int} (h : w.ownsRow B 2 1 v k ((arTo xs ls k).map (Value.int .i64))) : Own w B v (arTo xs ls k) := by
  unfold Own; rw [arTo_len]; exact h

end Go.Proofs.YthjagdkploladaaDoor

/- Contracts of arranged of the program and of PartOfFrame of both. Conditions: those in the theorems. -/
namespace Go.Proofs.YthjagdkploladaaDoor
open Go.RowKit

/-- The row under way: entries below i are done. -/
def arS (xs ls : List Int) (i t : Nat) : Int := if t < i then arF xs ls t else 0
theorem arS_start (xs ls : List Int) (t : Nat) : arS xs ls 0 t = 0 := by unfold arS; rw [if_neg (by omega)]
theorem arS_all {xs ls : List Int} {n t : Nat} (h : t < n) : arS xs ls n t = arF xs ls t := by unfold arS; rw [if_pos h]
theorem arS_set {xs ls : List Int} {k : Nat} {z : Int} (hz : z = arF xs ls k) (t : Nat) : (if t = k then z else arS xs ls k t) = arS xs ls (k + 1) t := by
  unfold arS
  by_cases e : t = k
  · subst e; rw [if_pos rfl, if_pos (by omega), hz]
  · rw [if_neg e]
    by_cases h2 : t < k
    · rw [if_pos h2, if_pos (by omega)]
    · rw [if_neg h2, if_neg (by omega)]

def prL (n : Int) (xs : List Int) (m : Int) : List Int := if cwV n xs m = 0 then arV xs (memTo m.toNat xs.length) else []
theorem pr_ok {n m : Int} {xs : List Int} (h : cwV n xs m = 0) : prL n xs m = arV xs (memTo m.toNat xs.length) := if_pos h
theorem pr_bad {n m : Int} {xs : List Int} (h : ¬ cwV n xs m = 0) : prL n xs m = [] := if_neg h
theorem RF.bad' {w : World} {B : Nat} {c c' n : Int} {xs : List Int} (h : c = c') (hn : n = 0) (hx : xs = []) : RF w B n c' xs (.returned (.tuple #[.agg #[.int .i64 0, .slice none 0 0], .int .i64 c])) := by
  subst h hn hx
  exact ⟨_, rfl, OwnF.mk (World.ownsRow_nil _ _ _ _)⟩

end Go.Proofs.YthjagdkploladaaDoor

/- The contract of the model's l05Depth. Conditions: those in the theorem. -/
namespace Go.Proofs.YthjagdkploladaaDoor
open Go.RowKit

theorem ck_upB {xs : List Int} (hn : xs.length ≤ 30) (hr : Rel xs.length (nth xs)) {w v : Nat} (hw : w < xs.length) (hv : v < xs.length) : up xs w v = (!(nth (ckL xs) v == nth (ckL xs) w) && bitB (rchV xs (one w)) v) := by
  obtain ⟨c1, -⟩ := rc_T hn hr
  rw [ck_up hn hr hw hv, rchV_one hn hr hw, bitB_T ((c1 w).bd hn)]

end Go.Proofs.YthjagdkploladaaDoor
