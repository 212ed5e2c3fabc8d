/- 2 texts in one: Wl, Prt. -/
import Derived.Test.YtbfnagmjnaacoaaIsFr
import Derived.Test.YtbfnagmjnaacoaaJn03
import Derived.Test.YtbfnagmjnaacoaaJn02
/- Is a number one of a world: contracts of both sides. Conditions: those in the theorems. -/
namespace Go.Proofs.Ytbfnagmjnaacoaa
open Go.RowKit

def wlB (n m : Int) : Bool := decide (0 ≤ m) && decide (m < n)

set_option maxHeartbeats 400000 in
theorem l05World_any (n m : Int) (a : Option Addr) (len cap : Nat) (w : World) (hn : 0 ≤ n) (hn2 : n ≤ 30) :
    Calls Try.prog 48 #[.agg #[.int .i64 n, .slice a len cap], .int .i64 m] w fun e w' => e = .returned (.bool (wlB n m)) ∧ Below w.heap.size w w' := by
  have HB := Lib.hid (boxF (w := w) n a len cap)
  have E := Lib.hid (show inB m 0 (n - 1) = wlB n m by rw [inB, wlB, Bool.eq_iff_iff]; simp; omega)
  go_enter Try.func48, Try.ntmps48
  go_wp2_with (go_at_call 103; refine (l01In_any _ _ _ _).mono ?_; rintro e w' ⟨rfl, rfl⟩)
  go_ret
  exact ⟨ret_bool E.out, HB.out⟩

theorem isBelow_any (m n : Int) (w : World) : Calls Try.prog 110 #[.int .i64 m, .int .i64 n] w fun e w' => e = .returned (.bool (wlB n m)) ∧ w = w' := by
  by_cases h : 0 ≤ m
  all_goals
    go_enter Try.func110, Try.ntmps110
    go_wp2
    go_ret
    exact ⟨ret_bool (by first | (simp [wlB, h]; done) | (simp [wlB]; omega)), rfl⟩

end Go.Proofs.Ytbfnagmjnaacoaa

/- Contracts of the frame of a list of worlds, of the model and of the program, and of PartOfFrame. Conditions: those in the theorems. -/
namespace Go.Proofs.Ytbfnagmjnaacoaa
open Go.RowKit

/-- The mask of the indices, in a list of worlds, of the members of x. -/
def sqTo (ls : List Int) (x : Int) : Nat → Int
  | 0 => 0
  | k + 1 => if bitB x (nth ls k) then bits .or .i64 (sqTo ls x k) (one k) else sqTo ls x k
def arF (xs ls : List Int) (i : Nat) : Int := sqTo ls (nth xs (nth ls i).toNat) ls.length
def arV (xs ls : List Int) : List Int := tab ls.length (arF xs ls)
def LsOk (n : Nat) (ls : List Int) : Prop := ∀ k, k < ls.length → ∃ p : Nat, nth ls k = p ∧ p < n
theorem memTo_ok (m k : Nat) : LsOk k (memTo m k) := by
  induction k with
  | zero => intro i hi; simp [memTo] at hi
  | succ k ih =>
    intro i hi
    rw [memTo] at hi ⊢
    split at hi
    · rename_i h
      rw [if_pos h]
      by_cases e : i < (memTo m k).length
      · obtain ⟨p, h1, h2⟩ := ih i e
        exact ⟨p, by rw [nth_left _ _ _ e]; exact h1, by omega⟩
      · have e2 : i = (memTo m k).length := by simp at hi; omega
        subst e2
        exact ⟨k, nth_snoc _ _ _ rfl, by omega⟩
    · rename_i h
      rw [if_neg h]
      obtain ⟨p, h1, h2⟩ := ih i hi
      exact ⟨p, h1, by omega⟩

theorem boxF1 (w : World) (n : Int) (a : Option Addr) (l c : Nat) : ∃ W : World, W = (w.alloc (.cells #[.int .i64 n, .slice a l c] 38)).alloc (.cells #[.int .i64 0, .slice none 0 0] 38) ∧
    Hid (Below w.heap.size w W) ∧ Hid (Bx W w.heap.size n a l c) ∧ Hid (Bz W (w.heap.size + 1)) ∧ W.heap.size = w.heap.size + 1 + 1 := by
  refine ⟨_, rfl, Lib.hid (((Below.refl w.heap.size w).alloc (Nat.le_refl _) _).alloc (by simp) _), Lib.hid ((Bx.new w n a l c _).keep (alloc_keep _ _).1), ?_, by simp⟩
  have := Bz.new (w.alloc (.cells #[.int .i64 n, .slice a l c] 38))
  exact Lib.hid (by simpa using this)

def arTo (xs ls : List Int) : Nat → List Int
  | 0 => []
  | k + 1 => arTo xs ls k ++ [arF xs ls k]
theorem arTo_len (xs ls : List Int) (k : Nat) : (arTo xs ls k).length = k := by induction k with | zero => rfl | succ k ih => simp [arTo, ih]
theorem arTo_tab (xs ls : List Int) (k : Nat) : arTo xs ls k = tab k (arF xs ls) := by
  induction k with
  | zero => rfl
  | succ k ih => rw [arTo, ih]; unfold tab; rw [List.range_succ, List.map_append]; rfl
theorem own_ar {w : World} {B k : Nat} {v : Value} {xs ls : List Int} (h : w.ownsRow B 2 1 v k ((arTo xs ls k).map (Value.int .i64))) : Own w B v (arTo xs ls k) := by
  unfold Own; rw [arTo_len]; exact h

end Go.Proofs.Ytbfnagmjnaacoaa
