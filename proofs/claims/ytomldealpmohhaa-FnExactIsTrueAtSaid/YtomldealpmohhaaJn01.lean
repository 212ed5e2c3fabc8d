/- 3 texts in one: MoD, Aw, Wl. -/
import Derived.Test.YtomldealpmohhaaIsMo
import Derived.Test.YtomldealpmohhaaRm
import Derived.Test.YtomldealpmohhaaIsFr
/- A model's parts at their places. Conditions: those in the theorems. -/
namespace Go.Proofs.Ytomldealpmohhaa
open Go.RowKit

/-- A model's parts at their places. -/
def Mo (w : World) (n : Int) (a : Option Addr) (a' : Option Addr) (xs ys : List Int) : Prop := n = xs.length ∧ xs.length ≤ 8 ∧ (mksTo xs.length xs xs.length = true ∧ mksTo xs.length ys ys.length = true) ∧ ys.length = 6 ∧ At w a xs.length xs ∧ At w a' ys.length ys
theorem Mo.keep {w w' : World} {n : Int} {a a' : Option Addr} {xs ys : List Int} (h : Mo w n a a' xs ys) (hb : Below w.heap.size w w') : Mo w' n a a' xs ys := ⟨h.1, h.2.1, h.2.2.1, h.2.2.2.1, h.2.2.2.2.1.keep hb (Nat.le_refl _), h.2.2.2.2.2.keep hb (Nat.le_refl _)⟩
theorem Mo.drw {w : World} {n : Int} {a a' : Option Addr} {xs ys : List Int} (h : Mo w n a a' xs ys) : Mo w.drew n a a' xs ys := h
theorem Mo.of {w : World} {n : Int} {xs ys : List Int} {a a' : Option Addr} (h : isM n xs ys = true) (h1 : At w a xs.length xs) (h2 : At w a' ys.length ys) : Mo w n a a' xs ys := by
  obtain ⟨-, e1, e2, e3, e4, e5⟩ := isM_ok h
  exact ⟨e1, e2, ⟨e3, e5⟩, e4, h1, h2⟩

theorem isM_rel {n : Int} {xs ys : List Int} (h : isM n xs ys = true) : n = xs.length ∧ xs.length ≤ 8 ∧ Rel xs.length (nth xs) ∧ ∀ i, InMk xs.length (nth ys i) := by
  obtain ⟨h1, h2, h3, h4, h5, h6⟩ := isM_ok h
  refine ⟨h2, h3, (frB_ok h1).2.2.2, fun i => ?_⟩
  by_cases hi : i < ys.length
  · exact (mksTo_iff (by omega) ys ys.length).1 h6 i hi
  · rw [nth_high (by omega)]; exact InMk.zero _

end Go.Proofs.Ytomldealpmohhaa

/- The mask of all worlds of a frame: the program's contract. Conditions: those in the theorems. -/
namespace Go.Proofs.Ytomldealpmohhaa
open Go.RowKit

set_option maxHeartbeats 400000 in
theorem allWorlds_any (n : Int) (a : Option Addr) (len cap : Nat) (w : World) (hn : 0 ≤ n) (hn2 : n ≤ 30) :
    Calls Try.prog 97 #[.agg #[.int .i64 n, .slice a len cap]] w fun e w' => e = .returned (.int .i64 (full n)) ∧ Below w.heap.size w w' := by
  have HB := Lib.hid (boxF (w := w) n a len cap)
  go_enter Try.func97, Try.ntmps97
  go_wp2
  go_ret
  exact ⟨rfl, HB.out⟩

end Go.Proofs.Ytomldealpmohhaa

/- Is a number one of a world: contracts of both sides. Conditions: those in the theorems. -/
namespace Go.Proofs.Ytomldealpmohhaa
open Go.RowKit

def wlB (n m : Int) : Bool := decide (0 ≤ m) && decide (m < n)

set_option maxHeartbeats 400000 in
theorem l05World_any (n m : Int) (a : Option Addr) (len cap : Nat) (w : World) (hn : 0 ≤ n) (hn2 : n ≤ 30) :
    Calls Try.prog 51 #[.agg #[.int .i64 n, .slice a len cap], .int .i64 m] w fun e w' => e = .returned (.bool (wlB n m)) ∧ Below w.heap.size w w' := by
  have HB := Lib.hid (boxF (w := w) n a len cap)
  have E := Lib.hid (show inB m 0 (n - 1) = wlB n m by rw [inB, wlB, Bool.eq_iff_iff]; simp; omega)
  go_enter Try.func51, Try.ntmps51
  go_wp2_with (go_at_call 96; refine (l01In_any _ _ _ _).mono ?_; rintro e w' ⟨rfl, rfl⟩)
  go_ret
  exact ⟨ret_bool E.out, HB.out⟩

theorem isBelow_any (m n : Int) (w : World) : Calls Try.prog 53 #[.int .i64 m, .int .i64 n] w fun e w' => e = .returned (.bool (wlB n m)) ∧ w = w' := by
  by_cases h : 0 ≤ m
  all_goals
    go_enter Try.func53, Try.ntmps53
    go_wp2
    go_ret
    exact ⟨ret_bool (by first | (simp [wlB, h]; done) | (simp [wlB]; omega)), rfl⟩

end Go.Proofs.Ytomldealpmohhaa
