/- What the program's numbered answers at labels that are numbers. Conditions: those in the theorems. -/
import Derived.DeepKeys4
import Derived.Test.YtecjmibnoldpgabNuM
namespace Go.Proofs.Ytecjmibnoldpgab
open Go.RowKit Go.Maps

theorem rowIs_grown {w w' : World} {b n : Nat} {t : TypeId} {f : Nat → Value} {row : Option Nat} (h : w.rowIs b t n f) (hg : w.grownBy w' row) (hne : some b ≠ row) : w'.rowIs b t n f := by
  obtain ⟨c, hb, hs, hc⟩ := h
  exact ⟨c, (hg.block b (Array.getElem?_eq_some_iff.1 hb).1 hne).trans hb, hs, hc⟩
def nuS (F : Nat → Int) (k t : Nat) : Int := if t < k then F t else 0
theorem nuS_set {F : Nat → Int} {k : Nat} {z : Int} (hz : z = F k) (t : Nat) : (if t = k then z else nuS F k t) = nuS F (k + 1) t := by
  unfold nuS
  by_cases e : t = k
  · subst e; rw [if_pos rfl, if_pos (by omega), hz]
  · rw [if_neg e]
    by_cases h2 : t < k
    · rw [if_pos h2, if_pos (by omega)]
    · rw [if_neg h2, if_neg (by omega)]
theorem zero64 (w : World) : (zeroValue 2).run Try.prog w = .ok (.int .i64 0) w := by kernel_rfl
theorem size_pos' : ∃ m, Try.prog.types.size = m + 1 := ⟨Try.prog.types.size - 1, by have h : (0 < Try.prog.types.size) := of_decide_eq_true (by kernel_rfl); omega⟩

theorem wf64 {z : Int} (h0 : 0 ≤ z) (h1 : z ≤ 4611686018427387904) : (Lit.int .i64 z).wf = true := by
  have a : IntKind.i64.min = -9223372036854775808 := by rfl
  have b : IntKind.i64.max = 9223372036854775807 := by rfl
  rw [Lit.wf, a, b]
  simp
  omega


theorem key64_mk {z : Int} (h : (Lit.int .i64 z).wf = true) : keyOf Try.prog 2 (.int .i64 z) = some (.int .i64 z) := keyOf_int_mk Try.underlying2 h

end Go.Proofs.Ytecjmibnoldpgab
