/- Contracts of the program's functions that read a list of nodes: is it a formula, where does a part end. Conditions: those in the theorems. -/
import Derived.Deep.RegionWith
import Derived.RegionTactic
import Derived.BigRegion
import Derived.ChangeAlike
import Derived.Test.YtomldealpmohhaaNodes
namespace Go.Proofs.Ytomldealpmohhaa
open Go.RowKit

set_option maxHeartbeats 400000 in
theorem partCount_any (k : Int) (w : World) : Calls Try.prog 136 #[.int .i64 k] w fun e w' => e = .returned (.int .i64 (prt k)) ∧ w = w' := by
  by_cases h : k = 2 ∨ k = 3 ∨ k = 4 ∨ k = 5 ∨ k = 6
  · rcases h with rfl | rfl | rfl | rfl | rfl
    all_goals
      go_enter Try.func136, Try.ntmps136
      go_wp2
      go_ret
      exact ⟨rfl, rfl⟩
  · have e2 : (k == 2) = false := by simp; omega
    have e3 : (k == 3) = false := by simp; omega
    have e4 : (k == 4) = false := by simp; omega
    have e5 : (k == 5) = false := by simp; omega
    have e6 : (k == 6) = false := by simp; omega
    have HP : Hid (prt k = 0) := by show prt k = 0; unfold prt; rw [if_neg (by omega), if_neg (by omega)]
    clear h
    go_enter Try.func136, Try.ntmps136
    go_wp2
    go_ret
    exact ⟨ret_int HP.out.symm, rfl⟩

def okN' (k s : Int) : Bool := if k = 0 then decide (0 ≤ s) && decide (s < 6) else decide (0 < k) && decide (k < 7) && decide (s = 0)
theorem okN_eq (k s : Int) : okN' k s = okN k s := by
  unfold okN' okN inB
  rw [Bool.eq_iff_iff]
  split
  · subst k; simp; omega
  · simp; omega

set_option maxHeartbeats 1000000 in
theorem isNode_any (k s : Int) (w : World) : Calls Try.prog 134 #[.agg #[.int .i64 k, .int .i64 s]] w fun e w' => e = .returned (.bool (okN k s)) ∧ Below w.heap.size w w' := by
  rw [← okN_eq]
  by_cases h0 : k = 0
  · subst h0
    have HE : Hid (okN' 0 s = (decide (0 ≤ s) && decide (s < 6))) := rfl
    by_cases h1 : 0 ≤ s
    · by_cases h2 : s < 6
      all_goals
        go_enter Try.func134, Try.ntmps134
        go_wp2
        go_ret
        exact ⟨ret_bool (by rw [HE.out]; simp <;> omega), (Below.refl _ _).alloc (Nat.le_refl _) _⟩
    · have h1' : decide (0 ≤ s) = false := by simpa using h1
      go_enter Try.func134, Try.ntmps134
      go_wp2
      go_ret
      exact ⟨ret_bool (by rw [HE.out]; simp <;> omega), (Below.refl _ _).alloc (Nat.le_refl _) _⟩
  · have HE : Hid (okN' k s = (decide (0 < k) && decide (k < 7) && decide (s = 0))) := by show okN' k s = _; unfold okN'; rw [if_neg h0]
    have h0' : (k == 0) = false := by simpa using h0
    by_cases h1 : 0 < k
    · by_cases h2 : k < 7
      · cases h3 : (s == 0)
        all_goals
          go_enter Try.func134, Try.ntmps134
          go_wp2
          go_ret
          exact ⟨ret_bool (by rw [HE.out]; simp at h3; simp [h1, h2, h3]), (Below.refl _ _).alloc (Nat.le_refl _) _⟩
      · have h2' : decide (k < 7) = false := by simpa using h2
        go_enter Try.func134, Try.ntmps134
        go_wp2
        go_ret
        exact ⟨ret_bool (by rw [HE.out, h2']; simp), (Below.refl _ _).alloc (Nat.le_refl _) _⟩
    · have h1' : decide (0 < k) = false := by simpa using h1
      go_enter Try.func134, Try.ntmps134
      go_wp2
      go_ret
      exact ⟨ret_bool (by rw [HE.out, h1']; simp), (Below.refl _ _).alloc (Nat.le_refl _) _⟩

end Go.Proofs.Ytomldealpmohhaa
