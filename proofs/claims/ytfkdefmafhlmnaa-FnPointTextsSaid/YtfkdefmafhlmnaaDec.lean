/- The model's digit of a number below ten, and the text of a variable. Conditions: those in the theorems. -/
import Derived.Test.YtfkdefmafhlmnaaJn08
import Derived.Test.YtfkdefmafhlmnaaJn09
namespace Go.Proofs.Ytfkdefmafhlmnaa
open Go.RowKit

theorem conv1 (c : UInt8) (z : Int) (hz : (c.toNat : Int) = z) (w : World) : (convert 22 9 (.slice (some ⟨w.heap.size, 0, none⟩) 1 1)).run Try.prog (w.alloc (.cells #[.int .u8 z] 5)) = .ok (.string (str [c])) (w.alloc (.cells #[.int .u8 z] 5)) := by
  subst hz
  have hrun := run_convert_bytes_arg (P := Try.prog) (w.alloc (.cells #[.int .u8 (c.toNat : Int)] 5)) 22 5 Try.underlying22 Try.underlying5 w.heap.size 0 1 1 [(c.toNat : Int)] rfl (fun i hi => by
    obtain rfl : i = 0 := by omega
    exact World.cell?_alloc_at _ _ _ _ rfl) 9 Try.underlying9
  rw [hrun]
  have := strOfNums_map [c]
  rw [show ([c].map fun c => (c.toNat : Int)) = [(c.toNat : Int)] from rfl] at this
  rw [this]; rfl

set_option maxHeartbeats 1000000 in
set_option maxRecDepth 100000 in
theorem l01Dec_d (x : Int) (h0 : 0 ≤ x) (h1 : x ≤ 9) (w : World) : Calls Try.prog 68 #[.int .i64 x] w fun e w' => e = .returned (.string (str [dg x])) ∧ Below w.heap.size w w' := by
  have hd := dg_cases h0 h1
  have hx : x = 0 ∨ x = 1 ∨ x = 2 ∨ x = 3 ∨ x = 4 ∨ x = 5 ∨ x = 6 ∨ x = 7 ∨ x = 8 ∨ x = 9 := by omega
  have hconv := conv1 (dg x) _ hd w
  have BA := Lib.hid ((Below.refl w.heap.size w).alloc (Nat.le_refl _) (.cells #[.int .u8 (48 + x)] 5))
  obtain ⟨S, hS⟩ : ∃ S, S = str [dg x] := ⟨_, rfl⟩
  rw [← hS] at hconv ⊢
  clear hS hd h0 h1
  rcases hx with rfl | rfl | rfl | rfl | rfl | rfl | rfl | rfl | rfl | rfl
  all_goals
    simp only [Int.reduceAdd] at hconv
    go_enter Try.func68, Try.ntmps68
    go_wp2
    go_ret
    exact ⟨rfl, BA.out⟩

theorem l10Var_any (s : Int) (w : World) : Calls Try.prog 70 #[.int .i64 s] w fun e w' => ∃ v, e = .returned v ∧ OwnN w' w.heap.size v [(0, s)] ∧ Below w.heap.size w w' := by
  go_enter Try.func70, Try.ntmps70
  go_wp2
  go_ret
  exact ⟨_, rfl, litN w _ 0 s (Nat.le_refl _), (Below.refl _ _).alloc (Nat.le_refl _) _⟩

end Go.Proofs.Ytfkdefmafhlmnaa
