/- The contract of the model's l02True. No conditions. -/
import Derived.Test.YtfpnmeacnhcakaaNodeA
namespace Go.Proofs.Ytfpnmeacnhcakaa
open Go.RowKit

theorem l02True_all (w : World) : Calls Try.prog 26 #[] w fun e w' => ∃ v, e = .returned v ∧ OwnN w' w.heap.size v [(4, 0), (1, 0), (1, 0)] ∧ Below w.heap.size w w' := by
  go_enter Try.func26, Try.ntmps26
  go_wp2_with fail
  refine (l02False_any _).mono ?_
  rintro e w1 ⟨v1, rfl, ho1, hb1⟩
  obtain ⟨a1, c1, rfl, at1, -, -, -⟩ := ho1.at
  have B1 := Lib.hid hb1
  have A1 := Lib.hid at1
  clear hb1 ho1 at1
  go_wp2_with fail
  refine (l02Not_any [(1, 0)] _ _ _ _ (by simp) (by simp) A1.out).mono ?_
  rintro e w2 ⟨v2, rfl, ho2, hb2⟩
  have B2 := Lib.hid (B1.out.trans (hb2.mono B1.out.size))
  have O2 := Lib.hid (ho2.mono B1.out.size)
  clear hb2 ho2
  go_wp2
  go_ret
  exact ⟨_, rfl, O2.out, B2.out⟩

end Go.Proofs.Ytfpnmeacnhcakaa
