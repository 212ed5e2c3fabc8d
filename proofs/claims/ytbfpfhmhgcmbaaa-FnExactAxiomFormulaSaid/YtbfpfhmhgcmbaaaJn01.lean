/- 2 texts in one: Part, True. -/
import Derived.Test.YtbfpfhmhgcmbaaaNodeA
import Derived.Test.YtbfpfhmhgcmbaaaIsF
/- Contracts of the program's functions that walk the parts of a list of nodes: where a part ends, is it a negation, how high and deep is it. Conditions: those in the theorems. -/
namespace Go.Proofs.Ytbfpfhmhgcmbaaa
open Go.RowKit

theorem pe_lt {xs : List Nd} {len : Nat} {o : Int} {i : Nat} (ho : 0 < o) (hi : i ≤ len) (h : 0 ≤ pe xs (len - i) o i) : i < len := by
  by_cases e : i = len
  · subst e; rw [Nat.sub_self, pe, if_neg (by omega)] at h; omega
  · omega
theorem pe_step {xs : List Nd} {len : Nat} {o : Int} {i : Nat} (ho : 0 < o) (hi : i < len) : pe xs (len - i) o i = pe xs (len - (i + 1)) (o - 1 + prt (kd xs i)) (i + 1) := by
  rw [show len - i = (len - (i + 1)) + 1 by omega, pe, if_neg (by omega)]
theorem pe_zero {xs : List Nd} {f : Nat} {i : Nat} : pe xs f 0 i = i := by cases f <;> rw [pe, if_pos (by omega)]

end Go.Proofs.Ytbfpfhmhgcmbaaa

/- The contract of the model's l02True. No conditions. -/
namespace Go.Proofs.Ytbfpfhmhgcmbaaa
open Go.RowKit

theorem l02True_all (w : World) : Calls Try.prog 69 #[] w fun e w' => ∃ v, e = .returned v ∧ OwnN w' w.heap.size v [(4, 0), (1, 0), (1, 0)] ∧ Below w.heap.size w w' := by
  go_enter Try.func69, Try.ntmps69
  go_wp2_with fail
  refine (l02False_any _).mono ?_
  rintro e w1 ⟨v1, rfl, ho1, hb1⟩
  obtain ⟨a1, c1, rfl, at1, -, -, -⟩ := ho1.at
  have B1 := Lib.hid hb1
  have A1 := Lib.hid at1
  clear hb1 ho1 at1
  go_wp2_with fail
  refine (l02Not_any [(1, 0)] _ _ _ _ (by simp) (by simp) A1.out).mono ?_
  rintro e w2 ⟨v2, rfl, ho2, hb2⟩
  have B2 := Lib.hid (B1.out.trans (hb2.mono B1.out.size))
  have O2 := Lib.hid (ho2.mono B1.out.size)
  clear hb2 ho2
  go_wp2
  go_ret
  exact ⟨_, rfl, O2.out, B2.out⟩

end Go.Proofs.Ytbfpfhmhgcmbaaa
