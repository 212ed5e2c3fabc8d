/- Literals as formulas, and their joins, by the model and by the program. Conditions: those in the theorems. -/
import Derived.Test.YtfpnmeacnhcakaaAll
import Derived.Test.YtfpnmeacnhcakaaOwnL
import Derived.Test.YtfpnmeacnhcakaaSubst
import Derived.Test.YtfpnmeacnhcakaaDrawN
import Derived.Test.YtfpnmeacnhcakaaClM
namespace Go.Proofs.Ytfpnmeacnhcakaa
open Go.RowKit

/-- A literal as a formula. -/
def liF (l : Int) : List Nd := if l % 2 = 1 then [(4, 0), (0, l / 2), (1, 0)] else [(0, l / 2)]
theorem liF_odd {l : Int} (h : l % 2 = 1) : liF l = [(4, 0), (0, l / 2), (1, 0)] := if_pos h
theorem liF_even {l : Int} (h : ¬ l % 2 = 1) : liF l = [(0, l / 2)] := if_neg h
theorem liF_len (l : Int) : 0 < (liF l).length ∧ (liF l).length ≤ 3 := by
  unfold liF
  split <;> exact ⟨by simp, by simp⟩
theorem liF_is {l : Int} (h0 : 0 ≤ l) (h1 : l < 12) : isB (liF l) (liF l).length = true := by
  have hv : (Fm.va (l / 2)).ok := ⟨by omega, by omega⟩
  unfold liF
  split
  · exact fm_is (.bi 4 (.va (l / 2)) .fa) ⟨by decide, hv, trivial⟩ (by simp [Fm.sz])
  · exact fm_is (.va (l / 2)) hv (by simp [Fm.sz])

set_option maxHeartbeats 1000000 in
theorem l04Literal_any (l : Int) (w : World) (h0 : 0 ≤ l) (h1 : l < 12) :
    Calls Try.prog 25 #[.int .i64 l] w fun e w' => ∃ v, e = .returned v ∧ OwnN w' w.heap.size v (liF l) ∧ Below w.heap.size w w' := by
  by_cases h : l % 2 = 1
  · rw [liF_odd h]
    have hh : (l % 2 == 1) = true := by simpa using h
    go_enter Try.func25, Try.ntmps25
    go_wp2_with fail
    refine (l02Var_any (l / 2) _).mono ?_
    rintro e w1 ⟨v1, rfl, ho, hb⟩
    obtain ⟨a1, c1, rfl, hat1, -, -, -⟩ := ho.at
    have A1 := Lib.hid hat1
    have B1 := Lib.hid hb
    clear ho hat1 hb
    go_wp2_with fail
    refine (l02Not_any [(0, l / 2)] a1 1 c1 _ (by omega) (by omega) A1.out).mono ?_
    rintro e w2 ⟨v2, rfl, ho, hb⟩
    have O2 := Lib.hid (ho.mono B1.out.size)
    have B2 := Lib.hid (B1.out.trans (hb.mono B1.out.size))
    clear ho hb
    go_wp2
    go_ret
    exact ⟨_, rfl, O2.out, B2.out⟩
  · rw [liF_even h]
    have hh : (l % 2 == 1) = false := by simpa using h
    go_enter Try.func25, Try.ntmps25
    go_wp2_with fail
    refine (l02Var_any (l / 2) _).mono ?_
    rintro e w1 ⟨v1, rfl, ho, hb⟩
    have O1 := Lib.hid ho
    have B1 := Lib.hid hb
    clear ho hb
    go_wp2
    go_ret
    exact ⟨_, rfl, O1.out, B1.out⟩

set_option maxHeartbeats 1000000 in
theorem literalFormula_any (l : Int) (w : World) (h0 : 0 ≤ l) (h1 : l < 12) :
    Calls Try.prog 39 #[.int .i64 l] w fun e w' => ∃ v, e = .returned v ∧ OwnN w' w.heap.size v (liF l) ∧ Below w.heap.size w w' := by
  by_cases h : l % 2 = 1
  · rw [liF_odd h]
    have hh : (l % 2 == 0) = false := by simp; omega
    go_enter Try.func39, Try.ntmps39
    go_wp2_with fail
    refine (variableNodes_any (l / 2) _).mono ?_
    rintro e w1 ⟨rfl, hat1, ho, hb⟩
    have A1 := Lib.hid hat1
    have B1 := Lib.hid hb
    clear ho hat1 hb
    go_wp2_with fail
    refine (notNodes_any [(0, l / 2)] _ 1 1 _ (by omega) (by omega) A1.out).mono ?_
    rintro e w2 ⟨v2, rfl, ho, hb⟩
    have O2 := Lib.hid (ho.mono B1.out.size)
    have B2 := Lib.hid (B1.out.trans (hb.mono B1.out.size))
    clear ho hb
    go_wp2
    go_ret
    exact ⟨_, rfl, O2.out, B2.out⟩
  · rw [liF_even h]
    have hh : (l % 2 == 0) = true := by simp; omega
    go_enter Try.func39, Try.ntmps39
    go_wp2_with fail
    refine (variableNodes_any (l / 2) _).mono ?_
    rintro e w1 ⟨rfl, hat1, ho, hb⟩
    have O1 := Lib.hid ho
    have B1 := Lib.hid hb
    clear ho hb hat1
    go_wp2
    go_ret
    exact ⟨_, rfl, O1.out, B1.out⟩

end Go.Proofs.Ytfpnmeacnhcakaa
