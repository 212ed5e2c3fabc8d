/- Contracts of the model's functions that draw the arguments of the laws of chapter 2. Conditions: those in the theorems. -/
import Derived.Test.YtfkahkhmnchnjaaAny
namespace Go.Proofs.Ytfkahkhmnchnjaa
open Go.RowKit

theorem bigN (a : Option Addr) (len cap : Nat) (w : World) (h : len ≤ 4096) : Calls Try.prog 6 #[.slice a len cap] w fun e w' => e = .returned (.bool false) ∧ w = w' := by
  go_enter Try.func6, Try.ntmps6
  go_wp2
  go_ret
  exact ⟨ret_bool (decide_eq_false (by omega)), rfl⟩
theorem bigY (a : Option Addr) (len cap : Nat) (w : World) (h : 4096 < len) : Calls Try.prog 6 #[.slice a len cap] w fun e w' => e = .returned (.bool true) ∧ w = w' := by
  go_enter Try.func6, Try.ntmps6
  go_wp2
  go_ret
  exact ⟨ret_bool (decide_eq_true (by omega)), rfl⟩

set_option maxHeartbeats 2000000 in
theorem DrawFormulaText_any (a : Option Addr) (len cap : Nat) (w : World) (hc : Code w.heap.size w a len) :
    Calls Try.prog 7 #[.slice a len cap] w fun e w' => (∃ v1 z1, e = .returned v1 ∧ OwnN w' w.heap.size v1 z1 ∧ z1.length ≤ 64) ∧ Below w.heap.size w w' := by
  have HC0 := Lib.hid hc
  clear hc
  go_enter Try.func7, Try.ntmps7
  go_wp2_with fail
  refine (l01From_any a len cap w HC0.out).mono ?_
  rintro e w1 ⟨rfl, hs1, hb1⟩
  have HS := Lib.hid hs1
  have HC := Lib.hid (HC0.out.below hb1)
  have hB1 : w.heap.size ≤ w1.heap.size := hb1.size
  have hB2 : w.heap.size < w1.heap.size := hs1.lt
  have HB := Lib.hid hb1
  clear hs1 hb1 HC0
  go_wp2_with fail
  refine (l02Any_any 20 6 true w.heap.size a len cap w.heap.size _ (Nat.le_refl _) hB1 (by omega) (by omega) HS.out HC.out).mono ?_
  rintro e w2 ⟨⟨va, za, rfl, hoa, hqa⟩, hs, hg⟩
  have La := (Nat.le_refl w1.heap.size)
  have G3 := Lib.hid hg
  have S3 := Lib.hid hs
  clear  hg hs
  have Oa := Lib.hid (hoa.mono La)
  clear hoa La
  go_wp2
  go_ret
  exact ⟨⟨_, _, rfl, Oa.out.mono hB1, hqa⟩, (grown_below G3.out (Nat.le_refl _) HB.out hB1)⟩

end Go.Proofs.Ytfkahkhmnchnjaa
