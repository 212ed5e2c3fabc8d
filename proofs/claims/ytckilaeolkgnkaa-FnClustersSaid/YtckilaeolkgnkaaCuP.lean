/- Contracts of the program's masks of clusters, and of ClustersOf of both. Conditions: those in the theorems. -/
import Derived.Test.YtckilaeolkgnkaaCuM
import Derived.Test.YtckilaeolkgnkaaClu
import Derived.Test.YtckilaeolkgnkaaJn01
namespace Go.Proofs.Ytckilaeolkgnkaa
open Go.RowKit

set_option maxHeartbeats 400000 in
theorem clusterMasks_any (n : Int) (xs : List Int) (a : Option Addr) (cap : Nat) (w : World) (h30 : xs.length ≤ 30) (h : At w a xs.length xs) :
    Calls Try.prog 38 #[.agg #[.int .i64 n, .slice a xs.length cap]] w fun e w' => ∃ v, e = .returned v ∧ Own w' w.heap.size v (cuL xs) ∧ Below w.heap.size w w' := by
  have HB := Lib.hid (boxF (w := w) n a xs.length cap)
  have H := Lib.hid (h.keep HB.out (Nat.le_refl _))
  have hrl := rcL_len xs
  clear h
  go_enter Try.func38, Try.ntmps38
  go_wp2_with fail
  refine (reach_any n xs _ _ _ _ h30 H.out).mono ?_
  rintro e w1 ⟨v1, rfl, ho, hb⟩
  have B1 := Lib.hid (HB.out.trans (hb.mono HB.out.size))
  obtain ⟨a1, c1, rfl, hat, -, -, -⟩ := ho.at
  rw [hrl] at hat ⊢
  have L1 := Lib.hid hat
  clear ho hb hat
  go_wp2_with fail
  refine (inverse_any (rcL xs) _ _ _ _ h30 L1.out).mono ?_
  rintro e w2 ⟨v2, rfl, ho, hb⟩
  have B2 := Lib.hid (B1.out.trans (hb.mono B1.out.size))
  have L2 := Lib.hid (L1.out.keep hb (Nat.le_refl _))
  obtain ⟨a2, c2, rfl, hat, -, -, -⟩ := ho.at
  rw [tab_len] at hat ⊢
  have I2 := Lib.hid hat
  clear ho hb hat
  go_wp2_with fail
  refine (common_any (rcL xs) _ xs.length _ _ _ _ _ h30 L2.out I2.out).mono ?_
  rintro e w3 ⟨v3, rfl, ho, hb⟩
  have B3 := Lib.hid (B2.out.trans (hb.mono B2.out.size))
  have O3 := Lib.hid (ho.mono B2.out.size)
  clear ho hb
  go_wp2
  go_ret
  exact ⟨_, rfl, O3.out, B3.out⟩

end Go.Proofs.Ytckilaeolkgnkaa
