/- The contract of the model's l05Depth. Conditions: those in the theorem. -/
import Derived.Test.YtckilaeolkgnkaaCkM
import Derived.Test.YtckilaeolkgnkaaJn02
namespace Go.Proofs.Ytckilaeolkgnkaa
open Go.RowKit

theorem ck_upB {xs : List Int} (hn : xs.length ≤ 30) (hr : Rel xs.length (nth xs)) {w v : Nat} (hw : w < xs.length) (hv : v < xs.length) : up xs w v = (!(nth (ckL xs) v == nth (ckL xs) w) && bitB (rchV xs (one w)) v) := by
  obtain ⟨c1, -⟩ := rc_T hn hr
  rw [ck_up hn hr hw hv, rchV_one hn hr hw, bitB_T ((c1 w).bd hn)]

end Go.Proofs.Ytckilaeolkgnkaa
