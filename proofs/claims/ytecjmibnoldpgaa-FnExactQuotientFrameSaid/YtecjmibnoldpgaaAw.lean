/- The mask of all worlds of a frame: the program's contract. Conditions: those in the theorems. -/
import Derived.Test.YtecjmibnoldpgaaIsFr
namespace Go.Proofs.Ytecjmibnoldpgaa
open Go.RowKit

set_option maxHeartbeats 400000 in
theorem allWorlds_any (n : Int) (a : Option Addr) (len cap : Nat) (w : World) (hn : 0 ≤ n) (hn2 : n ≤ 30) :
    Calls Try.prog 88 #[.agg #[.int .i64 n, .slice a len cap]] w fun e w' => e = .returned (.int .i64 (full n)) ∧ Below w.heap.size w w' := by
  have HB := Lib.hid (boxF (w := w) n a len cap)
  go_enter Try.func88, Try.ntmps88
  go_wp2
  go_ret
  exact ⟨rfl, HB.out⟩

end Go.Proofs.Ytecjmibnoldpgaa
