/- Contracts of the reach of a frame and of GeneratedWorlds, of the model and of the program. Conditions: those in the theorems. -/
import Derived.Test.YtfdoecnpnfojpaaIsFr
namespace Go.Proofs.Ytfdoecnpnfojpaa
open Go.RowKit

theorem bx1 {w w1 : World} {n : Int} {a : Option Addr} {len cap : Nat} (hb : Below (w.alloc (.cells #[.int .i64 n, .slice a len cap] 63)).heap.size (w.alloc (.cells #[.int .i64 n, .slice a len cap] 63)) w1) : Bx w1 w.heap.size n a len cap :=
  (Bx.new w n a len cap 63).keep hb

def gwV (n : Int) (xs : List Int) (m : Int) : Int := if cwV n xs m = 0 then rchV xs m else 0
theorem gw_ok {n m : Int} {xs : List Int} (h : cwV n xs m = 0) : Ending.returned (.tuple #[.int .i64 (rchV xs m), .int .i64 0]) = .returned (.tuple #[.int .i64 (gwV n xs m), .int .i64 (cwV n xs m)]) := by rw [gwV, if_pos h, h]
theorem gw_bad {n m c : Int} {xs : List Int} (h : ¬ cwV n xs m = 0) (hc : c = cwV n xs m) : Ending.returned (.tuple #[.int .i64 0, .int .i64 c]) = .returned (.tuple #[.int .i64 (gwV n xs m), .int .i64 (cwV n xs m)]) := by rw [gwV, if_neg h, hc]

end Go.Proofs.Ytfdoecnpnfojpaa
