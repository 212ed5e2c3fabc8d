/- The text of a frame, as a list of bytes. Conditions: those in the theorems. -/
import Derived.Test.YtngllobakfnhiaaDoorIsFr
import Derived.Test.YtngllobakfnhiaaDoorMem
import Derived.Test.YtngllobakfnhiaaDoorByF
namespace Go.Proofs.YtngllobakfnhiaaDoor
open Go.RowKit

/-- The text of an arrow; of the first j members of a world's mask; of the first i worlds. -/
def arT (x y : Int) : List UInt8 := [32, dgF x, 62, dgF y]
def rwT (x : Int) (ks : List Int) : List UInt8 := ks.flatMap (arT x)
def fxT (xs : List Int) : Nat → List UInt8
  | 0 => []
  | i + 1 => fxT xs i ++ rwT i (memTo (nth xs i).toNat 30)
def ftT (n : Int) (xs : List Int) : List UInt8 := [dgF n, 58] ++ fxT xs xs.length
theorem rwT_app (x : Int) (ks ls : List Int) : rwT x (ks ++ ls) = rwT x ks ++ rwT x ls := by simp [rwT]
theorem rwT_len (x : Int) (ks : List Int) : (rwT x ks).length = 4 * ks.length := by
  induction ks with
  | nil => rfl
  | cons k ks ih => simp only [rwT, List.flatMap_cons, List.length_append, List.length_cons]; unfold rwT at ih; rw [ih]; simp [arT]; omega
theorem fxT_len (xs : List Int) : ∀ i, (fxT xs i).length ≤ 120 * i
  | 0 => by simp [fxT]
  | i + 1 => by
    have := fxT_len xs i
    have h2 := memTo_len (nth xs i).toNat 30
    rw [fxT, List.length_append, rwT_len]; omega
noncomputable def ftR (n : Int) (xs : List Int) : ByteArray := if frB n xs then strF (ftT n xs) else ⟨#[]⟩
def ftC (n : Int) (xs : List Int) : Int := if frB n xs then 0 else 1

end Go.Proofs.YtngllobakfnhiaaDoor
