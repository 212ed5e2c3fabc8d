/- What ParseFormula answers over any text, on both sides. Conditions: those in the theorems. -/
import Derived.Test.YtpccocmiadpgiaaFp
import Derived.Test.YtpccocmiadpgiaaIxh
namespace Go.Proofs.Ytpccocmiadpgiaa
open Go.RowKit Go.Shelf

def pfZ (s : ByteArray) : List Nd := pZ s.data.toList
def pfA (s : ByteArray) : Int := pA s.data.toList
def pfC (s : ByteArray) : Int := pC s.data.toList
theorem ParseFormula_len (s : ByteArray) : (pfZ s).length ≤ 1048576 := Nat.le_trans (pZ_len _) (by decide)
theorem ba_len (s : ByteArray) : s.data.toList.length = s.size := by
  show s.data.toList.length = s.data.size
  simp
theorem specParseFormula_v (s : ByteArray) (w : World) (hs : (s.size : Int) ≤ 1048576) :
    Calls Try.prog 54 #[.string s] w fun e w' => ∃ v, e = .returned (.tuple #[v, .int .i64 (pfA s), .int .i64 (pfC s)]) ∧ OwnN w' w.heap.size v (pfZ s) ∧ Below w.heap.size w w' := by
  have h := specParse_any s.data.toList (by rw [ba_len]; omega) w
  rwa [sx_list] at h
theorem implParseFormula_v (s : ByteArray) (w : World) (hs : (s.size : Int) ≤ 1048576) :
    Calls Try.prog 51 #[.string s] w fun e w' => ∃ v, e = .returned (.tuple #[v, .int .i64 (pfA s), .int .i64 (pfC s)]) ∧ OwnN w' w.heap.size v (pfZ s) ∧ Below w.heap.size w w' := by
  have h := implParse_any s.data.toList w (.inr fun r h1 _ w' => by rw [show vaI r = -1 from if_neg (by omega)]; exact indexVar_any r h1 w') (by rw [ba_len]; omega)
  rwa [sx_list] at h

end Go.Proofs.Ytpccocmiadpgiaa
