/- The table of logics: what the program makes, its search in it, and LogicAxioms of both sides. Conditions: those in the theorems. -/
import Derived.Test.YtbfpfhmhgcmbaaaTb
namespace Go.Proofs.Ytbfpfhmhgcmbaaa
open Go.RowKit

/-- What a search in a table answers. -/
def fdI (ns : List (List UInt8)) (s : ByteArray) : Int := if fdV ns s = -1 then 0 else fdV ns s
def fdC (ns : List (List UInt8)) (s : ByteArray) : Int := if fdV ns s = -1 then 4 else 0

/-- The axioms of the logic with a name; the code. -/
def laR (s : ByteArray) : List (List UInt8) := if fdV nmL s = -1 then [] else lax (fdV nmL s).toNat
def laC (s : ByteArray) : Int := fdC nmL s
theorem la_len (s : ByteArray) : (laR s).length ≤ 1048576 := by
  unfold laR
  split
  · simp
  · have := lax_len (fdV nmL s).toNat; omega

theorem LogicAxioms_len (s : ByteArray) : (laR s).length ≤ 1048576 := la_len s

end Go.Proofs.Ytbfpfhmhgcmbaaa
