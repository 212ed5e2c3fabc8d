/- The library's contract of strings.IndexRune laid over this program: which of its functions and types are the library's, and that their texts are. No conditions. -/
import Derived.Shelf.Strings.Runes
import Derived.Test.YtpccocmiadpgiaaJn01
namespace Go.Proofs.Ytpccocmiadpgiaa
open Go.RowKit Go.Shelf

def ixr_ren : Ren := ⟨fun | 119 => 93 | 137 => 92 | 152 => 87 | 217 => 97 | 224 => 94 | 225 => 95 | 266 => 101 | n => n, fun | 0 => 0 | 3 => 3 | 4 => 4 | 5 => 5 | 9 => 9 | 21 => 21 | 46 => 84 | n => n, fun n => n⟩
theorem ixrL : Lays.n152 Try.prog ixr_ren where
  mixed := by kernel_rfl
  f119 := Try.func93.trans (congrArg some (by kernel_rfl))
  f137 := Try.func92.trans (congrArg some (by kernel_rfl))
  f152 := Try.func87.trans (congrArg some (by kernel_rfl))
  f217 := Try.func97.trans (congrArg some (by kernel_rfl))
  f224 := Try.func94.trans (congrArg some (by kernel_rfl))
  f225 := Try.func95.trans (congrArg some (by kernel_rfl))
  f266 := Try.func101.trans (congrArg some (by kernel_rfl))
  t0 := Try.underlying0
  a0 := Try.isAgg0
  z0 := Try.sizeOf0
  v0 := Try.zeroValue0
  t3 := Try.underlying3
  a3 := Try.isAgg3
  z3 := Try.sizeOf3
  v3 := Try.zeroValue3
  t4 := Try.underlying4
  a4 := Try.isAgg4
  z4 := Try.sizeOf4
  v4 := Try.zeroValue4
  t5 := Try.underlying5
  a5 := Try.isAgg5
  z5 := Try.sizeOf5
  v5 := Try.zeroValue5
  t9 := Try.underlying9
  a9 := Try.isAgg9
  z9 := Try.sizeOf9
  v9 := Try.zeroValue9
  t21 := Try.underlying21
  a21 := Try.isAgg21
  z21 := Try.sizeOf21
  v21 := Try.zeroValue21
  t46 := Try.underlying84
  a46 := Try.isAgg84
  z46 := Try.sizeOf84
  v46 := Try.zeroValue84

/-- Where a letter stands in the text of the variables; -1: nowhere. -/
def vaI (r : Int) : Int := if 112 ≤ r ∧ r ≤ 117 then r - 112 else -1
theorem indexVar_ascii (r : Int) (h0 : 0 ≤ r) (h1 : r < 128) (w : World) :
    Calls Try.prog 87 #[.string ⟨#[112, 113, 114, 115, 116, 117]⟩, .int .i32 r] w fun e w' => e = .returned (.int .i64 (vaI r)) ∧ w = w' := by
  refine (Any.strings_IndexRune_ascii ixrL ⟨#[112, 113, 114, 115, 116, 117]⟩ r w h0 h1).mono ?_
  rintro e w' ⟨rfl, rfl⟩
  refine ⟨ret_int ?_, rfl⟩
  obtain ⟨k, rfl⟩ := Int.eq_ofNat_of_zero_le h0
  have hk : k < 128 := by omega
  have : ∀ k : Nat, k < 128 → Lib.indexByte [112, 113, 114, 115, 116, 117] k.toUInt8 = vaI (k : Int) := by decide
  exact this k hk

end Go.Proofs.Ytpccocmiadpgiaa
