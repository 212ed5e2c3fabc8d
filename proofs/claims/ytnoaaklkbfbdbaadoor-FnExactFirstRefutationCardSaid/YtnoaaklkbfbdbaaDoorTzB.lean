/- bits.TrailingZeros64 of the program, over the table of math/bits. Conditions: the table, and those in the theorems. -/
import Derived.Shelf.Spec.TrailingZeros
import Derived.Test.YtnoaaklkbfbdbaaDoorJn01
import Derived.Test.YtnoaaklkbfbdbaaDoorPop
namespace Go.Proofs.YtnoaaklkbfbdbaaDoor
open Go.RowKit

/-- The table of math/bits reads as its text lays it. -/
def Db (w : World) : Prop := ∀ j, j < 64 → w.cell? ⟨0, j, none⟩ = some (.int .u8 ((Lib.deBruijn64tab.getD j 0 : Nat) : Int))
theorem Db.lt {w : World} (h : Db w) : 0 < w.heap.size := World.block_lt_of_cell? _ _ (h 0 (by decide))
theorem Db.keep {w w' : World} {C : Nat} (h : Db w) (hb : Below C w w') (hC : w.heap.size ≤ C) : Db w' := fun s hs =>
  (hb.cell (p := ⟨0, s, none⟩) (Nat.lt_of_lt_of_le h.lt hC)).trans (h s hs)

set_option maxHeartbeats 1000000 in
theorem tz_core (x k idx : Nat) (w : World) (hx0 : ((x : Int) == 0) = false)
    (key : IntKind.u64.wrap (bits BinOp.and IntKind.u64 (x : Int) (IntKind.u64.wrap (-(x : Int))) * 285870213051353865) / 288230376151711744 = (idx : Int))
    (hi : idx < 64) (hk : k < 64) (hcell : w.cell? ⟨0, idx, none⟩ = some (.int .u8 k)) :
    Calls Tryd.prog 47 #[.int .u64 x] w fun e w' => e = .returned (.int .i64 k) ∧ w = w' := by
  go_enter Tryd.func47, Tryd.ntmps47
  go_wp2_with (simp only [key])
  go_ret
  exact ⟨rfl, rfl⟩
theorem tz_any (x : Nat) (hx : x < 18446744073709551616) (hx0 : x ≠ 0) (w : World) (hT : Db w) :
    Calls Tryd.prog 47 #[.int .u64 x] w fun e w' => e = .returned (.int .i64 ((Lib.ctz 64 x : Nat) : Int)) ∧ w = w' := by
  obtain ⟨hlow, hk⟩ := Lib.lowest_bit 64 x hx0 hx
  obtain ⟨hi, htab⟩ := Lib.deBruijn64_at _ hk
  have hcell := hT _ hi
  rw [htab] at hcell
  exact tz_core x _ _ w (by simp; omega) (tz64_key x _ hx hx0 hlow) hi hk hcell

end Go.Proofs.YtnoaaklkbfbdbaaDoor
