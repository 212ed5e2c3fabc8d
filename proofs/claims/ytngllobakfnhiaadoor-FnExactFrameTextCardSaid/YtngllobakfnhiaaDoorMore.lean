/- Contracts of the remaining functions of chapter 1 that read a list and return numbers. Conditions: those in the theorems. -/
import Derived.Test.YtngllobakfnhiaaDoorSlices
namespace Go.Proofs.YtngllobakfnhiaaDoor
open Go.RowKit

def bothI (xs : List Int) (len : Nat) (m : Int) : Int := if 30 < len then 2 else if mksTo len xs len && mskB len m then 0 else 1
theorem bothI_big {xs : List Int} {len : Nat} {m : Int} (h : 30 < len) : bothI xs len m = 2 := if_pos h
theorem bothI_of {xs : List Int} {len : Nat} {m : Int} (h : ¬ 30 < len) {b c : Bool} (h1 : mksTo len xs len = b) (h2 : mskB len m = c) : bothI xs len m = if b && c then 0 else 1 := by rw [bothI, if_neg h, h1, h2]
theorem cod_of {len : Nat} {m : Int} (h : ¬ 30 < len) {c : Bool} (h2 : mskB len m = c) : cod len m = if c then 0 else 1 := by
  have : inB (len : Int) 0 30 = true := by simp [inB]; omega
  rw [cod, this, h2]; rfl
theorem cod_both {xs : List Int} {len : Nat} {m : Int} (h : ¬ 30 < len) (h1 : mksTo len xs len = true) : cod len m = bothI xs len m := by
  cases h2 : mskB len m <;> rw [cod_of h h2, bothI_of h h1 h2] <;> rfl
theorem mksTo_small {xs : List Int} {len : Nat} {m : Int} (h : bothI xs len m = 0) : len ≤ 30 ∧ mksTo len xs len = true ∧ mskB len m = true := by
  unfold bothI at h
  split at h
  · omega
  · cases h1 : mksTo len xs len <;> cases h2 : mskB len m <;> simp [h1, h2] at h ⊢ <;> omega

def imgV (xs : List Int) (len : Nat) (m : Int) : Int := if bothI xs len m = 0 then imgTo xs m len else 0
theorem ImgOut_ok {xs : List Int} {len : Nat} {m : Int} (h : bothI xs len m = 0) : Ending.returned (.tuple #[.int .i64 (imgTo xs m len), .int .i64 0]) = .returned (.tuple #[.int .i64 (imgV xs len m), .int .i64 (bothI xs len m)]) := by rw [imgV, if_pos h, h]
theorem ImgOut_bad {xs : List Int} {len : Nat} {m c : Int} (h : ¬ bothI xs len m = 0) (hc : c = bothI xs len m) : Ending.returned (.tuple #[.int .i64 0, .int .i64 c]) = .returned (.tuple #[.int .i64 (imgV xs len m), .int .i64 (bothI xs len m)]) := by rw [imgV, if_neg h, hc]
theorem At.drewN {w : World} {a : Option Addr} {len : Nat} {xs : List Int} (h : At w a len xs) (q : Nat) : At (w.drewN q) a len xs := h.keep (below_drewN (Below.refl w.heap.size w) q) (Nat.le_refl _)

end Go.Proofs.YtngllobakfnhiaaDoor
