/- Contracts of the program's matchParts, variableImages and MatchFormula, at every argument. Conditions: those in the theorems. -/
import Derived.Test.YtfkahkhmnchnjaaMtS
import Derived.Test.YtfkahkhmnchnjaaOcc
namespace Go.Proofs.Ytfkahkhmnchnjaa
open Go.RowKit

theorem slClone1_any (xs : List Nd) (b off len cap : Nat) (w : World) (hl : len ≤ 4194304) (h : AtN w (some ⟨b, off, none⟩) len xs) :
    Calls Try.prog 51 #[.slice (some ⟨b, off, none⟩) len cap] w fun e w' => ∃ v, e = .returned v ∧ OwnN w' w.heap.size v xs ∧ Below w.heap.size w w' := by
  have H := Lib.hid h
  clear h
  have b0 : Below w.heap.size w (w.alloc (.cells #[] 47)) := (Below.refl _ _).alloc (Nat.le_refl _) _
  have B0 := Lib.hid b0
  have L0 : Hid (OwnN (w.alloc (.cells #[] 47)) w.heap.size (.slice (some ⟨w.heap.size, 0, none⟩) 0 0) []) := World.ownsRow_lit w #[] 0 (Nat.le_refl _) (by decide) rfl
  clear b0
  have qT : ∀ (w : World) (a : Option Addr) (n c n' c' : Nat), (binOp .eql 24 (.slice a n c) (.slice none n' c')).run Try.prog w = .ok (.bool a.isNone) w := fun w a n c n' c' => Lib.run_eql_slice_nil w _ _ a n c n' c' Try.underlying24
  go_enter Try.func51, Try.ntmps51
  go_wp2_with (at_builtin; refine list_appN0 rfl _ _ rfl w.heap.size _ [] rfl L0.out xs b off len cap rfl (H.out.keep B0.out (Nat.le_refl _)) (by simp; omega) B0.out.size ?_)
  intro v1 w1 ho1 hg1
  have b1 : Below w.heap.size w w1 := below_appN (Below.refl _ _) B0.out (Nat.le_refl _) L0.out hg1
  have B1 := Lib.hid b1
  have O1 := Lib.hid ho1
  clear b1 ho1 hg1
  go_wp2
  go_ret
  exact ⟨_, rfl, O1.out, B1.out⟩

theorem makeNN6 (W : World) : (Instr.makeSlice 39 (.int .i64 6) (.int .i64 6)).run Try.prog W = .ok (.slice (some ⟨W.heap.size, 0, none⟩) 6 6) (W.alloc (.cells #[.slice none 0 0, .slice none 0 0, .slice none 0 0, .slice none 0 0, .slice none 0 0, .slice none 0 0] 24)) := by
  obtain ⟨i0, hi, hz0, hz1, hz2⟩ := info_parts infoNN
  have := run_make (P := Try.prog) W 39 24 i0 (.slice none 0 0) Try.underlying39 hi hz0 .i64 .i64 6 6 (by decide) (by decide) (by rw [hz2]; decide) (by decide)
  rw [hz1] at this
  have e : madeCells (Value.slice none 0 0).cells (Int.toNat 6 * 1) = #[.slice none 0 0, .slice none 0 0, .slice none 0 0, .slice none 0 0, .slice none 0 0, .slice none 0 0] := by
    apply Array.ext'
    rw [show (Value.slice none 0 0).cells = #[.slice none 0 0] from rfl, toList_madeCells_one]
    rfl
  rw [e] at this
  exact this

end Go.Proofs.Ytfkahkhmnchnjaa
