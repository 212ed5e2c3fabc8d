/- Contracts of FrameFlags of the program, and in value form. Conditions: those in the theorems. -/
import Derived.Test.YtbaeacppojpplaaFlG
import Derived.Test.YtbaeacppojpplaaJn03
namespace Go.Proofs.Ytbaeacppojpplaa
open Go.RowKit

theorem flagsOf_fl (xs : List Int) (a : Option Addr) (cap : Nat) (w : World) (h8 : xs.length ≤ 8) (hr : Rel xs.length (nth xs)) (h : At w a xs.length xs) :
    Calls Try.prog 66 #[.slice a xs.length cap] w fun e w' => e = .returned (.agg #[.bool (flB 0 xs), .bool (flB 1 xs), .bool (flB 2 xs), .bool (flB 3 xs), .bool (flB 4 xs), .bool (flB 5 xs), .bool (flB 6 xs), .bool (flB 7 xs), .bool (flB 8 xs), .bool (flB 9 xs), .bool (flB 10 xs)]) ∧ Below w.heap.size w w' := by
  have q := flagsOf_any xs a cap w h8 h
  rw [ib_fl h8 hr 0 (by omega), ib_fl h8 hr 1 (by omega), ib_fl h8 hr 2 (by omega), ib_fl h8 hr 3 (by omega), ib_fl h8 hr 4 (by omega), ib_fl h8 hr 5 (by omega), ib_fl h8 hr 6 (by omega), ib_fl h8 hr 7 (by omega), ib_fl h8 hr 8 (by omega), ib_fl h8 hr 9 (by omega), ib_fl h8 hr 10 (by omega)] at q
  exact q

def fsF (xs : List Int) (k i : Nat) : Int := if i < k then (if flB i xs then 1 else 0) else 0
theorem fs_set {xs : List Int} {k : Nat} (h : flB k xs = true) (t : Nat) : (if t = k then (1 : Int) else fsF xs k t) = fsF xs (k + 1) t := by
  unfold fsF
  by_cases e : t = k
  · subst e; rw [if_pos rfl, if_pos (by omega), h]; rfl
  · rw [if_neg e]
    by_cases h2 : t < k
    · have h3 : t < k + 1 := by omega
      rw [if_pos h2, if_pos h3]
    · have h3 : ¬ t < k + 1 := by omega
      rw [if_neg h2, if_neg h3]
theorem fs_no {xs : List Int} {k : Nat} (h : flB k xs = false) : fsF xs k = fsF xs (k + 1) := by
  funext t
  unfold fsF
  by_cases e : t = k
  · subst e; rw [if_neg (by omega), if_pos (by omega), h]; rfl
  · by_cases h2 : t < k
    · have h3 : t < k + 1 := by omega
      rw [if_pos h2, if_pos h3]
    · have h3 : ¬ t < k + 1 := by omega
      rw [if_neg h2, if_neg h3]
theorem flL_tab (xs : List Int) (k : Nat) : flL xs k = tab k (fun i => if flB i xs then 1 else 0) := by
  induction k with
  | zero => rfl
  | succ k ih => rw [flL, ih]; unfold tab; rw [List.range_succ, List.map_append]; rfl
theorem fs_all (xs : List Int) : tab 11 (fsF xs 11) = flL xs 11 := by
  rw [flL_tab]
  exact tab_congr fun t ht => by rw [fsF, if_pos ht]
theorem fs_zero (xs : List Int) : (madeCells #[.int .i64 0] 11).toList = (tab 11 (fsF xs 0)).map (Value.int .i64) := by
  rw [toList_madeCells_one]
  rfl

theorem run_flag0 (b0 b1 b2 b3 b4 b5 b6 b7 b8 b9 b10 : Bool) (W : World) : Sem.run Try.prog (Instr.index 88 (.agg #[.bool b0, .bool b1, .bool b2, .bool b3, .bool b4, .bool b5, .bool b6, .bool b7, .bool b8, .bool b9, .bool b10]) (.int .i64 0)) W = .ok (.bool b0) W := by
  simp [Instr.index, run_underlying Try.underlying88, asIntOf, go_sem]
theorem run_flag1 (b0 b1 b2 b3 b4 b5 b6 b7 b8 b9 b10 : Bool) (W : World) : Sem.run Try.prog (Instr.index 88 (.agg #[.bool b0, .bool b1, .bool b2, .bool b3, .bool b4, .bool b5, .bool b6, .bool b7, .bool b8, .bool b9, .bool b10]) (.int .i64 1)) W = .ok (.bool b1) W := by
  simp [Instr.index, run_underlying Try.underlying88, asIntOf, go_sem]
theorem run_flag2 (b0 b1 b2 b3 b4 b5 b6 b7 b8 b9 b10 : Bool) (W : World) : Sem.run Try.prog (Instr.index 88 (.agg #[.bool b0, .bool b1, .bool b2, .bool b3, .bool b4, .bool b5, .bool b6, .bool b7, .bool b8, .bool b9, .bool b10]) (.int .i64 2)) W = .ok (.bool b2) W := by
  simp [Instr.index, run_underlying Try.underlying88, asIntOf, go_sem]
theorem run_flag3 (b0 b1 b2 b3 b4 b5 b6 b7 b8 b9 b10 : Bool) (W : World) : Sem.run Try.prog (Instr.index 88 (.agg #[.bool b0, .bool b1, .bool b2, .bool b3, .bool b4, .bool b5, .bool b6, .bool b7, .bool b8, .bool b9, .bool b10]) (.int .i64 3)) W = .ok (.bool b3) W := by
  simp [Instr.index, run_underlying Try.underlying88, asIntOf, go_sem]
theorem run_flag4 (b0 b1 b2 b3 b4 b5 b6 b7 b8 b9 b10 : Bool) (W : World) : Sem.run Try.prog (Instr.index 88 (.agg #[.bool b0, .bool b1, .bool b2, .bool b3, .bool b4, .bool b5, .bool b6, .bool b7, .bool b8, .bool b9, .bool b10]) (.int .i64 4)) W = .ok (.bool b4) W := by
  simp [Instr.index, run_underlying Try.underlying88, asIntOf, go_sem]
theorem run_flag5 (b0 b1 b2 b3 b4 b5 b6 b7 b8 b9 b10 : Bool) (W : World) : Sem.run Try.prog (Instr.index 88 (.agg #[.bool b0, .bool b1, .bool b2, .bool b3, .bool b4, .bool b5, .bool b6, .bool b7, .bool b8, .bool b9, .bool b10]) (.int .i64 5)) W = .ok (.bool b5) W := by
  simp [Instr.index, run_underlying Try.underlying88, asIntOf, go_sem]
theorem run_flag6 (b0 b1 b2 b3 b4 b5 b6 b7 b8 b9 b10 : Bool) (W : World) : Sem.run Try.prog (Instr.index 88 (.agg #[.bool b0, .bool b1, .bool b2, .bool b3, .bool b4, .bool b5, .bool b6, .bool b7, .bool b8, .bool b9, .bool b10]) (.int .i64 6)) W = .ok (.bool b6) W := by
  simp [Instr.index, run_underlying Try.underlying88, asIntOf, go_sem]
theorem run_flag7 (b0 b1 b2 b3 b4 b5 b6 b7 b8 b9 b10 : Bool) (W : World) : Sem.run Try.prog (Instr.index 88 (.agg #[.bool b0, .bool b1, .bool b2, .bool b3, .bool b4, .bool b5, .bool b6, .bool b7, .bool b8, .bool b9, .bool b10]) (.int .i64 7)) W = .ok (.bool b7) W := by
  simp [Instr.index, run_underlying Try.underlying88, asIntOf, go_sem]
theorem run_flag8 (b0 b1 b2 b3 b4 b5 b6 b7 b8 b9 b10 : Bool) (W : World) : Sem.run Try.prog (Instr.index 88 (.agg #[.bool b0, .bool b1, .bool b2, .bool b3, .bool b4, .bool b5, .bool b6, .bool b7, .bool b8, .bool b9, .bool b10]) (.int .i64 8)) W = .ok (.bool b8) W := by
  simp [Instr.index, run_underlying Try.underlying88, asIntOf, go_sem]
theorem run_flag9 (b0 b1 b2 b3 b4 b5 b6 b7 b8 b9 b10 : Bool) (W : World) : Sem.run Try.prog (Instr.index 88 (.agg #[.bool b0, .bool b1, .bool b2, .bool b3, .bool b4, .bool b5, .bool b6, .bool b7, .bool b8, .bool b9, .bool b10]) (.int .i64 9)) W = .ok (.bool b9) W := by
  simp [Instr.index, run_underlying Try.underlying88, asIntOf, go_sem]
theorem run_flag10 (b0 b1 b2 b3 b4 b5 b6 b7 b8 b9 b10 : Bool) (W : World) : Sem.run Try.prog (Instr.index 88 (.agg #[.bool b0, .bool b1, .bool b2, .bool b3, .bool b4, .bool b5, .bool b6, .bool b7, .bool b8, .bool b9, .bool b10]) (.int .i64 10)) W = .ok (.bool b10) W := by
  simp [Instr.index, run_underlying Try.underlying88, asIntOf, go_sem]
theorem run_flag (xs : List Int) (k : Nat) (hk : k ≤ 10) (W : World) : Sem.run Try.prog (Instr.index 88 (.agg #[.bool (flB 0 xs), .bool (flB 1 xs), .bool (flB 2 xs), .bool (flB 3 xs), .bool (flB 4 xs), .bool (flB 5 xs), .bool (flB 6 xs), .bool (flB 7 xs), .bool (flB 8 xs), .bool (flB 9 xs), .bool (flB 10 xs)]) (.int .i64 k)) W = .ok (.bool (flB k xs)) W :=
  match k, hk with
  | 0, _ => run_flag0 _ _ _ _ _ _ _ _ _ _ _ W
  | 1, _ => run_flag1 _ _ _ _ _ _ _ _ _ _ _ W
  | 2, _ => run_flag2 _ _ _ _ _ _ _ _ _ _ _ W
  | 3, _ => run_flag3 _ _ _ _ _ _ _ _ _ _ _ W
  | 4, _ => run_flag4 _ _ _ _ _ _ _ _ _ _ _ W
  | 5, _ => run_flag5 _ _ _ _ _ _ _ _ _ _ _ W
  | 6, _ => run_flag6 _ _ _ _ _ _ _ _ _ _ _ W
  | 7, _ => run_flag7 _ _ _ _ _ _ _ _ _ _ _ W
  | 8, _ => run_flag8 _ _ _ _ _ _ _ _ _ _ _ W
  | 9, _ => run_flag9 _ _ _ _ _ _ _ _ _ _ _ W
  | 10, _ => run_flag10 _ _ _ _ _ _ _ _ _ _ _ W
  | n + 11, h => absurd h (by omega)

end Go.Proofs.Ytbaeacppojpplaa
