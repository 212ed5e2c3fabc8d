/- Contract of slices.Repeat at a list of one int64. Conditions: those in the theorems. -/
import Derived.Laws.CopyOwn
import Derived.Deep.RegionLaw
import Derived.Test.YtomldealpmohhaaMul
import Derived.Test.YtomldealpmohhaaJn04
namespace Go.Proofs.Ytomldealpmohhaa
open Go.RowKit

/-- j times x, then zeros. -/
def rpV (x : Int) (n j : Nat) : List Value := List.replicate j (.int .i64 x) ++ List.replicate (n - j) (.int .i64 0)
theorem rpV_len (x : Int) (n j : Nat) (h : j ≤ n) : (rpV x n j).length = n := by simp [rpV]; omega
theorem rpV_next (x : Int) (n j m : Nat) : splice (rpV x n j) j (List.replicate m (.int .i64 x)) = rpV x n (j + m) := by
  unfold splice rpV
  rw [List.take_append, List.drop_append]
  simp only [List.length_replicate, Nat.sub_self, List.take_replicate, Nat.min_self, List.drop_replicate, Nat.zero_min, List.replicate_zero, List.append_nil]
  rw [show j - (j + m) = 0 by omega, show n - j - (j + m - j) = n - (j + m) by omega]
  simp only [List.replicate_zero, List.nil_append]
  rw [← List.append_assoc, List.replicate_append_replicate]
theorem sz64 : (Try.prog.info? 2).map (·.size) = some 1 := by kernel_rfl
theorem one_cells (x : Int) (m : Nat) : ∀ v ∈ List.replicate m (Value.int .i64 x), v.oneCell' = true := by
  intro v hv
  rw [(List.mem_replicate.1 hv).2]
  rfl
theorem rpV_row {w : World} {g n j : Nat} {x : Int} (hj : j ≤ n) (h : w.heap[g]? = some (.cells (rpV x n j).toArray 2 (0, 0))) : w.rowIs g 2 n (fun t => .int .i64 (if t < j then x else 0)) := by
  refine ⟨_, h, by rw [List.size_toArray, rpV_len _ _ _ hj], fun t ht => ?_⟩
  rw [List.getElem?_toArray]
  show _ = some (Value.int .i64 (if t < j then x else 0))
  unfold rpV
  by_cases e : t < j
  · rw [List.getElem?_append_left (by simpa using e), if_pos e, List.getElem?_replicate, if_pos e]
  · rw [List.getElem?_append_right (by simpa using Nat.le_of_not_lt e), if_neg e, List.length_replicate, List.getElem?_replicate, if_pos (by omega)]

end Go.Proofs.Ytomldealpmohhaa
