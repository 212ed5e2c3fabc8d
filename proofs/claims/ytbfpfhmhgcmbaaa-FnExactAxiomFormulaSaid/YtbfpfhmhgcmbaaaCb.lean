/- Sets of flags in a block of a call's own, and the comparison of two. Conditions: those in the theorems. -/
import Derived.Laws.StructEq
import Derived.Test.YtbfpfhmhgcmbaaaGst
namespace Go.Proofs.Ytbfpfhmhgcmbaaa
open Go.RowKit

/-- A set of flags lies in the block b. -/
def CB (w : World) (b : Nat) (s : Nat → Bool) : Prop := b < w.heap.size ∧ ∀ j, j < 11 → w.cell? ⟨b, j, none⟩ = some (.bool (s j)) ∧ w.frozen? ⟨b, j, none⟩ = false
theorem CB.below {w w' : World} {C b : Nat} {s : Nat → Bool} (h : CB w b s) (hb : Below C w w') (hC : b < C) : CB w' b s :=
  ⟨Nat.lt_of_lt_of_le h.1 hb.size, fun j hj => ⟨(hb.cell (p := ⟨b, j, none⟩) hC).trans (h.2 j hj).1, (hb.frozen (p := ⟨b, j, none⟩) hC).trans (h.2 j hj).2⟩⟩
theorem CB.keep {w w' : World} {b : Nat} {s : Nat → Bool} (h : CB w b s) (hb : Below w.heap.size w w') : CB w' b s := h.below hb h.1
theorem CB.new (w : World) (s : Nat → Bool) : CB (w.alloc (.cells #[.bool (s 0), .bool (s 1), .bool (s 2), .bool (s 3), .bool (s 4), .bool (s 5), .bool (s 6), .bool (s 7), .bool (s 8), .bool (s 9), .bool (s 10)] 74)) w.heap.size s := by
  refine ⟨by simp, fun j hj => ⟨?_, by simp⟩⟩
  have : j = 0 ∨ j = 1 ∨ j = 2 ∨ j = 3 ∨ j = 4 ∨ j = 5 ∨ j = 6 ∨ j = 7 ∨ j = 8 ∨ j = 9 ∨ j = 10 := by omega
  rcases this with rfl | rfl | rfl | rfl | rfl | rfl | rfl | rfl | rfl | rfl | rfl <;> exact World.cell?_alloc_at _ _ _ _ rfl
theorem CB.set {w : World} {b k : Nat} {s s' : Nat → Bool} {v : Bool} (h : CB w b s) (hk : k < 11) (e : ∀ j, j < 11 → (if j = k then v else s j) = s' j) : CB (w.setCell ⟨b, k, none⟩ (.bool v)) b s' := by
  refine ⟨by simpa [World.setCell] using h.1, fun j hj => ⟨?_, ?_⟩⟩
  · rw [← e j hj]
    by_cases q : j = k
    · subst q; rw [if_pos rfl]; exact World.cell?_setCell_same _ _ _ (h.2 j hj).1
    · rw [if_neg q, World.cell?_setCell_other _ _ _ _ (fun e => q (by cases e; rfl))]; exact (h.2 j hj).1
  · have := (h.2 j hj).2
    simpa using this
theorem sizeOf_bool (w : World) : (sizeOf 4).run Try.prog w = .ok 1 w := by
  simp [sizeOf, go_sem]
  rfl
theorem und_bool : Try.prog.underlying 4 = some .bool := by kernel_rfl
theorem all_range_eqB : ∀ (xs ys : List Bool), xs.length = ys.length → ((List.range xs.length).all fun i => xs.getD i false == ys.getD i false) = (xs == ys)
  | [], [], _ => rfl
  | x :: xs, y :: ys, h => by
    have ih := all_range_eqB xs ys (by simpa using h)
    rw [List.length_cons, List.range_succ_eq_map, List.all_cons, List.all_map]
    simp only [List.getD_cons_zero, Function.comp_def, List.getD_cons_succ, ih]
    simp [List.cons_beq_cons]
  | [], _ :: _, h => by simp at h
  | _ :: _, [], h => by simp at h
theorem run_equalIn_bools (w : World) (d : Nat) (t e : TypeId) (n : Nat) (ht : Try.prog.underlying t = some (.array n e)) (he : Try.prog.underlying e = some .bool) (hsz : ∀ w, (sizeOf e).run Try.prog w = .ok 1 w)
    (xs ys : List Bool) (hx : xs.length = n) (hy : ys.length = n) :
    (Op.equalIn (d + 2) t (.agg (xs.map Value.bool).toArray) (.agg (ys.map Value.bool).toArray)).run Try.prog w = .ok (xs == ys) w := by
  rw [← all_range_eqB xs ys (hx.trans hy.symm), hx, List.range_eq_range', Op.equalIn]
  simp only [Sem.run_bind, run_underlying ht, Result.andThen_ok, hsz, Std.Legacy.Range.forIn_eq_forIn_range', Std.Legacy.Range.size, Nat.sub_zero, Nat.add_sub_cancel, Nat.div_one]
  have hl : ∀ i ∈ List.range' 0 n 1, i < n := fun i hi => by simpa using (List.mem_range'_1.1 hi).2
  generalize List.range' 0 n 1 = l at hl ⊢
  induction l with
  | nil => simp
  | cons i l ih =>
    have hi : i < n := hl i (by simp)
    have px : (part e (xs.map Value.bool).toArray (i * 1)).run Try.prog w = .ok (.bool (xs.getD i false)) w := by
      simp [part, isAgg, run_underlying he, List.getD, List.getElem?_eq_getElem (show i < xs.length by omega)]
    have py : (part e (ys.map Value.bool).toArray (i * 1)).run Try.prog w = .ok (.bool (ys.getD i false)) w := by
      simp [part, isAgg, run_underlying he, List.getD, List.getElem?_eq_getElem (show i < ys.length by omega)]
    have pe : (Op.equalIn (d + 1) e (.bool (xs.getD i false)) (.bool (ys.getD i false))).run Try.prog w = .ok (xs.getD i false == ys.getD i false) w := run_equalIn_bool' w d e _ _ he
    simp only [List.forIn_cons, Sem.run_bind, px, py, pe, Result.andThen_ok, List.all_cons]
    cases hb : (xs.getD i false == ys.getD i false)
    · simp
    · simp only [Bool.not_true, Bool.false_eq_true, if_false, Sem.run_pure, Result.andThen_ok, Bool.true_and]
      exact ih fun j hj => hl j (by simp [hj])

end Go.Proofs.Ytbfpfhmhgcmbaaa
