/- The walk of the law FnExactChooseMasks. Conditions: those in the theorems. -/
import Derived.Test.YtckkkleegohkfaaLaw
import Derived.Test.YtckkkleegohkfaaChoose
namespace Go.Proofs.Ytckkkleegohkfaa
open Go.RowKit

theorem ChooseMasks_len (n m : Int) : (outL (chC n m) (chL n m)).length ≤ 1048576 := chL_len n m

theorem specChooseMasks_any_v (x0 : Int) (x1 : Int)  (w : World)   :
    Calls Try.prog 42 #[.int .i64 x0, .int .i64 x1] w fun e w' => ∃ v, e = .returned (.tuple #[v, .int .i64 (chC x0 x1)]) ∧ Own w' w.heap.size v (outL (chC x0 x1) (chL x0 x1)) ∧ Below w.heap.size w w' := by
  exact specChooseMasks_any x0 x1 w

theorem implChooseMasks_any_v (x0 : Int) (x1 : Int)  (w : World)   :
    Calls Try.prog 43 #[.int .i64 x0, .int .i64 x1] w fun e w' => ∃ v, e = .returned (.tuple #[v, .int .i64 (chC x0 x1)]) ∧ Own w' w.heap.size v (outL (chC x0 x1) (chL x0 x1)) ∧ Below w.heap.size w w' := by
  exact implChooseMasks_any x0 x1 w

set_option maxHeartbeats 2000000 in
set_option maxRecDepth 100000 in
theorem lawChooseMasks (x0 : Int) (x1 : Int) (w : World) :
    Calls Try.prog 10 #[.int .i64 x0, .int .i64 x1] w fun e w' => e = .returned (.bool true) ∧ Below w.heap.size w w' := by
  obtain ⟨ys, hys⟩ : ∃ ys, ys = outL (chC x0 x1) (chL x0 x1) := ⟨_, rfl⟩
  have hly : ys.length ≤ 1048576 := by rw [hys]; exact ChooseMasks_len x0 x1
  obtain ⟨c, hc⟩ : ∃ c, c = chC x0 x1 := ⟨_, rfl⟩
  have HY := Lib.hid hys
  have HC := Lib.hid hc
  clear hys hc
  go_enter Try.func10, Try.ntmps10
  go_wp2_with fail
  refine (specChooseMasks_any_v x0 x1 _).mono ?_
  rw [← HY.out, ← HC.out]
  rintro e w1 ⟨vw, rfl, ho, hb⟩
  have z1 := hb.size
  have B2 : Below w.heap.size w w1 := hb
  have O3w := Lib.hid ho.inn
  clear ho hb
  have hz4 : w.heap.size ≤ w1.heap.size := B2.size
  go_wp2_with fail
  refine (implChooseMasks_any_v x0 x1 _).mono ?_
  rw [← HY.out, ← HC.out]
  rintro e w5 ⟨vg, rfl, ho, hb⟩
  have z5 := hb.size
  have B6 : Below w.heap.size w w5 := B2.trans (hb.mono B2.size)
  have O6w := Lib.hid (O3w.out.below hb O3w.out.2.1)
  clear O3w
  have O7g := Lib.hid ho.inn
  clear ho hb
  go_wp2_with fail
  refine (eq_own ys _ _ _ _ _ _ _ hly O7g.out O6w.out).mono ?_
  rintro e w8 ⟨rfl, q8, rfl⟩
  have B9 : Below w.heap.size w (w5.drewN q8) := below_drewN B6 q8
  have O9w := Lib.hid (O6w.out.drewN q8)
  have O9g := Lib.hid (O7g.out.drewN q8)
  clear O6w O7g
  generalize w5.drewN q8 = W9 at B9 O9w O9g ⊢
  go_wp2_with fail
  refine (mark_own ys _ _ _ _ _ hly (by omega) (by omega) O9g.out).mono ?_
  rintro e w10 ⟨rfl, om, hb, hg⟩
  have B10 : Below w.heap.size w w10 := B9.trans (hb.mono hz4)
  have O10w := Lib.hid (O9w.out.other O9g.out hg (by omega))
  have O10g := Lib.hid om
  clear hb hg om O9w O9g
  go_wp2_with fail
  refine (held_own ys.length _ _ _ _ _ hly (by omega) (by omega) O10g.out).mono ?_
  rintro e w11 ⟨rfl, rfl⟩
  go_wp2_with fail
  refine (implChooseMasks_any_v x0 x1 _).mono ?_
  rw [← HY.out, ← HC.out]
  rintro e w12 ⟨vh, rfl, ho, hb⟩
  have z12 := hb.size
  have B13 : Below w.heap.size w w12 := B10.trans (hb.mono B10.size)
  have O13w := Lib.hid (O10w.out.below hb O10w.out.2.1)
  have O13g := Lib.hid (O10g.out.below hb O10g.out.2.1)
  clear O10w O10g
  have O14h := Lib.hid ho.inn
  clear ho hb
  go_wp2_with fail
  refine (eq_own ys _ _ _ _ _ _ _ hly O14h.out O13w.out).mono ?_
  rintro e w15 ⟨rfl, q15, rfl⟩
  have B16 : Below w.heap.size w (w12.drewN q15) := below_drewN B13 q15
  have O16w := Lib.hid (O13w.out.drewN q15)
  have O16g := Lib.hid (O13g.out.drewN q15)
  have O16h := Lib.hid (O14h.out.drewN q15)
  clear O13w O13g O14h
  generalize w12.drewN q15 = W16 at B16 O16w O16g O16h ⊢
  clear O16h
  clear O16w
  go_wp2_with fail
  refine (held_own ys.length _ _ _ _ _ hly (by omega) (by omega) O16g.out).mono ?_
  rintro e w17 ⟨rfl, rfl⟩
  go_wp2
  go_ret
  exact ⟨rfl, B16⟩

end Go.Proofs.Ytckkkleegohkfaa
