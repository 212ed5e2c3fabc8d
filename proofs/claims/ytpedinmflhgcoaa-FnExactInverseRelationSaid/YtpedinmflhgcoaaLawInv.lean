/- The walk of the law FnExactInverseRelation. Conditions: those in the theorems. -/
import Derived.Test.YtpedinmflhgcoaaLaw
import Derived.Test.YtpedinmflhgcoaaInv
namespace Go.Proofs.Ytpedinmflhgcoaa
open Go.RowKit

theorem InverseRelation_len (x0 : List Int) : (outL (chkI x0 x0.length) (tab x0.length (fun t => ivTo x0 t x0.length))).length ≤ 1048576 := by
  unfold outL
  split
  · rename_i h; have := (chkI_small h).1; rw [tab_len]; omega
  · simp

theorem specInverseRelation_any_v (x0 : List Int) (v0 : Value) (lo0 hi0 : Nat) (w : World) (hl0 : x0.length ≤ 1048576) (h0 : OwnIn w lo0 hi0 v0 x0) :
    Calls Try.prog 11 #[v0] w fun e w' => ∃ v, e = .returned (.tuple #[v, .int .i64 (chkI x0 x0.length)]) ∧ Own w' w.heap.size v (outL (chkI x0 x0.length) (tab x0.length (fun t => ivTo x0 t x0.length))) ∧ Below w.heap.size w w' := by
  obtain ⟨a0, cap0, rfl, hat0, -, -, -⟩ := h0.1.at
  exact specInverseRelation_any x0 _ _ _ w hl0 hat0

theorem implInverseRelation_any_v (x0 : List Int) (v0 : Value) (lo0 hi0 : Nat) (w : World) (hl0 : x0.length ≤ 1048576) (h0 : OwnIn w lo0 hi0 v0 x0) :
    Calls Try.prog 13 #[v0] w fun e w' => ∃ v, e = .returned (.tuple #[v, .int .i64 (chkI x0 x0.length)]) ∧ Own w' w.heap.size v (outL (chkI x0 x0.length) (tab x0.length (fun t => ivTo x0 t x0.length))) ∧ Below w.heap.size w w' := by
  obtain ⟨a0, cap0, rfl, hat0, -, -, -⟩ := h0.1.at
  exact implInverseRelation_any x0 _ _ _ w hl0 hat0

set_option maxHeartbeats 2000000 in
set_option maxRecDepth 100000 in
theorem lawInverseRelation (x0 : List Int) (a0 : Option Addr) (len0 cap0 : Nat) (w : World) (h0 : At w a0 len0 x0) :
    Calls Try.prog 3 #[.slice a0 len0 cap0] w fun e w' => e = .returned (.bool true) ∧ Below w.heap.size w w' := by
  obtain rfl := h0.1
  by_cases hb0 : 1048576 < x0.length
  · clear h0
    go_enter Try.func3, Try.ntmps3
    go_wp2
    go_ret
    exact ⟨rfl, Below.refl _ _⟩
  · have hl0 : x0.length ≤ 1048576 := by omega
    clear hb0
    have H0 := Lib.hid h0
    clear h0
    obtain ⟨ys, hys⟩ : ∃ ys, ys = outL (chkI x0 x0.length) (tab x0.length (fun t => ivTo x0 t x0.length)) := ⟨_, rfl⟩
    have hly : ys.length ≤ 1048576 := by rw [hys]; exact InverseRelation_len x0
    obtain ⟨c, hc⟩ : ∃ c, c = chkI x0 x0.length := ⟨_, rfl⟩
    have HY := Lib.hid hys
    have HC := Lib.hid hc
    clear hys hc
    go_enter Try.func3, Try.ntmps3
    go_wp2_with fail
    refine (toInt64S_any x0 _ _ _ _ hl0 H0.out).mono ?_
    rintro e w1 ⟨vs0, rfl, ho, hb⟩
    have z1 := hb.size
    have B2 : Below w.heap.size w w1 := hb
    have O3s0 := Lib.hid ho.inn
    clear ho hb
    go_wp2_with fail
    refine (specInverseRelation_any_v x0 _ _ _ _ hl0 O3s0.out).mono ?_
    rw [← HY.out, ← HC.out]
    rintro e w4 ⟨vw, rfl, ho, hb⟩
    have z4 := hb.size
    have B5 : Below w.heap.size w w4 := B2.trans (hb.mono B2.size)
    have O5s0 := Lib.hid (O3s0.out.below hb O3s0.out.2.1)
    clear O3s0
    have O6w := Lib.hid ho.inn
    clear ho hb
    clear O5s0
    have hz7 : w.heap.size ≤ w4.heap.size := B5.size
    go_wp2_with fail
    refine (toInt64S_any x0 _ _ _ _ hl0 (H0.out.keep B5 (Nat.le_refl _))).mono ?_
    rintro e w8 ⟨vx0, rfl, ho, hb⟩
    have z8 := hb.size
    have B9 : Below w.heap.size w w8 := B5.trans (hb.mono B5.size)
    have O9w := Lib.hid (O6w.out.below hb O6w.out.2.1)
    clear O6w
    have O10x0 := Lib.hid ho.inn
    clear ho hb
    have hz11 : w.heap.size ≤ w8.heap.size := B9.size
    go_wp2_with fail
    refine (implInverseRelation_any_v x0 _ _ _ _ hl0 O10x0.out).mono ?_
    rw [← HY.out, ← HC.out]
    rintro e w12 ⟨vg, rfl, ho, hb⟩
    have z12 := hb.size
    have B13 : Below w.heap.size w w12 := B9.trans (hb.mono B9.size)
    have O13w := Lib.hid (O9w.out.below hb O9w.out.2.1)
    have O13x0 := Lib.hid (O10x0.out.below hb O10x0.out.2.1)
    clear O9w O10x0
    have O14g := Lib.hid ho.inn
    clear ho hb
    go_wp2_with fail
    refine (eq_own ys _ _ _ _ _ _ _ hly O14g.out O13w.out).mono ?_
    rintro e w15 ⟨rfl, q15, rfl⟩
    have B16 : Below w.heap.size w (w12.drewN q15) := below_drewN B13 q15
    have O16w := Lib.hid (O13w.out.drewN q15)
    have O16x0 := Lib.hid (O13x0.out.drewN q15)
    have O16g := Lib.hid (O14g.out.drewN q15)
    clear O13w O13x0 O14g
    generalize w12.drewN q15 = W16 at B16 O16w O16x0 O16g ⊢
    go_wp2_with fail
    refine (toInt64S_any x0 _ _ _ _ hl0 (H0.out.keep B16 (Nat.le_refl _))).mono ?_
    rintro e w17 ⟨vy0, rfl, ho, hb⟩
    have z17 := hb.size
    have B18 : Below w.heap.size w w17 := B16.trans (hb.mono B16.size)
    have O18w := Lib.hid (O16w.out.below hb O16w.out.2.1)
    have O18x0 := Lib.hid (O16x0.out.below hb O16x0.out.2.1)
    have O18g := Lib.hid (O16g.out.below hb O16g.out.2.1)
    clear O16w O16x0 O16g
    have O19y0 := Lib.hid ho.inn
    clear ho hb
    go_wp2_with fail
    refine (eq_own x0 _ _ _ _ _ _ _ hl0 O18x0.out O19y0.out).mono ?_
    rintro e w20 ⟨rfl, q20, rfl⟩
    have B21 : Below w.heap.size w (w17.drewN q20) := below_drewN B18 q20
    have O21w := Lib.hid (O18w.out.drewN q20)
    have O21x0 := Lib.hid (O18x0.out.drewN q20)
    have O21g := Lib.hid (O18g.out.drewN q20)
    have O21y0 := Lib.hid (O19y0.out.drewN q20)
    clear O18w O18x0 O18g O19y0
    generalize w17.drewN q20 = W21 at B21 O21w O21x0 O21g O21y0 ⊢
    clear O21y0
    go_wp2_with fail
    refine (mark_own x0 _ _ _ _ _ hl0 (by omega) (by omega) O21x0.out).mono ?_
    rintro e w22 ⟨rfl, om, hb, hg⟩
    have B22 : Below w.heap.size w w22 := B21.trans (hb.mono hz7)
    have O22w := Lib.hid (O21w.out.other O21x0.out hg (by omega))
    have O22g := Lib.hid (O21g.out.other O21x0.out hg (by omega))
    have O22x0 := Lib.hid om
    clear hb hg om O21w O21x0 O21g
    clear O22x0
    go_wp2_with fail
    refine (eq_own ys _ _ _ _ _ _ _ hly O22g.out O22w.out).mono ?_
    rintro e w23 ⟨rfl, q23, rfl⟩
    have B24 : Below w.heap.size w (w22.drewN q23) := below_drewN B22 q23
    have O24w := Lib.hid (O22w.out.drewN q23)
    have O24g := Lib.hid (O22g.out.drewN q23)
    clear O22w O22g
    generalize w22.drewN q23 = W24 at B24 O24w O24g ⊢
    go_wp2_with fail
    refine (mark_own ys _ _ _ _ _ hly (by omega) (by omega) O24g.out).mono ?_
    rintro e w25 ⟨rfl, om, hb, hg⟩
    have B25 : Below w.heap.size w w25 := B24.trans (hb.mono hz11)
    have O25w := Lib.hid (O24w.out.other O24g.out hg (by omega))
    have O25g := Lib.hid om
    clear hb hg om O24w O24g
    go_wp2_with fail
    refine (held_own ys.length _ _ _ _ _ hly (by omega) (by omega) O25g.out).mono ?_
    rintro e w26 ⟨rfl, rfl⟩
    go_wp2_with fail
    refine (toInt64S_any x0 _ _ _ _ hl0 (H0.out.keep B25 (Nat.le_refl _))).mono ?_
    rintro e w27 ⟨vt0, rfl, ho, hb⟩
    have z27 := hb.size
    have B28 : Below w.heap.size w w27 := B25.trans (hb.mono B25.size)
    have O28w := Lib.hid (O25w.out.below hb O25w.out.2.1)
    have O28g := Lib.hid (O25g.out.below hb O25g.out.2.1)
    clear O25w O25g
    have O29t0 := Lib.hid ho.inn
    clear ho hb
    go_wp2_with fail
    refine (implInverseRelation_any_v x0 _ _ _ _ hl0 O29t0.out).mono ?_
    rw [← HY.out, ← HC.out]
    rintro e w30 ⟨vh, rfl, ho, hb⟩
    have z30 := hb.size
    have B31 : Below w.heap.size w w30 := B28.trans (hb.mono B28.size)
    have O31w := Lib.hid (O28w.out.below hb O28w.out.2.1)
    have O31g := Lib.hid (O28g.out.below hb O28g.out.2.1)
    have O31t0 := Lib.hid (O29t0.out.below hb O29t0.out.2.1)
    clear O28w O28g O29t0
    have O32h := Lib.hid ho.inn
    clear ho hb
    clear O31t0
    go_wp2_with fail
    refine (eq_own ys _ _ _ _ _ _ _ hly O32h.out O31w.out).mono ?_
    rintro e w33 ⟨rfl, q33, rfl⟩
    have B34 : Below w.heap.size w (w30.drewN q33) := below_drewN B31 q33
    have O34w := Lib.hid (O31w.out.drewN q33)
    have O34g := Lib.hid (O31g.out.drewN q33)
    have O34h := Lib.hid (O32h.out.drewN q33)
    clear O31w O31g O32h
    generalize w30.drewN q33 = W34 at B34 O34w O34g O34h ⊢
    clear O34h
    clear O34w
    go_wp2_with fail
    refine (held_own ys.length _ _ _ _ _ hly (by omega) (by omega) O34g.out).mono ?_
    rintro e w35 ⟨rfl, rfl⟩
    go_wp2
    go_ret
    exact ⟨rfl, B34⟩

end Go.Proofs.Ytpedinmflhgcoaa
