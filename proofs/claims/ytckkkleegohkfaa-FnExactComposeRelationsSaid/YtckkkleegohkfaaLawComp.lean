/- The walk of the law FnExactComposeRelations. Conditions: those in the theorems. -/
import Derived.Test.YtckkkleegohkfaaLaw
import Derived.Test.YtckkkleegohkfaaComp
namespace Go.Proofs.Ytckkkleegohkfaa
open Go.RowKit

theorem ComposeRelations_len (xs ys : List Int) : (outL (cmpI xs ys xs.length ys.length) (cpTo xs ys xs.length)).length ≤ 1048576 := by
  unfold outL
  split
  · rename_i h; have := (cmpI_zero h).1; rw [cpTo_len]; omega
  · simp

theorem specComposeRelations_any_v (x0 : List Int) (x1 : List Int) (v0 : Value) (lo0 hi0 : Nat) (v1 : Value) (lo1 hi1 : Nat) (w : World) (hl0 : x0.length ≤ 1048576) (hl1 : x1.length ≤ 1048576) (h0 : OwnIn w lo0 hi0 v0 x0) (h1 : OwnIn w lo1 hi1 v1 x1) :
    Calls Try.prog 45 #[v0, v1] w fun e w' => ∃ v, e = .returned (.tuple #[v, .int .i64 (cmpI x0 x1 x0.length x1.length)]) ∧ Own w' w.heap.size v (outL (cmpI x0 x1 x0.length x1.length) (cpTo x0 x1 x0.length)) ∧ Below w.heap.size w w' := by
  obtain ⟨a0, cap0, rfl, hat0, -, -, -⟩ := h0.1.at
  obtain ⟨a1, cap1, rfl, hat1, -, -, -⟩ := h1.1.at
  exact specComposeRelations_any x0 x1 _ _ _ _ _ _ w hl0 hl1 hat0 hat1

theorem implComposeRelations_any_v (x0 : List Int) (x1 : List Int) (v0 : Value) (lo0 hi0 : Nat) (v1 : Value) (lo1 hi1 : Nat) (w : World) (hl0 : x0.length ≤ 1048576) (hl1 : x1.length ≤ 1048576) (h0 : OwnIn w lo0 hi0 v0 x0) (h1 : OwnIn w lo1 hi1 v1 x1) :
    Calls Try.prog 32 #[v0, v1] w fun e w' => ∃ v, e = .returned (.tuple #[v, .int .i64 (cmpI x0 x1 x0.length x1.length)]) ∧ Own w' w.heap.size v (outL (cmpI x0 x1 x0.length x1.length) (cpTo x0 x1 x0.length)) ∧ Below w.heap.size w w' := by
  obtain ⟨a0, cap0, rfl, hat0, -, -, -⟩ := h0.1.at
  obtain ⟨a1, cap1, rfl, hat1, -, -, -⟩ := h1.1.at
  exact implComposeRelations_any x0 x1 _ _ _ _ _ _ w hl0 hl1 hat0 hat1

set_option maxHeartbeats 2000000 in
set_option maxRecDepth 100000 in
theorem lawComposeRelations (x0 : List Int) (x1 : List Int) (a0 : Option Addr) (len0 cap0 : Nat) (a1 : Option Addr) (len1 cap1 : Nat) (w : World) (h0 : At w a0 len0 x0) (h1 : At w a1 len1 x1) :
    Calls Try.prog 13 #[.slice a0 len0 cap0, .slice a1 len1 cap1] w fun e w' => e = .returned (.bool true) ∧ Below w.heap.size w w' := by
  obtain rfl := h0.1
  obtain rfl := h1.1
  by_cases hb0 : 1048576 < x0.length
  · clear h0 h1
    go_enter Try.func13, Try.ntmps13
    go_wp2
    go_ret
    exact ⟨rfl, Below.refl _ _⟩
  · have hl0 : x0.length ≤ 1048576 := by omega
    clear hb0
    by_cases hb1 : 1048576 < x1.length
    · clear h0 h1
      go_enter Try.func13, Try.ntmps13
      go_wp2
      go_ret
      exact ⟨rfl, Below.refl _ _⟩
    · have hl1 : x1.length ≤ 1048576 := by omega
      clear hb1
      have H0 := Lib.hid h0
      clear h0
      have H1 := Lib.hid h1
      clear h1
      obtain ⟨ys, hys⟩ : ∃ ys, ys = outL (cmpI x0 x1 x0.length x1.length) (cpTo x0 x1 x0.length) := ⟨_, rfl⟩
      have hly : ys.length ≤ 1048576 := by rw [hys]; exact ComposeRelations_len x0 x1
      obtain ⟨c, hc⟩ : ∃ c, c = cmpI x0 x1 x0.length x1.length := ⟨_, rfl⟩
      have HY := Lib.hid hys
      have HC := Lib.hid hc
      clear hys hc
      go_enter Try.func13, Try.ntmps13
      go_wp2_with fail
      refine (toInt64S_any x0 _ _ _ _ hl0 H0.out).mono ?_
      rintro e w1 ⟨vs0, rfl, ho, hb⟩
      have z1 := hb.size
      have B2 : Below w.heap.size w w1 := hb
      have O3s0 := Lib.hid ho.inn
      clear ho hb
      go_wp2_with fail
      refine (toInt64S_any x1 _ _ _ _ hl1 (H1.out.keep B2 (Nat.le_refl _))).mono ?_
      rintro e w4 ⟨vs1, rfl, ho, hb⟩
      have z4 := hb.size
      have B5 : Below w.heap.size w w4 := B2.trans (hb.mono B2.size)
      have O5s0 := Lib.hid (O3s0.out.below hb O3s0.out.2.1)
      clear O3s0
      have O6s1 := Lib.hid ho.inn
      clear ho hb
      go_wp2_with fail
      refine (specComposeRelations_any_v x0 x1 _ _ _ _ _ _ _ hl0 hl1 O5s0.out O6s1.out).mono ?_
      rw [← HY.out, ← HC.out]
      rintro e w7 ⟨vw, rfl, ho, hb⟩
      have z7 := hb.size
      have B8 : Below w.heap.size w w7 := B5.trans (hb.mono B5.size)
      have O8s0 := Lib.hid (O5s0.out.below hb O5s0.out.2.1)
      have O8s1 := Lib.hid (O6s1.out.below hb O6s1.out.2.1)
      clear O5s0 O6s1
      have O9w := Lib.hid ho.inn
      clear ho hb
      clear O8s0
      clear O8s1
      have hz10 : w.heap.size ≤ w7.heap.size := B8.size
      go_wp2_with fail
      refine (toInt64S_any x0 _ _ _ _ hl0 (H0.out.keep B8 (Nat.le_refl _))).mono ?_
      rintro e w11 ⟨vx0, rfl, ho, hb⟩
      have z11 := hb.size
      have B12 : Below w.heap.size w w11 := B8.trans (hb.mono B8.size)
      have O12w := Lib.hid (O9w.out.below hb O9w.out.2.1)
      clear O9w
      have O13x0 := Lib.hid ho.inn
      clear ho hb
      have hz14 : w.heap.size ≤ w11.heap.size := B12.size
      go_wp2_with fail
      refine (toInt64S_any x1 _ _ _ _ hl1 (H1.out.keep B12 (Nat.le_refl _))).mono ?_
      rintro e w15 ⟨vx1, rfl, ho, hb⟩
      have z15 := hb.size
      have B16 : Below w.heap.size w w15 := B12.trans (hb.mono B12.size)
      have O16w := Lib.hid (O12w.out.below hb O12w.out.2.1)
      have O16x0 := Lib.hid (O13x0.out.below hb O13x0.out.2.1)
      clear O12w O13x0
      have O17x1 := Lib.hid ho.inn
      clear ho hb
      have hz18 : w.heap.size ≤ w15.heap.size := B16.size
      go_wp2_with fail
      refine (implComposeRelations_any_v x0 x1 _ _ _ _ _ _ _ hl0 hl1 O16x0.out O17x1.out).mono ?_
      rw [← HY.out, ← HC.out]
      rintro e w19 ⟨vg, rfl, ho, hb⟩
      have z19 := hb.size
      have B20 : Below w.heap.size w w19 := B16.trans (hb.mono B16.size)
      have O20w := Lib.hid (O16w.out.below hb O16w.out.2.1)
      have O20x0 := Lib.hid (O16x0.out.below hb O16x0.out.2.1)
      have O20x1 := Lib.hid (O17x1.out.below hb O17x1.out.2.1)
      clear O16w O16x0 O17x1
      have O21g := Lib.hid ho.inn
      clear ho hb
      go_wp2_with fail
      refine (eq_own ys _ _ _ _ _ _ _ hly O21g.out O20w.out).mono ?_
      rintro e w22 ⟨rfl, q22, rfl⟩
      have B23 : Below w.heap.size w (w19.drewN q22) := below_drewN B20 q22
      have O23w := Lib.hid (O20w.out.drewN q22)
      have O23x0 := Lib.hid (O20x0.out.drewN q22)
      have O23x1 := Lib.hid (O20x1.out.drewN q22)
      have O23g := Lib.hid (O21g.out.drewN q22)
      clear O20w O20x0 O20x1 O21g
      generalize w19.drewN q22 = W23 at B23 O23w O23x0 O23x1 O23g ⊢
      go_wp2_with fail
      refine (toInt64S_any x0 _ _ _ _ hl0 (H0.out.keep B23 (Nat.le_refl _))).mono ?_
      rintro e w24 ⟨vy0, rfl, ho, hb⟩
      have z24 := hb.size
      have B25 : Below w.heap.size w w24 := B23.trans (hb.mono B23.size)
      have O25w := Lib.hid (O23w.out.below hb O23w.out.2.1)
      have O25x0 := Lib.hid (O23x0.out.below hb O23x0.out.2.1)
      have O25x1 := Lib.hid (O23x1.out.below hb O23x1.out.2.1)
      have O25g := Lib.hid (O23g.out.below hb O23g.out.2.1)
      clear O23w O23x0 O23x1 O23g
      have O26y0 := Lib.hid ho.inn
      clear ho hb
      go_wp2_with fail
      refine (eq_own x0 _ _ _ _ _ _ _ hl0 O25x0.out O26y0.out).mono ?_
      rintro e w27 ⟨rfl, q27, rfl⟩
      have B28 : Below w.heap.size w (w24.drewN q27) := below_drewN B25 q27
      have O28w := Lib.hid (O25w.out.drewN q27)
      have O28x0 := Lib.hid (O25x0.out.drewN q27)
      have O28x1 := Lib.hid (O25x1.out.drewN q27)
      have O28g := Lib.hid (O25g.out.drewN q27)
      have O28y0 := Lib.hid (O26y0.out.drewN q27)
      clear O25w O25x0 O25x1 O25g O26y0
      generalize w24.drewN q27 = W28 at B28 O28w O28x0 O28x1 O28g O28y0 ⊢
      clear O28y0
      go_wp2_with fail
      refine (toInt64S_any x1 _ _ _ _ hl1 (H1.out.keep B28 (Nat.le_refl _))).mono ?_
      rintro e w29 ⟨vy1, rfl, ho, hb⟩
      have z29 := hb.size
      have B30 : Below w.heap.size w w29 := B28.trans (hb.mono B28.size)
      have O30w := Lib.hid (O28w.out.below hb O28w.out.2.1)
      have O30x0 := Lib.hid (O28x0.out.below hb O28x0.out.2.1)
      have O30x1 := Lib.hid (O28x1.out.below hb O28x1.out.2.1)
      have O30g := Lib.hid (O28g.out.below hb O28g.out.2.1)
      clear O28w O28x0 O28x1 O28g
      have O31y1 := Lib.hid ho.inn
      clear ho hb
      go_wp2_with fail
      refine (eq_own x1 _ _ _ _ _ _ _ hl1 O30x1.out O31y1.out).mono ?_
      rintro e w32 ⟨rfl, q32, rfl⟩
      have B33 : Below w.heap.size w (w29.drewN q32) := below_drewN B30 q32
      have O33w := Lib.hid (O30w.out.drewN q32)
      have O33x0 := Lib.hid (O30x0.out.drewN q32)
      have O33x1 := Lib.hid (O30x1.out.drewN q32)
      have O33g := Lib.hid (O30g.out.drewN q32)
      have O33y1 := Lib.hid (O31y1.out.drewN q32)
      clear O30w O30x0 O30x1 O30g O31y1
      generalize w29.drewN q32 = W33 at B33 O33w O33x0 O33x1 O33g O33y1 ⊢
      clear O33y1
      go_wp2_with fail
      refine (mark_own x0 _ _ _ _ _ hl0 (by omega) (by omega) O33x0.out).mono ?_
      rintro e w34 ⟨rfl, om, hb, hg⟩
      have B34 : Below w.heap.size w w34 := B33.trans (hb.mono hz10)
      have O34w := Lib.hid (O33w.out.other O33x0.out hg (by omega))
      have O34x1 := Lib.hid (O33x1.out.other O33x0.out hg (by omega))
      have O34g := Lib.hid (O33g.out.other O33x0.out hg (by omega))
      have O34x0 := Lib.hid om
      clear hb hg om O33w O33x0 O33x1 O33g
      go_wp2_with fail
      refine (mark_own x1 _ _ _ _ _ hl1 (by omega) (by omega) O34x1.out).mono ?_
      rintro e w35 ⟨rfl, om, hb, hg⟩
      have B35 : Below w.heap.size w w35 := B34.trans (hb.mono hz14)
      have O35w := Lib.hid (O34w.out.other O34x1.out hg (by omega))
      have O35g := Lib.hid (O34g.out.other O34x1.out hg (by omega))
      have O35x0 := Lib.hid (O34x0.out.other O34x1.out hg (by omega))
      have O35x1 := Lib.hid om
      clear hb hg om O34w O34x1 O34g O34x0
      clear O35x0
      clear O35x1
      go_wp2_with fail
      refine (eq_own ys _ _ _ _ _ _ _ hly O35g.out O35w.out).mono ?_
      rintro e w36 ⟨rfl, q36, rfl⟩
      have B37 : Below w.heap.size w (w35.drewN q36) := below_drewN B35 q36
      have O37w := Lib.hid (O35w.out.drewN q36)
      have O37g := Lib.hid (O35g.out.drewN q36)
      clear O35w O35g
      generalize w35.drewN q36 = W37 at B37 O37w O37g ⊢
      go_wp2_with fail
      refine (mark_own ys _ _ _ _ _ hly (by omega) (by omega) O37g.out).mono ?_
      rintro e w38 ⟨rfl, om, hb, hg⟩
      have B38 : Below w.heap.size w w38 := B37.trans (hb.mono hz18)
      have O38w := Lib.hid (O37w.out.other O37g.out hg (by omega))
      have O38g := Lib.hid om
      clear hb hg om O37w O37g
      go_wp2_with fail
      refine (held_own ys.length _ _ _ _ _ hly (by omega) (by omega) O38g.out).mono ?_
      rintro e w39 ⟨rfl, rfl⟩
      go_wp2_with fail
      refine (toInt64S_any x0 _ _ _ _ hl0 (H0.out.keep B38 (Nat.le_refl _))).mono ?_
      rintro e w40 ⟨vt0, rfl, ho, hb⟩
      have z40 := hb.size
      have B41 : Below w.heap.size w w40 := B38.trans (hb.mono B38.size)
      have O41w := Lib.hid (O38w.out.below hb O38w.out.2.1)
      have O41g := Lib.hid (O38g.out.below hb O38g.out.2.1)
      clear O38w O38g
      have O42t0 := Lib.hid ho.inn
      clear ho hb
      go_wp2_with fail
      refine (toInt64S_any x1 _ _ _ _ hl1 (H1.out.keep B41 (Nat.le_refl _))).mono ?_
      rintro e w43 ⟨vt1, rfl, ho, hb⟩
      have z43 := hb.size
      have B44 : Below w.heap.size w w43 := B41.trans (hb.mono B41.size)
      have O44w := Lib.hid (O41w.out.below hb O41w.out.2.1)
      have O44g := Lib.hid (O41g.out.below hb O41g.out.2.1)
      have O44t0 := Lib.hid (O42t0.out.below hb O42t0.out.2.1)
      clear O41w O41g O42t0
      have O45t1 := Lib.hid ho.inn
      clear ho hb
      go_wp2_with fail
      refine (implComposeRelations_any_v x0 x1 _ _ _ _ _ _ _ hl0 hl1 O44t0.out O45t1.out).mono ?_
      rw [← HY.out, ← HC.out]
      rintro e w46 ⟨vh, rfl, ho, hb⟩
      have z46 := hb.size
      have B47 : Below w.heap.size w w46 := B44.trans (hb.mono B44.size)
      have O47w := Lib.hid (O44w.out.below hb O44w.out.2.1)
      have O47g := Lib.hid (O44g.out.below hb O44g.out.2.1)
      have O47t0 := Lib.hid (O44t0.out.below hb O44t0.out.2.1)
      have O47t1 := Lib.hid (O45t1.out.below hb O45t1.out.2.1)
      clear O44w O44g O44t0 O45t1
      have O48h := Lib.hid ho.inn
      clear ho hb
      clear O47t0
      clear O47t1
      go_wp2_with fail
      refine (eq_own ys _ _ _ _ _ _ _ hly O48h.out O47w.out).mono ?_
      rintro e w49 ⟨rfl, q49, rfl⟩
      have B50 : Below w.heap.size w (w46.drewN q49) := below_drewN B47 q49
      have O50w := Lib.hid (O47w.out.drewN q49)
      have O50g := Lib.hid (O47g.out.drewN q49)
      have O50h := Lib.hid (O48h.out.drewN q49)
      clear O47w O47g O48h
      generalize w46.drewN q49 = W50 at B50 O50w O50g O50h ⊢
      clear O50h
      clear O50w
      go_wp2_with fail
      refine (held_own ys.length _ _ _ _ _ hly (by omega) (by omega) O50g.out).mono ?_
      rintro e w51 ⟨rfl, rfl⟩
      go_wp2
      go_ret
      exact ⟨rfl, B50⟩

end Go.Proofs.Ytckkkleegohkfaa
