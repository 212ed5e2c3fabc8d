/- The walk of the law FnExactBoundedBisimulation. Conditions: those in the theorems. -/
import Derived.Test.YtecjmibnoldpgabBbI
namespace Go.Proofs.Ytecjmibnoldpgab
open Go.RowKit

set_option maxHeartbeats 40000000 in
set_option maxRecDepth 100000 in
theorem lawBoundedBisimulation (n0 : Int) (x0 y0 : List Int) (n1 : Int) (x1 y1 : List Int) (x2 : Int) (a0 : Option Addr) (len0 cap0 : Nat) (b0 : Option Addr) (m0 d0 : Nat) (a1 : Option Addr) (len1 cap1 : Nat) (b1 : Option Addr) (m1 d1 : Nat) (w : World) (h0 : IsMod w a0 len0 x0 b0 m0 y0) (h1 : IsMod w a1 len1 x1 b1 m1 y1) :
    Calls Try.prog 4 #[.agg #[.int .i64 n0, .slice a0 len0 cap0, .slice b0 m0 d0], .agg #[.int .i64 n1, .slice a1 len1 cap1, .slice b1 m1 d1], .int .i64 x2] w fun e w' => e = .returned (.bool true) ∧ Below w.heap.size w w' := by
  obtain rfl := h0.1.1.1
  obtain rfl := h0.2.1.1
  obtain rfl := h1.1.1.1
  obtain rfl := h1.2.1.1
  have ma0 := h0.1.2
  have mb0 := h0.2.2
  have HA0 := Lib.hid h0.1.1
  have HB0 := Lib.hid h0.2.1
  clear h0
  have ma1 := h1.1.2
  have mb1 := h1.2.2
  have HA1 := Lib.hid h1.1.1
  have HB1 := Lib.hid h1.2.1
  clear h1
  obtain ⟨rl, hrl⟩ : ∃ r, r = (bbL n0 x0 y0 n1 x1 y1 x2) := ⟨_, rfl⟩
  obtain ⟨r1, hr1⟩ : ∃ r, r = (bbC n0 x0 y0 n1 x1 y1 x2) := ⟨_, rfl⟩
  have hly : rl.length ≤ 1048576 := by rw [hrl]; exact BoundedBisimulation_len n0 x0 y0 n1 x1 y1 x2
  have Rl := Lib.hid hrl
  clear hrl
  have R1 := Lib.hid hr1
  clear hr1
  obtain ⟨W0, hW0⟩ : ∃ W0, W0 = ((w.alloc (.cells #[.int .i64 n0, .slice a0 x0.length cap0, .slice b0 y0.length d0] 26)).alloc (.cells #[.int .i64 n1, .slice a1 x1.length cap1, .slice b1 y1.length d1] 26)) := ⟨_, rfl⟩
  have B0 : Below w.heap.size w W0 := by rw [hW0]; exact (((Below.refl w.heap.size w).alloc (by simp) _).alloc (by simp) _)
  have Q0f0 := Lib.hid (show Bm W0 (w.heap.size) n0 a0 x0.length cap0 b0 y0.length d0 by rw [hW0]; exact ((Bm.new _ _ _ _ _ _ _ _ _).keep (alloc_keep _ _).1))
  have Q0f1 := Lib.hid (show Bm W0 (w.heap.size + 1) n1 a1 x1.length cap1 b1 y1.length d1 by rw [hW0]; have := Bm.new (w.alloc (.cells #[.int .i64 n0, .slice a0 x0.length cap0, .slice b0 y0.length d0] 26)) n1 a1 x1.length cap1 b1 y1.length d1 26; simpa using this)
  have zz : w.heap.size + 1 + 1 ≤ W0.heap.size := by rw [hW0]; simp
  have KA0 := Lib.hid (HA0.out.keep B0 (Nat.le_refl _))
  clear HA0
  have KB0 := Lib.hid (HB0.out.keep B0 (Nat.le_refl _))
  clear HB0
  have KA1 := Lib.hid (HA1.out.keep B0 (Nat.le_refl _))
  clear HA1
  have KB1 := Lib.hid (HB1.out.keep B0 (Nat.le_refl _))
  clear HB1
  have hWW := Lib.hid hW0
  clear hW0
  go_enter Try.func4, Try.ntmps4
  go_wp2_with fail
  refine (szModel_any n0 _ _ _ _ _ _ (1048576 : Int) _ ma0 mb0 (by omega) (by omega)).mono ?_
  obtain ⟨s0, hs0⟩ : ∃ s, s = szM (1048576 : Int) x0.length y0.length := ⟨_, rfl⟩
  have hz0 := szM_or (1048576 : Int) x0.length y0.length
  rw [← hs0] at hz0 ⊢
  clear hs0
  rintro e w1 ⟨rfl, hb⟩
  rw [← hWW.out] at hb
  have z2 : W0.heap.size ≤ w1.heap.size := hb.size
  have B2 : Below W0.heap.size W0 w1 := (Below.refl W0.heap.size W0).trans (hb.mono (Below.refl W0.heap.size W0).size)
  have Q3f0 := Lib.hid (Q0f0.out.keep hb)
  have Q3f1 := Lib.hid (Q0f1.out.keep hb)
  clear Q0f0 Q0f1
  clear hb
  rcases hz0 with hz0 | ⟨hy0, hz0⟩
  · subst hz0
    go_wp2
    go_ret
    exact ⟨rfl, B0.trans (B2.mono B0.size)⟩
  have hl0 : x0.length ≤ 1048576 := by omega
  have hm0 : y0.length ≤ 1048576 := by omega
  have s00 : 0 ≤ s0 := by omega
  have s10 : s0 ≤ 1048576 := by omega
  clear hz0 hy0
  obtain ⟨lt0, ca0, cb0, cc0⟩ := Q3f1.out
  go_wp2_with fail
  clear lt0 ca0 cb0 cc0
  refine (szModel_any n1 _ _ _ _ _ _ s0 _ ma1 mb1 (by omega) (by omega)).mono ?_
  obtain ⟨s1, hs1⟩ : ∃ s, s = szM s0 x1.length y1.length := ⟨_, rfl⟩
  have hz1 := szM_or s0 x1.length y1.length
  rw [← hs1] at hz1 ⊢
  clear hs1
  rintro e w4 ⟨rfl, hb⟩
  have z5 : w1.heap.size ≤ w4.heap.size := hb.size
  have B5 : Below W0.heap.size W0 w4 := B2.trans (hb.mono B2.size)
  have Q6f0 := Lib.hid (Q3f0.out.keep hb)
  have Q6f1 := Lib.hid (Q3f1.out.keep hb)
  clear Q3f0 Q3f1
  clear hb
  rcases hz1 with hz1 | ⟨hy1, hz1⟩
  · subst hz1
    go_wp2
    go_ret
    exact ⟨rfl, B0.trans (B5.mono B0.size)⟩
  have hl1 : x1.length ≤ 1048576 := by omega
  have hm1 : y1.length ≤ 1048576 := by omega
  have s01 : 0 ≤ s1 := by omega
  have s11 : s1 ≤ 1048576 := by omega
  clear hz1 hy1
  obtain ⟨lt0, ca0, cb0, cc0⟩ := Q6f0.out
  obtain ⟨lt1, ca1, cb1, cc1⟩ := Q6f1.out
  have zw := B5.size
  go_wp2
  go_cut [8, 9] (fun s1 s2 wx => ∃ (v : Value) (lo hi : Nat), s1 = v ∧ s2 = .int .i64 r1 ∧ Hid (Below w4.heap.size w4 wx) ∧ w4.heap.size ≤ lo ∧ Hid (OwnIn wx lo hi v rl))
  case first =>
    go_region_held3 (fun w' => w'.cell? ⟨w.heap.size, 0, none⟩ = some (.int .i64 n0) ∧ w'.cell? ⟨w.heap.size, 1, none⟩ = some (.slice a0 x0.length cap0) ∧ w'.cell? ⟨w.heap.size, 2, none⟩ = some (.slice b0 y0.length d0) ∧ w'.cell? ⟨w.heap.size + 1, 0, none⟩ = some (.int .i64 n1) ∧ w'.cell? ⟨w.heap.size + 1, 1, none⟩ = some (.slice a1 x1.length cap1) ∧ w'.cell? ⟨w.heap.size + 1, 2, none⟩ = some (.slice b1 y1.length d1)) (first | exact ⟨fa0, fb0, fc0, fa1, fb1, fc1⟩ | exact ⟨ea0, eb0, ec0, ea1, eb1, ec1⟩ | exact ⟨da0, db0, dc0, da1, db1, dc1⟩ | exact ⟨ca0, cb0, cc0, ca1, cb1, cc1⟩ | go_keep) (first | (go_at_call_of 11 cap0; have Z1 := (KA0.out.keep B5 (Nat.le_refl _)).drw; have Z2 := (KB0.out.keep B5 (Nat.le_refl _)).drw; refine (toModel_any n0 x0 y0 _ _ _ _ _ _ _ hl0 hm0 Z1 Z2).mono ?_; clear Z1 Z2; rintro e wq0 ⟨vq, rfl, ho, hb⟩; obtain ⟨bq0, cq0, eq0, fq0, rfl⟩ := ho.form; have y0_1 := Lib.hid (ho.inM hb.size); clear ho; have t1 := Lib.hid (below_of_drew hb); clear hb; obtain ⟨dt0, da0, db0, dc0⟩ := Q6f0.out.keep t1.out; obtain ⟨dt1, da1, db1, dc1⟩ := Q6f1.out.keep t1.out) | (go_at_call_of 11 cap1; have Z1 := (KA1.out.keep (B5.trans (t1.out.mono B5.size)) (Nat.le_refl _)); have Z2 := (KB1.out.keep (B5.trans (t1.out.mono B5.size)) (Nat.le_refl _)); refine (toModel_any n1 x1 y1 _ _ _ _ _ _ _ hl1 hm1 Z1 Z2).mono ?_; clear Z1 Z2; rintro e wq1 ⟨vq, rfl, ho, hb⟩; obtain ⟨bq1, cq1, eq1, fq1, rfl⟩ := ho.form; have y1_2 := Lib.hid (ho.inM hb.size); clear ho; have y0_2 := Lib.hid (y0_1.out.below hb y0_1.out.hi); have t2 := Lib.hid (t1.out.trans (Below.mono hb t1.out.size)); clear hb; obtain ⟨et0, ea0, eb0, ec0⟩ := Q6f0.out.keep t2.out; obtain ⟨et1, ea1, eb1, ec1⟩ := Q6f1.out.keep t2.out) | (go_at_call 18; refine (specBoundedBisimulation_v n0 x0 y0 n1 x1 y1 x2 _ _ _ _ _ _ _ hl0 hm0 hl1 hm1 y0_2.out y1_2.out).mono ?_; rw [← Rl.out, ← R1.out]; rintro e wz7 ⟨vw, rfl, ho, hb⟩; have oo := Lib.hid ho.inn; clear ho; have t3 := Lib.hid (t2.out.trans (Below.mono hb t2.out.size)); clear hb; obtain ⟨ft0, fa0, fb0, fc0⟩ := Q6f0.out.keep t3.out; obtain ⟨ft1, fa1, fb1, fc1⟩ := Q6f1.out.keep t3.out))
    all_goals (try go_wp2_with fail)
    all_goals go_meet
    all_goals exact ⟨_, _, _, rfl, rfl, t3, (by have q := t2.out.size; omega), oo⟩
  case rest =>
  rename World => wz7
  obtain ⟨vw, low, hiw, rfl, rfl, hpr, ql7, oo⟩ := hcut
  have hb := hpr.out
  clear hpr lt0 ca0 cb0 cc0 lt1 ca1 cb1 cc1
  have qh7 := oo.out.hi
  have z8 : w4.heap.size ≤ wz7.heap.size := hb.size
  have B8 : Below W0.heap.size W0 wz7 := B5.trans (hb.mono B5.size)
  have Q9f0 := Lib.hid (Q6f0.out.keep hb)
  have Q9f1 := Lib.hid (Q6f1.out.keep hb)
  clear Q6f0 Q6f1
  clear hb
  have O7pw := Lib.hid oo.out
  clear oo
  obtain ⟨lt0, ca0, cb0, cc0⟩ := Q9f0.out
  go_wp2_with fail
  clear lt0 ca0 cb0 cc0
  have y11 : W0.heap.size ≤ wz7.heap.size := B8.size
  refine (toModel_any n0 x0 y0 _ _ _ _ _ _ _ hl0 hm0 (KA0.out.keep B8 (Nat.le_refl _)) (KB0.out.keep B8 (Nat.le_refl _))).mono ?_
  rintro e w10 ⟨vx0, rfl, ho, hb⟩
  obtain ⟨bx0, cx0, ex0, fx0, rfl⟩ := ho.form
  have oo := Lib.hid (ho.inM hb.size)
  clear ho
  have z12 : wz7.heap.size ≤ w10.heap.size := hb.size
  have B12 : Below W0.heap.size W0 w10 := B8.trans (hb.mono B8.size)
  have O13w := Lib.hid (O7pw.out.below hb O7pw.out.hi)
  have Q13f0 := Lib.hid (Q9f0.out.keep hb)
  have Q13f1 := Lib.hid (Q9f1.out.keep hb)
  clear O7pw Q9f0 Q9f1
  clear hb
  have O14x0 := Lib.hid oo.out
  clear oo
  obtain ⟨lt0, ca0, cb0, cc0⟩ := Q13f1.out
  go_wp2_with fail
  clear lt0 ca0 cb0 cc0
  obtain ⟨wb16, hwb16⟩ : ∃ W, W = w10.alloc (.cells #[.int .i64 n0, .slice bx0 x0.length cx0, .slice ex0 y0.length fx0] 32) := ⟨_, rfl⟩
  rw [← hwb16]
  have hq := Lib.hid (show Bm wb16 w10.heap.size (n0) bx0 (x0.length) cx0 ex0 (y0.length) fx0 by rw [hwb16]; exact Bm.new _ _ _ _ _ _ _ _ _)
  obtain ⟨hb, hsz⟩ : Below w10.heap.size w10 wb16 ∧ w10.heap.size + 1 ≤ wb16.heap.size := by rw [hwb16]; exact alloc_keep _ _
  clear hwb16
  have z17 : w10.heap.size + 1 ≤ wb16.heap.size := hsz
  have B17 : Below W0.heap.size W0 wb16 := B12.trans (hb.mono B12.size)
  have O18w := Lib.hid (O13w.out.below hb O13w.out.hi)
  have O18x0 := Lib.hid (O14x0.out.below hb O14x0.out.hi)
  have Q18f0 := Lib.hid (Q13f0.out.keep hb)
  have Q18f1 := Lib.hid (Q13f1.out.keep hb)
  clear O13w O14x0 Q13f0 Q13f1
  clear hb
  clear hsz
  have Q16bx0 := Lib.hid hq.out
  clear hq
  have y19 : W0.heap.size ≤ wb16.heap.size := B17.size
  refine (toModel_any n1 x1 y1 _ _ _ _ _ _ _ hl1 hm1 (KA1.out.keep B17 (Nat.le_refl _)) (KB1.out.keep B17 (Nat.le_refl _))).mono ?_
  rintro e w15 ⟨vx1, rfl, ho, hb⟩
  obtain ⟨bx1, cx1, ex1, fx1, rfl⟩ := ho.form
  have oo := Lib.hid (ho.inM hb.size)
  clear ho
  have z20 : wb16.heap.size ≤ w15.heap.size := hb.size
  have B20 : Below W0.heap.size W0 w15 := B17.trans (hb.mono B17.size)
  have O21w := Lib.hid (O18w.out.below hb O18w.out.hi)
  have O21x0 := Lib.hid (O18x0.out.below hb O18x0.out.hi)
  have Q21f0 := Lib.hid (Q18f0.out.keep hb)
  have Q21f1 := Lib.hid (Q18f1.out.keep hb)
  have Q21x0 := Lib.hid (Q16bx0.out.keep hb)
  clear O18w O18x0 Q18f0 Q18f1 Q16bx0
  clear hb
  have O22x1 := Lib.hid oo.out
  clear oo
  obtain ⟨lt0, ca0, cb0, cc0⟩ := Q21x0.out
  go_wp2_with fail
  clear lt0 ca0 cb0 cc0
  obtain ⟨wb24, hwb24⟩ : ∃ W, W = w15.alloc (.cells #[.int .i64 n1, .slice bx1 x1.length cx1, .slice ex1 y1.length fx1] 32) := ⟨_, rfl⟩
  rw [← hwb24]
  have hq := Lib.hid (show Bm wb24 w15.heap.size (n1) bx1 (x1.length) cx1 ex1 (y1.length) fx1 by rw [hwb24]; exact Bm.new _ _ _ _ _ _ _ _ _)
  obtain ⟨hb, hsz⟩ : Below w15.heap.size w15 wb24 ∧ w15.heap.size + 1 ≤ wb24.heap.size := by rw [hwb24]; exact alloc_keep _ _
  clear hwb24
  have z25 : w15.heap.size + 1 ≤ wb24.heap.size := hsz
  have B25 : Below W0.heap.size W0 wb24 := B20.trans (hb.mono B20.size)
  have O26w := Lib.hid (O21w.out.below hb O21w.out.hi)
  have O26x0 := Lib.hid (O21x0.out.below hb O21x0.out.hi)
  have O26x1 := Lib.hid (O22x1.out.below hb O22x1.out.hi)
  have Q26f0 := Lib.hid (Q21f0.out.keep hb)
  have Q26f1 := Lib.hid (Q21f1.out.keep hb)
  have Q26x0 := Lib.hid (Q21x0.out.keep hb)
  clear O21w O21x0 O22x1 Q21f0 Q21f1 Q21x0
  clear hb
  clear hsz
  have Q24bx1 := Lib.hid hq.out
  clear hq
  have y27 : W0.heap.size ≤ wb24.heap.size := B25.size
  refine (implBoundedBisimulation_v n0 x0 y0 n1 x1 y1 x2 _ _ _ _ _ _ _ hl0 hm0 hl1 hm1 O26x0.out O26x1.out).mono ?_
  rw [← Rl.out, ← R1.out]
  rintro e w23 ⟨vg, rfl, ho, hb⟩
  have oo := Lib.hid ho.inn
  clear ho
  have z28 : wb24.heap.size ≤ w23.heap.size := hb.size
  have B28 : Below W0.heap.size W0 w23 := B25.trans (hb.mono B25.size)
  have O29w := Lib.hid (O26w.out.below hb O26w.out.hi)
  have O29x0 := Lib.hid (O26x0.out.below hb O26x0.out.hi)
  have O29x1 := Lib.hid (O26x1.out.below hb O26x1.out.hi)
  have Q29f0 := Lib.hid (Q26f0.out.keep hb)
  have Q29f1 := Lib.hid (Q26f1.out.keep hb)
  have Q29x0 := Lib.hid (Q26x0.out.keep hb)
  have Q29x1 := Lib.hid (Q24bx1.out.keep hb)
  clear O26w O26x0 O26x1 Q26f0 Q26f1 Q26x0 Q24bx1
  clear hb
  have O30g := Lib.hid oo.out
  clear oo
  go_wp2_with fail
  refine (eqL_own rl _ _ _ _ _ _ _ hly O30g.out O29w.out).mono ?_
  rintro e w31 ⟨rfl, hb⟩
  have z32 : w23.heap.size ≤ w31.heap.size := hb.size
  have B32 : Below W0.heap.size W0 w31 := B28.trans (hb.mono B28.size)
  have O33w := Lib.hid (O29w.out.below hb O29w.out.hi)
  have O33x0 := Lib.hid (O29x0.out.below hb O29x0.out.hi)
  have O33x1 := Lib.hid (O29x1.out.below hb O29x1.out.hi)
  have O33g := Lib.hid (O30g.out.below hb O30g.out.hi)
  have Q33f0 := Lib.hid (Q29f0.out.keep hb)
  have Q33f1 := Lib.hid (Q29f1.out.keep hb)
  have Q33x0 := Lib.hid (Q29x0.out.keep hb)
  have Q33x1 := Lib.hid (Q29x1.out.keep hb)
  clear O29w O29x0 O29x1 O30g Q29f0 Q29f1 Q29x0 Q29x1
  clear hb
  obtain ⟨lt0, ca0, cb0, cc0⟩ := Q33f0.out
  obtain ⟨lt1, ca1, cb1, cc1⟩ := Q33x0.out
  go_wp2
  go_region_held3 (fun w' => w'.cell? ⟨w.heap.size, 0, none⟩ = some (.int .i64 n0) ∧ w'.cell? ⟨w.heap.size, 1, none⟩ = some (.slice a0 x0.length cap0) ∧ w'.cell? ⟨w.heap.size, 2, none⟩ = some (.slice b0 y0.length d0) ∧ w'.cell? ⟨w10.heap.size, 0, none⟩ = some (.int .i64 (n0)) ∧ w'.cell? ⟨w10.heap.size, 1, none⟩ = some (.slice bx0 (x0.length) cx0) ∧ w'.cell? ⟨w10.heap.size, 2, none⟩ = some (.slice ex0 (y0.length) fx0)) (first | exact ⟨ca0, cb0, cc0, ca1, cb1, cc1⟩ | exact ⟨da0, db0, dc0, da1, db1, dc1⟩ | exact ⟨ea0, eb0, ec0, ea1, eb1, ec1⟩ | go_keep) (first | (go_at_call 11; refine (toModel_any n0 x0 y0 _ _ _ _ _ _ _ hl0 hm0 (KA0.out.keep B32 (Nat.le_refl _)).drw (KB0.out.keep B32 (Nat.le_refl _)).drw).mono ?_; rintro e w34 ⟨vy, rfl, ho, hb⟩; obtain ⟨by34, cy34, ey34, fy34, rfl⟩ := ho.form; have yy := Lib.hid (ho.inM hb.size); clear ho; have tt := Lib.hid (below_of_drew hb); clear hb; obtain ⟨mt0, da0, db0, dc0⟩ := Q33f0.out.keep tt.out; obtain ⟨mt1, da1, db1, dc1⟩ := Q33x0.out.keep tt.out) | (go_at_call 14; refine (eqM_in n0 x0 y0 _ _ _ _ _ _ _ hl0 hm0 (O33x0.out.below tt.out O33x0.out.hi) yy.out).mono ?_; rintro e w34' ⟨rfl, hb⟩; have uu := Lib.hid (tt.out.trans (hb.mono tt.out.size)); clear hb; obtain ⟨nt0, ea0, eb0, ec0⟩ := Q33f0.out.keep uu.out; obtain ⟨nt1, ea1, eb1, ec1⟩ := Q33x0.out.keep uu.out))
  clear lt0 lt1 mt0 mt1 nt0 nt1 yy tt ca0 cb0 cc0 da0 db0 dc0 ea0 eb0 ec0 ca1 cb1 cc1 da1 db1 dc1 ea1 eb1 ec1
  have hb := uu.out
  clear uu
  have z35 : w31.heap.size ≤ w34'.heap.size := hb.size
  have B35 : Below W0.heap.size W0 w34' := B32.trans (hb.mono B32.size)
  have O36w := Lib.hid (O33w.out.below hb O33w.out.hi)
  have O36x0 := Lib.hid (O33x0.out.below hb O33x0.out.hi)
  have O36x1 := Lib.hid (O33x1.out.below hb O33x1.out.hi)
  have O36g := Lib.hid (O33g.out.below hb O33g.out.hi)
  have Q36f0 := Lib.hid (Q33f0.out.keep hb)
  have Q36f1 := Lib.hid (Q33f1.out.keep hb)
  have Q36x0 := Lib.hid (Q33x0.out.keep hb)
  have Q36x1 := Lib.hid (Q33x1.out.keep hb)
  clear O33w O33x0 O33x1 O33g Q33f0 Q33f1 Q33x0 Q33x1
  clear hb
  obtain ⟨lt0, ca0, cb0, cc0⟩ := Q36f1.out
  obtain ⟨lt1, ca1, cb1, cc1⟩ := Q36x1.out
  go_wp2
  go_region_held3 (fun w' => w'.cell? ⟨w.heap.size + 1, 0, none⟩ = some (.int .i64 n1) ∧ w'.cell? ⟨w.heap.size + 1, 1, none⟩ = some (.slice a1 x1.length cap1) ∧ w'.cell? ⟨w.heap.size + 1, 2, none⟩ = some (.slice b1 y1.length d1) ∧ w'.cell? ⟨w15.heap.size, 0, none⟩ = some (.int .i64 (n1)) ∧ w'.cell? ⟨w15.heap.size, 1, none⟩ = some (.slice bx1 (x1.length) cx1) ∧ w'.cell? ⟨w15.heap.size, 2, none⟩ = some (.slice ex1 (y1.length) fx1)) (first | exact ⟨ca0, cb0, cc0, ca1, cb1, cc1⟩ | exact ⟨da0, db0, dc0, da1, db1, dc1⟩ | exact ⟨ea0, eb0, ec0, ea1, eb1, ec1⟩ | go_keep) (first | (go_at_call 11; refine (toModel_any n1 x1 y1 _ _ _ _ _ _ _ hl1 hm1 (KA1.out.keep B35 (Nat.le_refl _)).drw (KB1.out.keep B35 (Nat.le_refl _)).drw).mono ?_; rintro e w37 ⟨vy, rfl, ho, hb⟩; obtain ⟨by37, cy37, ey37, fy37, rfl⟩ := ho.form; have yy := Lib.hid (ho.inM hb.size); clear ho; have tt := Lib.hid (below_of_drew hb); clear hb; obtain ⟨mt0, da0, db0, dc0⟩ := Q36f1.out.keep tt.out; obtain ⟨mt1, da1, db1, dc1⟩ := Q36x1.out.keep tt.out) | (go_at_call 14; refine (eqM_in n1 x1 y1 _ _ _ _ _ _ _ hl1 hm1 (O36x1.out.below tt.out O36x1.out.hi) yy.out).mono ?_; rintro e w37' ⟨rfl, hb⟩; have uu := Lib.hid (tt.out.trans (hb.mono tt.out.size)); clear hb; obtain ⟨nt0, ea0, eb0, ec0⟩ := Q36f1.out.keep uu.out; obtain ⟨nt1, ea1, eb1, ec1⟩ := Q36x1.out.keep uu.out))
  clear lt0 lt1 mt0 mt1 nt0 nt1 yy tt ca0 cb0 cc0 da0 db0 dc0 ea0 eb0 ec0 ca1 cb1 cc1 da1 db1 dc1 ea1 eb1 ec1
  have hb := uu.out
  clear uu
  have z38 : w34'.heap.size ≤ w37'.heap.size := hb.size
  have B38 : Below W0.heap.size W0 w37' := B35.trans (hb.mono B35.size)
  have O39w := Lib.hid (O36w.out.below hb O36w.out.hi)
  have O39x0 := Lib.hid (O36x0.out.below hb O36x0.out.hi)
  have O39x1 := Lib.hid (O36x1.out.below hb O36x1.out.hi)
  have O39g := Lib.hid (O36g.out.below hb O36g.out.hi)
  have Q39f0 := Lib.hid (Q36f0.out.keep hb)
  have Q39f1 := Lib.hid (Q36f1.out.keep hb)
  have Q39x0 := Lib.hid (Q36x0.out.keep hb)
  have Q39x1 := Lib.hid (Q36x1.out.keep hb)
  clear O36w O36x0 O36x1 O36g Q36f0 Q36f1 Q36x0 Q36x1
  clear hb
  obtain ⟨lt0, ca0, cb0, cc0⟩ := Q39x0.out
  go_wp2_with fail
  clear lt0 ca0 cb0 cc0
  refine (markM_in n0 x0 y0 _ _ _ _ _ hl0 hm0 (by omega) (by omega) O39x0.out).mono ?_
  rintro e w40 ⟨rfl, om, hb, hg⟩
  have z40 := hb.size
  have B40 : Below W0.heap.size W0 w40 := B38.trans (hb.mono y11)
  have hh40 := O39x0.out.hi
  have O41w := Lib.hid (O39w.out.othG hg (by omega))
  have O41x1 := Lib.hid (O39x1.out.othG hg (by omega))
  have O41g := Lib.hid (O39g.out.othG hg (by omega))
  have Q41f0 := Lib.hid (Q39f0.out.othG hg (by omega))
  have Q41f1 := Lib.hid (Q39f1.out.othG hg (by omega))
  have Q41x0 := Lib.hid (Q39x0.out.othG hg (by omega))
  have Q41x1 := Lib.hid (Q39x1.out.othG hg (by omega))
  clear O39w O39x1 O39g Q39f0 Q39f1 Q39x0 Q39x1
  have O40x0 := Lib.hid om
  clear hb hg om hh40 O39x0
  obtain ⟨lt0, ca0, cb0, cc0⟩ := Q41x1.out
  go_wp2_with fail
  clear lt0 ca0 cb0 cc0
  refine (markM_in n1 x1 y1 _ _ _ _ _ hl1 hm1 (by omega) (by omega) O41x1.out).mono ?_
  rintro e w42 ⟨rfl, om, hb, hg⟩
  have z42 := hb.size
  have B42 : Below W0.heap.size W0 w42 := B40.trans (hb.mono y19)
  have hh42 := O41x1.out.hi
  have O43w := Lib.hid (O41w.out.othG hg (by omega))
  have O43g := Lib.hid (O41g.out.othG hg (by omega))
  have O43x0 := Lib.hid (O40x0.out.othG hg (by omega))
  have Q43f0 := Lib.hid (Q41f0.out.othG hg (by omega))
  have Q43f1 := Lib.hid (Q41f1.out.othG hg (by omega))
  have Q43x0 := Lib.hid (Q41x0.out.othG hg (by omega))
  have Q43x1 := Lib.hid (Q41x1.out.othG hg (by omega))
  clear O41w O41g O40x0 Q41f0 Q41f1 Q41x0 Q41x1
  have O42x1 := Lib.hid om
  clear hb hg om hh42 O41x1
  clear O43x0
  clear Q43x0
  clear O42x1
  clear Q43x1
  go_wp2_with fail
  refine (eqL_own rl _ _ _ _ _ _ _ hly O43g.out O43w.out).mono ?_
  rintro e w44 ⟨rfl, hb⟩
  have z45 : w42.heap.size ≤ w44.heap.size := hb.size
  have B45 : Below W0.heap.size W0 w44 := B42.trans (hb.mono B42.size)
  have O46w := Lib.hid (O43w.out.below hb O43w.out.hi)
  have O46g := Lib.hid (O43g.out.below hb O43g.out.hi)
  have Q46f0 := Lib.hid (Q43f0.out.keep hb)
  have Q46f1 := Lib.hid (Q43f1.out.keep hb)
  clear O43w O43g Q43f0 Q43f1
  clear hb
  go_wp2_with fail
  refine (markL_own rl _ _ _ _ _ hly (by omega) (by omega) O46g.out).mono ?_
  rintro e w47 ⟨rfl, om, hb, hg⟩
  have z47 := hb.size
  have B47 : Below W0.heap.size W0 w47 := B45.trans (hb.mono y27)
  have hh47 := O46g.out.hi
  have O48w := Lib.hid (O46w.out.oth O46g.out.blk hg (by omega))
  have Q48f0 := Lib.hid (Q46f0.out.oth O46g.out.blk hg (by omega))
  have Q48f1 := Lib.hid (Q46f1.out.oth O46g.out.blk hg (by omega))
  clear O46w Q46f0 Q46f1
  have O47g := Lib.hid om
  clear hb hg om hh47 O46g
  go_wp2_with fail
  refine (heldL_own rl.length _ _ _ _ _ hly (by omega) (by omega) O47g.out).mono ?_
  rintro e w49 ⟨rfl, hb⟩
  have z50 : w47.heap.size ≤ w49.heap.size := hb.size
  have B50 : Below W0.heap.size W0 w49 := B47.trans (hb.mono B47.size)
  have O51w := Lib.hid (O48w.out.below hb O48w.out.hi)
  have O51g := Lib.hid (O47g.out.below hb O47g.out.hi)
  have Q51f0 := Lib.hid (Q48f0.out.keep hb)
  have Q51f1 := Lib.hid (Q48f1.out.keep hb)
  clear O48w O47g Q48f0 Q48f1
  clear hb
  obtain ⟨lt0, ca0, cb0, cc0⟩ := Q51f0.out
  obtain ⟨lt1, ca1, cb1, cc1⟩ := Q51f1.out
  have zw := B50.size
  go_wp2
  go_cut [17, 18] (fun s1 s2 wx => ∃ (v : Value) (lo hi : Nat), s1 = v ∧ s2 = .int .i64 r1 ∧ Hid (Below w49.heap.size w49 wx) ∧ w49.heap.size ≤ lo ∧ Hid (OwnIn wx lo hi v rl))
  case first =>
    go_region_held3 (fun w' => w'.cell? ⟨w.heap.size, 0, none⟩ = some (.int .i64 n0) ∧ w'.cell? ⟨w.heap.size, 1, none⟩ = some (.slice a0 x0.length cap0) ∧ w'.cell? ⟨w.heap.size, 2, none⟩ = some (.slice b0 y0.length d0) ∧ w'.cell? ⟨w.heap.size + 1, 0, none⟩ = some (.int .i64 n1) ∧ w'.cell? ⟨w.heap.size + 1, 1, none⟩ = some (.slice a1 x1.length cap1) ∧ w'.cell? ⟨w.heap.size + 1, 2, none⟩ = some (.slice b1 y1.length d1)) (first | exact ⟨fa0, fb0, fc0, fa1, fb1, fc1⟩ | exact ⟨ea0, eb0, ec0, ea1, eb1, ec1⟩ | exact ⟨da0, db0, dc0, da1, db1, dc1⟩ | exact ⟨ca0, cb0, cc0, ca1, cb1, cc1⟩ | go_keep) (first | (go_at_call_of 11 cap0; have Z1 := (KA0.out.keep B50 (Nat.le_refl _)).drw; have Z2 := (KB0.out.keep B50 (Nat.le_refl _)).drw; refine (toModel_any n0 x0 y0 _ _ _ _ _ _ _ hl0 hm0 Z1 Z2).mono ?_; clear Z1 Z2; rintro e wq0 ⟨vq, rfl, ho, hb⟩; obtain ⟨bq0, cq0, eq0, fq0, rfl⟩ := ho.form; have y0_1 := Lib.hid (ho.inM hb.size); clear ho; have t1 := Lib.hid (below_of_drew hb); clear hb; obtain ⟨dt0, da0, db0, dc0⟩ := Q51f0.out.keep t1.out; obtain ⟨dt1, da1, db1, dc1⟩ := Q51f1.out.keep t1.out) | (go_at_call_of 11 cap1; have Z1 := (KA1.out.keep (B50.trans (t1.out.mono B50.size)) (Nat.le_refl _)); have Z2 := (KB1.out.keep (B50.trans (t1.out.mono B50.size)) (Nat.le_refl _)); refine (toModel_any n1 x1 y1 _ _ _ _ _ _ _ hl1 hm1 Z1 Z2).mono ?_; clear Z1 Z2; rintro e wq1 ⟨vq, rfl, ho, hb⟩; obtain ⟨bq1, cq1, eq1, fq1, rfl⟩ := ho.form; have y1_2 := Lib.hid (ho.inM hb.size); clear ho; have y0_2 := Lib.hid (y0_1.out.below hb y0_1.out.hi); have t2 := Lib.hid (t1.out.trans (Below.mono hb t1.out.size)); clear hb; obtain ⟨et0, ea0, eb0, ec0⟩ := Q51f0.out.keep t2.out; obtain ⟨et1, ea1, eb1, ec1⟩ := Q51f1.out.keep t2.out) | (go_at_call 19; refine (implBoundedBisimulation_v n0 x0 y0 n1 x1 y1 x2 _ _ _ _ _ _ _ hl0 hm0 hl1 hm1 y0_2.out y1_2.out).mono ?_; rw [← Rl.out, ← R1.out]; rintro e wz52 ⟨vh, rfl, ho, hb⟩; have oo := Lib.hid ho.inn; clear ho; have t3 := Lib.hid (t2.out.trans (Below.mono hb t2.out.size)); clear hb; obtain ⟨ft0, fa0, fb0, fc0⟩ := Q51f0.out.keep t3.out; obtain ⟨ft1, fa1, fb1, fc1⟩ := Q51f1.out.keep t3.out))
    all_goals (try go_wp2_with fail)
    all_goals go_meet
    all_goals exact ⟨_, _, _, rfl, rfl, t3, (by have q := t2.out.size; omega), oo⟩
  case rest =>
  rename World => wz52
  obtain ⟨vh, loh, hih, rfl, rfl, hpr, ql52, oo⟩ := hcut
  have hb := hpr.out
  clear hpr lt0 ca0 cb0 cc0 lt1 ca1 cb1 cc1
  have qh52 := oo.out.hi
  have z53 : w49.heap.size ≤ wz52.heap.size := hb.size
  have B53 : Below W0.heap.size W0 wz52 := B50.trans (hb.mono B50.size)
  have O54w := Lib.hid (O51w.out.below hb O51w.out.hi)
  have O54g := Lib.hid (O51g.out.below hb O51g.out.hi)
  have Q54f0 := Lib.hid (Q51f0.out.keep hb)
  have Q54f1 := Lib.hid (Q51f1.out.keep hb)
  clear O51w O51g Q51f0 Q51f1
  clear hb
  have O52ph := Lib.hid oo.out
  clear oo
  go_wp2_with fail
  refine (eqL_own rl _ _ _ _ _ _ _ hly O52ph.out O54w.out).mono ?_
  rintro e w55 ⟨rfl, hb⟩
  have z56 : wz52.heap.size ≤ w55.heap.size := hb.size
  have B56 : Below W0.heap.size W0 w55 := B53.trans (hb.mono B53.size)
  have O57w := Lib.hid (O54w.out.below hb O54w.out.hi)
  have O57g := Lib.hid (O54g.out.below hb O54g.out.hi)
  have O57h := Lib.hid (O52ph.out.below hb O52ph.out.hi)
  have Q57f0 := Lib.hid (Q54f0.out.keep hb)
  have Q57f1 := Lib.hid (Q54f1.out.keep hb)
  clear O54w O54g O52ph Q54f0 Q54f1
  clear hb
  clear O57h
  clear O57w
  go_wp2_with fail
  refine (heldL_own rl.length _ _ _ _ _ hly (by omega) (by omega) O57g.out).mono ?_
  rintro e w58 ⟨rfl, hb⟩
  have z59 : w55.heap.size ≤ w58.heap.size := hb.size
  have B59 : Below W0.heap.size W0 w58 := B56.trans (hb.mono B56.size)
  have O60g := Lib.hid (O57g.out.below hb O57g.out.hi)
  have Q60f0 := Lib.hid (Q57f0.out.keep hb)
  have Q60f1 := Lib.hid (Q57f1.out.keep hb)
  clear O57g Q57f0 Q57f1
  clear hb
  go_wp2
  go_ret
  exact ⟨rfl, B0.trans (B59.mono B0.size)⟩

end Go.Proofs.Ytecjmibnoldpgab
