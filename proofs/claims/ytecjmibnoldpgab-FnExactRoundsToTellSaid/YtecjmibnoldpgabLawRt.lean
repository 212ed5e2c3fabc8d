/- The walk of the law FnExactRoundsToTell. Conditions: those in the theorems. -/
import Derived.Test.YtecjmibnoldpgabRtI
namespace Go.Proofs.Ytecjmibnoldpgab
open Go.RowKit

set_option maxHeartbeats 40000000 in
set_option maxRecDepth 100000 in
theorem lawRoundsToTell (n0 : Int) (x0 y0 : List Int) (x1 : Int) (n2 : Int) (x2 y2 : List Int) (x3 : Int) (a0 : Option Addr) (len0 cap0 : Nat) (b0 : Option Addr) (m0 d0 : Nat) (a2 : Option Addr) (len2 cap2 : Nat) (b2 : Option Addr) (m2 d2 : Nat) (w : World) (h0 : IsMod w a0 len0 x0 b0 m0 y0) (h2 : IsMod w a2 len2 x2 b2 m2 y2) :
    Calls Try.prog 6 #[.agg #[.int .i64 n0, .slice a0 len0 cap0, .slice b0 m0 d0], .int .i64 x1, .agg #[.int .i64 n2, .slice a2 len2 cap2, .slice b2 m2 d2], .int .i64 x3] w fun e w' => e = .returned (.bool true) ∧ Below w.heap.size w w' := by
  obtain rfl := h0.1.1.1
  obtain rfl := h0.2.1.1
  obtain rfl := h2.1.1.1
  obtain rfl := h2.2.1.1
  have ma0 := h0.1.2
  have mb0 := h0.2.2
  have HA0 := Lib.hid h0.1.1
  have HB0 := Lib.hid h0.2.1
  clear h0
  have ma2 := h2.1.2
  have mb2 := h2.2.2
  have HA2 := Lib.hid h2.1.1
  have HB2 := Lib.hid h2.2.1
  clear h2
  obtain ⟨r0, hr0⟩ : ∃ r, r = (rtR n0 x0 y0 x1 n2 x2 y2 x3) := ⟨_, rfl⟩
  obtain ⟨r1, hr1⟩ : ∃ r, r = (rtC n0 x0 y0 x1 n2 x2 y2 x3) := ⟨_, rfl⟩
  have R0 := Lib.hid hr0
  clear hr0
  have R1 := Lib.hid hr1
  clear hr1
  obtain ⟨W0, hW0⟩ : ∃ W0, W0 = ((w.alloc (.cells #[.int .i64 n0, .slice a0 x0.length cap0, .slice b0 y0.length d0] 26)).alloc (.cells #[.int .i64 n2, .slice a2 x2.length cap2, .slice b2 y2.length d2] 26)) := ⟨_, rfl⟩
  have B0 : Below w.heap.size w W0 := by rw [hW0]; exact (((Below.refl w.heap.size w).alloc (by simp) _).alloc (by simp) _)
  have Q0f0 := Lib.hid (show Bm W0 (w.heap.size) n0 a0 x0.length cap0 b0 y0.length d0 by rw [hW0]; exact ((Bm.new _ _ _ _ _ _ _ _ _).keep (alloc_keep _ _).1))
  have Q0f2 := Lib.hid (show Bm W0 (w.heap.size + 1) n2 a2 x2.length cap2 b2 y2.length d2 by rw [hW0]; have := Bm.new (w.alloc (.cells #[.int .i64 n0, .slice a0 x0.length cap0, .slice b0 y0.length d0] 26)) n2 a2 x2.length cap2 b2 y2.length d2 26; simpa using this)
  have zz : w.heap.size + 1 + 1 ≤ W0.heap.size := by rw [hW0]; simp
  have KA0 := Lib.hid (HA0.out.keep B0 (Nat.le_refl _))
  clear HA0
  have KB0 := Lib.hid (HB0.out.keep B0 (Nat.le_refl _))
  clear HB0
  have KA2 := Lib.hid (HA2.out.keep B0 (Nat.le_refl _))
  clear HA2
  have KB2 := Lib.hid (HB2.out.keep B0 (Nat.le_refl _))
  clear HB2
  have hWW := Lib.hid hW0
  clear hW0
  go_enter Try.func6, Try.ntmps6
  go_wp2_with fail
  refine (szModel_any n0 _ _ _ _ _ _ (1048576 : Int) _ ma0 mb0 (by omega) (by omega)).mono ?_
  obtain ⟨s0, hs0⟩ : ∃ s, s = szM (1048576 : Int) x0.length y0.length := ⟨_, rfl⟩
  have hz0 := szM_or (1048576 : Int) x0.length y0.length
  rw [← hs0] at hz0 ⊢
  clear hs0
  rintro e w1 ⟨rfl, hb⟩
  rw [← hWW.out] at hb
  have z2 : W0.heap.size ≤ w1.heap.size := hb.size
  have B2 : Below W0.heap.size W0 w1 := (Below.refl W0.heap.size W0).trans (hb.mono (Below.refl W0.heap.size W0).size)
  have Q3f0 := Lib.hid (Q0f0.out.keep hb)
  have Q3f2 := Lib.hid (Q0f2.out.keep hb)
  clear Q0f0 Q0f2
  clear hb
  rcases hz0 with hz0 | ⟨hy0, hz0⟩
  · subst hz0
    go_wp2
    go_ret
    exact ⟨rfl, B0.trans (B2.mono B0.size)⟩
  have hl0 : x0.length ≤ 1048576 := by omega
  have hm0 : y0.length ≤ 1048576 := by omega
  have s00 : 0 ≤ s0 := by omega
  have s10 : s0 ≤ 1048576 := by omega
  clear hz0 hy0
  obtain ⟨lt0, ca0, cb0, cc0⟩ := Q3f2.out
  go_wp2_with fail
  clear lt0 ca0 cb0 cc0
  refine (szModel_any n2 _ _ _ _ _ _ s0 _ ma2 mb2 (by omega) (by omega)).mono ?_
  obtain ⟨s2, hs2⟩ : ∃ s, s = szM s0 x2.length y2.length := ⟨_, rfl⟩
  have hz2 := szM_or s0 x2.length y2.length
  rw [← hs2] at hz2 ⊢
  clear hs2
  rintro e w4 ⟨rfl, hb⟩
  have z5 : w1.heap.size ≤ w4.heap.size := hb.size
  have B5 : Below W0.heap.size W0 w4 := B2.trans (hb.mono B2.size)
  have Q6f0 := Lib.hid (Q3f0.out.keep hb)
  have Q6f2 := Lib.hid (Q3f2.out.keep hb)
  clear Q3f0 Q3f2
  clear hb
  rcases hz2 with hz2 | ⟨hy2, hz2⟩
  · subst hz2
    go_wp2
    go_ret
    exact ⟨rfl, B0.trans (B5.mono B0.size)⟩
  have hl2 : x2.length ≤ 1048576 := by omega
  have hm2 : y2.length ≤ 1048576 := by omega
  have s02 : 0 ≤ s2 := by omega
  have s12 : s2 ≤ 1048576 := by omega
  clear hz2 hy2
  obtain ⟨lt0, ca0, cb0, cc0⟩ := Q6f0.out
  obtain ⟨lt1, ca1, cb1, cc1⟩ := Q6f2.out
  have zw := B5.size
  go_wp2
  go_cut [10, 11] (fun s1 s2 wx => s1 = .int .i64 r0 ∧ s2 = .int .i64 r1 ∧ Hid (Below w4.heap.size w4 wx))
  case first =>
    go_region_held3 (fun w' => w'.cell? ⟨w.heap.size, 0, none⟩ = some (.int .i64 n0) ∧ w'.cell? ⟨w.heap.size, 1, none⟩ = some (.slice a0 x0.length cap0) ∧ w'.cell? ⟨w.heap.size, 2, none⟩ = some (.slice b0 y0.length d0) ∧ w'.cell? ⟨w.heap.size + 1, 0, none⟩ = some (.int .i64 n2) ∧ w'.cell? ⟨w.heap.size + 1, 1, none⟩ = some (.slice a2 x2.length cap2) ∧ w'.cell? ⟨w.heap.size + 1, 2, none⟩ = some (.slice b2 y2.length d2)) (first | exact ⟨fa0, fb0, fc0, fa1, fb1, fc1⟩ | exact ⟨ea0, eb0, ec0, ea1, eb1, ec1⟩ | exact ⟨da0, db0, dc0, da1, db1, dc1⟩ | exact ⟨ca0, cb0, cc0, ca1, cb1, cc1⟩ | go_keep) (first | (go_at_call_of 11 cap0; have Z1 := (KA0.out.keep B5 (Nat.le_refl _)).drw; have Z2 := (KB0.out.keep B5 (Nat.le_refl _)).drw; refine (toModel_any n0 x0 y0 _ _ _ _ _ _ _ hl0 hm0 Z1 Z2).mono ?_; clear Z1 Z2; rintro e wq0 ⟨vq, rfl, ho, hb⟩; obtain ⟨bq0, cq0, eq0, fq0, rfl⟩ := ho.form; have y0_1 := Lib.hid (ho.inM hb.size); clear ho; have t1 := Lib.hid (below_of_drew hb); clear hb; obtain ⟨dt0, da0, db0, dc0⟩ := Q6f0.out.keep t1.out; obtain ⟨dt1, da1, db1, dc1⟩ := Q6f2.out.keep t1.out) | (go_at_call_of 11 cap2; have Z1 := (KA2.out.keep (B5.trans (t1.out.mono B5.size)) (Nat.le_refl _)); have Z2 := (KB2.out.keep (B5.trans (t1.out.mono B5.size)) (Nat.le_refl _)); refine (toModel_any n2 x2 y2 _ _ _ _ _ _ _ hl2 hm2 Z1 Z2).mono ?_; clear Z1 Z2; rintro e wq1 ⟨vq, rfl, ho, hb⟩; obtain ⟨bq1, cq1, eq1, fq1, rfl⟩ := ho.form; have y2_2 := Lib.hid (ho.inM hb.size); clear ho; have y0_2 := Lib.hid (y0_1.out.below hb y0_1.out.hi); have t2 := Lib.hid (t1.out.trans (Below.mono hb t1.out.size)); clear hb; obtain ⟨et0, ea0, eb0, ec0⟩ := Q6f0.out.keep t2.out; obtain ⟨et1, ea1, eb1, ec1⟩ := Q6f2.out.keep t2.out) | (go_at_call 22; refine (specRoundsToTell_v n0 x0 y0 x1 n2 x2 y2 x3 _ _ _ _ _ _ _ hl0 hm0 hl2 hm2 y0_2.out y2_2.out).mono ?_; rw [← R0.out, ← R1.out]; rintro e wz7 ⟨rfl, hb⟩; have t3 := Lib.hid (t2.out.trans (Below.mono hb t2.out.size)); clear hb; obtain ⟨ft0, fa0, fb0, fc0⟩ := Q6f0.out.keep t3.out; obtain ⟨ft1, fa1, fb1, fc1⟩ := Q6f2.out.keep t3.out))
    all_goals (try go_wp2_with fail)
    all_goals go_meet
    all_goals exact ⟨rfl, rfl, t3⟩
  case rest =>
  rename World => wz7
  obtain ⟨rfl, rfl, hpr⟩ := hcut
  have hb := hpr.out
  clear hpr lt0 ca0 cb0 cc0 lt1 ca1 cb1 cc1
  have z8 : w4.heap.size ≤ wz7.heap.size := hb.size
  have B8 : Below W0.heap.size W0 wz7 := B5.trans (hb.mono B5.size)
  have Q9f0 := Lib.hid (Q6f0.out.keep hb)
  have Q9f2 := Lib.hid (Q6f2.out.keep hb)
  clear Q6f0 Q6f2
  clear hb
  obtain ⟨lt0, ca0, cb0, cc0⟩ := Q9f0.out
  go_wp2_with fail
  clear lt0 ca0 cb0 cc0
  have y11 : W0.heap.size ≤ wz7.heap.size := B8.size
  refine (toModel_any n0 x0 y0 _ _ _ _ _ _ _ hl0 hm0 (KA0.out.keep B8 (Nat.le_refl _)) (KB0.out.keep B8 (Nat.le_refl _))).mono ?_
  rintro e w10 ⟨vx0, rfl, ho, hb⟩
  obtain ⟨bx0, cx0, ex0, fx0, rfl⟩ := ho.form
  have oo := Lib.hid (ho.inM hb.size)
  clear ho
  have z12 : wz7.heap.size ≤ w10.heap.size := hb.size
  have B12 : Below W0.heap.size W0 w10 := B8.trans (hb.mono B8.size)
  have Q13f0 := Lib.hid (Q9f0.out.keep hb)
  have Q13f2 := Lib.hid (Q9f2.out.keep hb)
  clear Q9f0 Q9f2
  clear hb
  have O14x0 := Lib.hid oo.out
  clear oo
  obtain ⟨lt0, ca0, cb0, cc0⟩ := Q13f2.out
  go_wp2_with fail
  clear lt0 ca0 cb0 cc0
  obtain ⟨wb16, hwb16⟩ : ∃ W, W = w10.alloc (.cells #[.int .i64 n0, .slice bx0 x0.length cx0, .slice ex0 y0.length fx0] 32) := ⟨_, rfl⟩
  rw [← hwb16]
  have hq := Lib.hid (show Bm wb16 w10.heap.size (n0) bx0 (x0.length) cx0 ex0 (y0.length) fx0 by rw [hwb16]; exact Bm.new _ _ _ _ _ _ _ _ _)
  obtain ⟨hb, hsz⟩ : Below w10.heap.size w10 wb16 ∧ w10.heap.size + 1 ≤ wb16.heap.size := by rw [hwb16]; exact alloc_keep _ _
  clear hwb16
  have z17 : w10.heap.size + 1 ≤ wb16.heap.size := hsz
  have B17 : Below W0.heap.size W0 wb16 := B12.trans (hb.mono B12.size)
  have O18x0 := Lib.hid (O14x0.out.below hb O14x0.out.hi)
  have Q18f0 := Lib.hid (Q13f0.out.keep hb)
  have Q18f2 := Lib.hid (Q13f2.out.keep hb)
  clear O14x0 Q13f0 Q13f2
  clear hb
  clear hsz
  have Q16bx0 := Lib.hid hq.out
  clear hq
  have y19 : W0.heap.size ≤ wb16.heap.size := B17.size
  refine (toModel_any n2 x2 y2 _ _ _ _ _ _ _ hl2 hm2 (KA2.out.keep B17 (Nat.le_refl _)) (KB2.out.keep B17 (Nat.le_refl _))).mono ?_
  rintro e w15 ⟨vx2, rfl, ho, hb⟩
  obtain ⟨bx2, cx2, ex2, fx2, rfl⟩ := ho.form
  have oo := Lib.hid (ho.inM hb.size)
  clear ho
  have z20 : wb16.heap.size ≤ w15.heap.size := hb.size
  have B20 : Below W0.heap.size W0 w15 := B17.trans (hb.mono B17.size)
  have O21x0 := Lib.hid (O18x0.out.below hb O18x0.out.hi)
  have Q21f0 := Lib.hid (Q18f0.out.keep hb)
  have Q21f2 := Lib.hid (Q18f2.out.keep hb)
  have Q21x0 := Lib.hid (Q16bx0.out.keep hb)
  clear O18x0 Q18f0 Q18f2 Q16bx0
  clear hb
  have O22x2 := Lib.hid oo.out
  clear oo
  obtain ⟨lt0, ca0, cb0, cc0⟩ := Q21x0.out
  go_wp2_with fail
  clear lt0 ca0 cb0 cc0
  obtain ⟨wb24, hwb24⟩ : ∃ W, W = w15.alloc (.cells #[.int .i64 n2, .slice bx2 x2.length cx2, .slice ex2 y2.length fx2] 32) := ⟨_, rfl⟩
  rw [← hwb24]
  have hq := Lib.hid (show Bm wb24 w15.heap.size (n2) bx2 (x2.length) cx2 ex2 (y2.length) fx2 by rw [hwb24]; exact Bm.new _ _ _ _ _ _ _ _ _)
  obtain ⟨hb, hsz⟩ : Below w15.heap.size w15 wb24 ∧ w15.heap.size + 1 ≤ wb24.heap.size := by rw [hwb24]; exact alloc_keep _ _
  clear hwb24
  have z25 : w15.heap.size + 1 ≤ wb24.heap.size := hsz
  have B25 : Below W0.heap.size W0 wb24 := B20.trans (hb.mono B20.size)
  have O26x0 := Lib.hid (O21x0.out.below hb O21x0.out.hi)
  have O26x2 := Lib.hid (O22x2.out.below hb O22x2.out.hi)
  have Q26f0 := Lib.hid (Q21f0.out.keep hb)
  have Q26f2 := Lib.hid (Q21f2.out.keep hb)
  have Q26x0 := Lib.hid (Q21x0.out.keep hb)
  clear O21x0 O22x2 Q21f0 Q21f2 Q21x0
  clear hb
  clear hsz
  have Q24bx2 := Lib.hid hq.out
  clear hq
  have y27 : W0.heap.size ≤ wb24.heap.size := B25.size
  refine (implRoundsToTell_v n0 x0 y0 x1 n2 x2 y2 x3 _ _ _ _ _ _ _ hl0 hm0 hl2 hm2 O26x0.out O26x2.out).mono ?_
  rw [← R0.out, ← R1.out]
  rintro e w23 ⟨rfl, hb⟩
  have z28 : wb24.heap.size ≤ w23.heap.size := hb.size
  have B28 : Below W0.heap.size W0 w23 := B25.trans (hb.mono B25.size)
  have O29x0 := Lib.hid (O26x0.out.below hb O26x0.out.hi)
  have O29x2 := Lib.hid (O26x2.out.below hb O26x2.out.hi)
  have Q29f0 := Lib.hid (Q26f0.out.keep hb)
  have Q29f2 := Lib.hid (Q26f2.out.keep hb)
  have Q29x0 := Lib.hid (Q26x0.out.keep hb)
  have Q29x2 := Lib.hid (Q24bx2.out.keep hb)
  clear O26x0 O26x2 Q26f0 Q26f2 Q26x0 Q24bx2
  clear hb
  obtain ⟨lt0, ca0, cb0, cc0⟩ := Q29f0.out
  obtain ⟨lt1, ca1, cb1, cc1⟩ := Q29x0.out
  go_wp2
  go_region_held3 (fun w' => w'.cell? ⟨w.heap.size, 0, none⟩ = some (.int .i64 n0) ∧ w'.cell? ⟨w.heap.size, 1, none⟩ = some (.slice a0 x0.length cap0) ∧ w'.cell? ⟨w.heap.size, 2, none⟩ = some (.slice b0 y0.length d0) ∧ w'.cell? ⟨w10.heap.size, 0, none⟩ = some (.int .i64 (n0)) ∧ w'.cell? ⟨w10.heap.size, 1, none⟩ = some (.slice bx0 (x0.length) cx0) ∧ w'.cell? ⟨w10.heap.size, 2, none⟩ = some (.slice ex0 (y0.length) fx0)) (first | exact ⟨ca0, cb0, cc0, ca1, cb1, cc1⟩ | exact ⟨da0, db0, dc0, da1, db1, dc1⟩ | exact ⟨ea0, eb0, ec0, ea1, eb1, ec1⟩ | go_keep) (first | (go_at_call 11; refine (toModel_any n0 x0 y0 _ _ _ _ _ _ _ hl0 hm0 (KA0.out.keep B28 (Nat.le_refl _)).drw (KB0.out.keep B28 (Nat.le_refl _)).drw).mono ?_; rintro e w30 ⟨vy, rfl, ho, hb⟩; obtain ⟨by30, cy30, ey30, fy30, rfl⟩ := ho.form; have yy := Lib.hid (ho.inM hb.size); clear ho; have tt := Lib.hid (below_of_drew hb); clear hb; obtain ⟨mt0, da0, db0, dc0⟩ := Q29f0.out.keep tt.out; obtain ⟨mt1, da1, db1, dc1⟩ := Q29x0.out.keep tt.out) | (go_at_call 14; refine (eqM_in n0 x0 y0 _ _ _ _ _ _ _ hl0 hm0 (O29x0.out.below tt.out O29x0.out.hi) yy.out).mono ?_; rintro e w30' ⟨rfl, hb⟩; have uu := Lib.hid (tt.out.trans (hb.mono tt.out.size)); clear hb; obtain ⟨nt0, ea0, eb0, ec0⟩ := Q29f0.out.keep uu.out; obtain ⟨nt1, ea1, eb1, ec1⟩ := Q29x0.out.keep uu.out))
  clear lt0 lt1 mt0 mt1 nt0 nt1 yy tt ca0 cb0 cc0 da0 db0 dc0 ea0 eb0 ec0 ca1 cb1 cc1 da1 db1 dc1 ea1 eb1 ec1
  have hb := uu.out
  clear uu
  have z31 : w23.heap.size ≤ w30'.heap.size := hb.size
  have B31 : Below W0.heap.size W0 w30' := B28.trans (hb.mono B28.size)
  have O32x0 := Lib.hid (O29x0.out.below hb O29x0.out.hi)
  have O32x2 := Lib.hid (O29x2.out.below hb O29x2.out.hi)
  have Q32f0 := Lib.hid (Q29f0.out.keep hb)
  have Q32f2 := Lib.hid (Q29f2.out.keep hb)
  have Q32x0 := Lib.hid (Q29x0.out.keep hb)
  have Q32x2 := Lib.hid (Q29x2.out.keep hb)
  clear O29x0 O29x2 Q29f0 Q29f2 Q29x0 Q29x2
  clear hb
  obtain ⟨lt0, ca0, cb0, cc0⟩ := Q32f2.out
  obtain ⟨lt1, ca1, cb1, cc1⟩ := Q32x2.out
  go_wp2
  go_region_held3 (fun w' => w'.cell? ⟨w.heap.size + 1, 0, none⟩ = some (.int .i64 n2) ∧ w'.cell? ⟨w.heap.size + 1, 1, none⟩ = some (.slice a2 x2.length cap2) ∧ w'.cell? ⟨w.heap.size + 1, 2, none⟩ = some (.slice b2 y2.length d2) ∧ w'.cell? ⟨w15.heap.size, 0, none⟩ = some (.int .i64 (n2)) ∧ w'.cell? ⟨w15.heap.size, 1, none⟩ = some (.slice bx2 (x2.length) cx2) ∧ w'.cell? ⟨w15.heap.size, 2, none⟩ = some (.slice ex2 (y2.length) fx2)) (first | exact ⟨ca0, cb0, cc0, ca1, cb1, cc1⟩ | exact ⟨da0, db0, dc0, da1, db1, dc1⟩ | exact ⟨ea0, eb0, ec0, ea1, eb1, ec1⟩ | go_keep) (first | (go_at_call 11; refine (toModel_any n2 x2 y2 _ _ _ _ _ _ _ hl2 hm2 (KA2.out.keep B31 (Nat.le_refl _)).drw (KB2.out.keep B31 (Nat.le_refl _)).drw).mono ?_; rintro e w33 ⟨vy, rfl, ho, hb⟩; obtain ⟨by33, cy33, ey33, fy33, rfl⟩ := ho.form; have yy := Lib.hid (ho.inM hb.size); clear ho; have tt := Lib.hid (below_of_drew hb); clear hb; obtain ⟨mt0, da0, db0, dc0⟩ := Q32f2.out.keep tt.out; obtain ⟨mt1, da1, db1, dc1⟩ := Q32x2.out.keep tt.out) | (go_at_call 14; refine (eqM_in n2 x2 y2 _ _ _ _ _ _ _ hl2 hm2 (O32x2.out.below tt.out O32x2.out.hi) yy.out).mono ?_; rintro e w33' ⟨rfl, hb⟩; have uu := Lib.hid (tt.out.trans (hb.mono tt.out.size)); clear hb; obtain ⟨nt0, ea0, eb0, ec0⟩ := Q32f2.out.keep uu.out; obtain ⟨nt1, ea1, eb1, ec1⟩ := Q32x2.out.keep uu.out))
  clear lt0 lt1 mt0 mt1 nt0 nt1 yy tt ca0 cb0 cc0 da0 db0 dc0 ea0 eb0 ec0 ca1 cb1 cc1 da1 db1 dc1 ea1 eb1 ec1
  have hb := uu.out
  clear uu
  have z34 : w30'.heap.size ≤ w33'.heap.size := hb.size
  have B34 : Below W0.heap.size W0 w33' := B31.trans (hb.mono B31.size)
  have O35x0 := Lib.hid (O32x0.out.below hb O32x0.out.hi)
  have O35x2 := Lib.hid (O32x2.out.below hb O32x2.out.hi)
  have Q35f0 := Lib.hid (Q32f0.out.keep hb)
  have Q35f2 := Lib.hid (Q32f2.out.keep hb)
  have Q35x0 := Lib.hid (Q32x0.out.keep hb)
  have Q35x2 := Lib.hid (Q32x2.out.keep hb)
  clear O32x0 O32x2 Q32f0 Q32f2 Q32x0 Q32x2
  clear hb
  go_wp2
  go_ret
  exact ⟨rfl, B0.trans (B34.mono B0.size)⟩

end Go.Proofs.Ytecjmibnoldpgab
