/- The walk of the law FnExactIsModelMorphism. Conditions: those in the theorems. -/
import Derived.Test.YtomldealpmohhaaMmV
import Derived.Test.YtomldealpmohhaaSameI
namespace Go.Proofs.Ytomldealpmohhaa
open Go.RowKit

set_option maxHeartbeats 40000000 in
set_option maxRecDepth 100000 in
theorem lawIsModelMorphism (n0 : Int) (x0 y0 : List Int) (n1 : Int) (x1 y1 : List Int) (x2 : List Int) (a0 : Option Addr) (len0 cap0 : Nat) (b0 : Option Addr) (m0 d0 : Nat) (a1 : Option Addr) (len1 cap1 : Nat) (b1 : Option Addr) (m1 d1 : Nat) (a2 : Option Addr) (len2 cap2 : Nat) (w : World) (h0 : IsMod w a0 len0 x0 b0 m0 y0) (h1 : IsMod w a1 len1 x1 b1 m1 y1) (h2 : At w a2 len2 x2) :
    Calls Try.prog 10 #[.agg #[.int .i64 n0, .slice a0 len0 cap0, .slice b0 m0 d0], .agg #[.int .i64 n1, .slice a1 len1 cap1, .slice b1 m1 d1], .slice a2 len2 cap2] w fun e w' => e = .returned (.bool true) ∧ Below w.heap.size w w' := by
  obtain rfl := h0.1.1.1
  obtain rfl := h0.2.1.1
  obtain rfl := h1.1.1.1
  obtain rfl := h1.2.1.1
  obtain rfl := h2.1
  have ma0 := h0.1.2
  have mb0 := h0.2.2
  have HA0 := Lib.hid h0.1.1
  have HB0 := Lib.hid h0.2.1
  clear h0
  have ma1 := h1.1.2
  have mb1 := h1.2.2
  have HA1 := Lib.hid h1.1.1
  have HB1 := Lib.hid h1.2.1
  clear h1
  have H2 := Lib.hid h2
  clear h2
  obtain ⟨r0, hr0⟩ : ∃ r, r = (mmV n0 x0 y0 n1 x1 y1 x2) := ⟨_, rfl⟩
  obtain ⟨r1, hr1⟩ : ∃ r, r = (mmC n0 x0 y0 n1 x1 y1 x2) := ⟨_, rfl⟩
  have R0 := Lib.hid hr0
  clear hr0
  have R1 := Lib.hid hr1
  clear hr1
  obtain ⟨W0, hW0⟩ : ∃ W0, W0 = ((w.alloc (.cells #[.int .i64 n0, .slice a0 x0.length cap0, .slice b0 y0.length d0] 26)).alloc (.cells #[.int .i64 n1, .slice a1 x1.length cap1, .slice b1 y1.length d1] 26)) := ⟨_, rfl⟩
  have B0 : Below w.heap.size w W0 := by rw [hW0]; exact (((Below.refl w.heap.size w).alloc (by simp) _).alloc (by simp) _)
  have Q0f0 := Lib.hid (show Bm W0 (w.heap.size) n0 a0 x0.length cap0 b0 y0.length d0 by rw [hW0]; exact ((Bm.new _ _ _ _ _ _ _ _ _).keep (alloc_keep _ _).1))
  have Q0f1 := Lib.hid (show Bm W0 (w.heap.size + 1) n1 a1 x1.length cap1 b1 y1.length d1 by rw [hW0]; have := Bm.new (w.alloc (.cells #[.int .i64 n0, .slice a0 x0.length cap0, .slice b0 y0.length d0] 26)) n1 a1 x1.length cap1 b1 y1.length d1 26; simpa using this)
  have zz : w.heap.size + 1 + 1 ≤ W0.heap.size := by rw [hW0]; simp
  have KA0 := Lib.hid (HA0.out.keep B0 (Nat.le_refl _))
  clear HA0
  have KB0 := Lib.hid (HB0.out.keep B0 (Nat.le_refl _))
  clear HB0
  have KA1 := Lib.hid (HA1.out.keep B0 (Nat.le_refl _))
  clear HA1
  have KB1 := Lib.hid (HB1.out.keep B0 (Nat.le_refl _))
  clear HB1
  have K2 := Lib.hid (H2.out.keep B0 (Nat.le_refl _))
  clear H2
  have hWW := Lib.hid hW0
  clear hW0
  by_cases hbig2 : 1048576 < x2.length
  · go_enter Try.func10, Try.ntmps10
    go_wp2
    go_ret
    exact ⟨rfl, by rw [← hWW.out]; exact B0⟩
  have hl2 : x2.length ≤ 1048576 := by omega
  clear hbig2
  go_enter Try.func10, Try.ntmps10
  go_wp2_with fail
  refine (szModel_any n0 _ _ _ _ _ _ (1048576 : Int) _ ma0 mb0 (by omega) (by omega)).mono ?_
  obtain ⟨s0, hs0⟩ : ∃ s, s = szM (1048576 : Int) x0.length y0.length := ⟨_, rfl⟩
  have hz0 := szM_or (1048576 : Int) x0.length y0.length
  rw [← hs0] at hz0 ⊢
  clear hs0
  rintro e w1 ⟨rfl, hb⟩
  rw [← hWW.out] at hb
  have z2 : W0.heap.size ≤ w1.heap.size := hb.size
  have B2 : Below W0.heap.size W0 w1 := (Below.refl W0.heap.size W0).trans (hb.mono (Below.refl W0.heap.size W0).size)
  have Q3f0 := Lib.hid (Q0f0.out.keep hb)
  have Q3f1 := Lib.hid (Q0f1.out.keep hb)
  clear Q0f0 Q0f1
  clear hb
  rcases hz0 with hz0 | ⟨hy0, hz0⟩
  · subst hz0
    go_wp2
    go_ret
    exact ⟨rfl, B0.trans (B2.mono B0.size)⟩
  have hl0 : x0.length ≤ 1048576 := by omega
  have hm0 : y0.length ≤ 1048576 := by omega
  have s00 : 0 ≤ s0 := by omega
  have s10 : s0 ≤ 1048576 := by omega
  clear hz0 hy0
  obtain ⟨lt0, ca0, cb0, cc0⟩ := Q3f1.out
  go_wp2_with fail
  clear lt0 ca0 cb0 cc0
  refine (szModel_any n1 _ _ _ _ _ _ s0 _ ma1 mb1 (by omega) (by omega)).mono ?_
  obtain ⟨s1, hs1⟩ : ∃ s, s = szM s0 x1.length y1.length := ⟨_, rfl⟩
  have hz1 := szM_or s0 x1.length y1.length
  rw [← hs1] at hz1 ⊢
  clear hs1
  rintro e w4 ⟨rfl, hb⟩
  have z5 : w1.heap.size ≤ w4.heap.size := hb.size
  have B5 : Below W0.heap.size W0 w4 := B2.trans (hb.mono B2.size)
  have Q6f0 := Lib.hid (Q3f0.out.keep hb)
  have Q6f1 := Lib.hid (Q3f1.out.keep hb)
  clear Q3f0 Q3f1
  clear hb
  rcases hz1 with hz1 | ⟨hy1, hz1⟩
  · subst hz1
    go_wp2
    go_ret
    exact ⟨rfl, B0.trans (B5.mono B0.size)⟩
  have hl1 : x1.length ≤ 1048576 := by omega
  have hm1 : y1.length ≤ 1048576 := by omega
  have s01 : 0 ≤ s1 := by omega
  have s11 : s1 ≤ 1048576 := by omega
  clear hz1 hy1
  obtain ⟨lt0, ca0, cb0, cc0⟩ := Q6f0.out
  obtain ⟨lt1, ca1, cb1, cc1⟩ := Q6f1.out
  have zw := B5.size
  go_wp2
  go_cut [8, 9] (fun s1 s2 wx => s1 = .bool r0 ∧ s2 = .int .i64 r1 ∧ Hid (Below w4.heap.size w4 wx))
  case first =>
    go_region_held3 (fun w' => w'.cell? ⟨w.heap.size, 0, none⟩ = some (.int .i64 n0) ∧ w'.cell? ⟨w.heap.size, 1, none⟩ = some (.slice a0 x0.length cap0) ∧ w'.cell? ⟨w.heap.size, 2, none⟩ = some (.slice b0 y0.length d0) ∧ w'.cell? ⟨w.heap.size + 1, 0, none⟩ = some (.int .i64 n1) ∧ w'.cell? ⟨w.heap.size + 1, 1, none⟩ = some (.slice a1 x1.length cap1) ∧ w'.cell? ⟨w.heap.size + 1, 2, none⟩ = some (.slice b1 y1.length d1)) (first | exact ⟨ga0, gb0, gc0, ga1, gb1, gc1⟩ | exact ⟨fa0, fb0, fc0, fa1, fb1, fc1⟩ | exact ⟨ea0, eb0, ec0, ea1, eb1, ec1⟩ | exact ⟨da0, db0, dc0, da1, db1, dc1⟩ | exact ⟨ca0, cb0, cc0, ca1, cb1, cc1⟩ | go_keep) (first | (go_at_call_of 14 cap0; have Z1 := (KA0.out.keep B5 (Nat.le_refl _)).drw; have Z2 := (KB0.out.keep B5 (Nat.le_refl _)).drw; refine (toModel_any n0 x0 y0 _ _ _ _ _ _ _ hl0 hm0 Z1 Z2).mono ?_; clear Z1 Z2; rintro e wq0 ⟨vq, rfl, ho, hb⟩; obtain ⟨bq0, cq0, eq0, fq0, rfl⟩ := ho.form; have y0_1 := Lib.hid (ho.inM hb.size); clear ho; have t1 := Lib.hid (below_of_drew hb); clear hb; obtain ⟨dt0, da0, db0, dc0⟩ := Q6f0.out.keep t1.out; obtain ⟨dt1, da1, db1, dc1⟩ := Q6f1.out.keep t1.out) | (go_at_call_of 14 cap1; have Z1 := (KA1.out.keep (B5.trans (t1.out.mono B5.size)) (Nat.le_refl _)); have Z2 := (KB1.out.keep (B5.trans (t1.out.mono B5.size)) (Nat.le_refl _)); refine (toModel_any n1 x1 y1 _ _ _ _ _ _ _ hl1 hm1 Z1 Z2).mono ?_; clear Z1 Z2; rintro e wq1 ⟨vq, rfl, ho, hb⟩; obtain ⟨bq1, cq1, eq1, fq1, rfl⟩ := ho.form; have y1_2 := Lib.hid (ho.inM hb.size); clear ho; have y0_2 := Lib.hid (y0_1.out.below hb y0_1.out.hi); have t2 := Lib.hid (t1.out.trans (Below.mono hb t1.out.size)); clear hb; obtain ⟨et0, ea0, eb0, ec0⟩ := Q6f0.out.keep t2.out; obtain ⟨et1, ea1, eb1, ec1⟩ := Q6f1.out.keep t2.out) | (go_at_call 32; have Z1 := (K2.out.keep (B5.trans (t2.out.mono B5.size)) (Nat.le_refl _)); refine (toInt64S_any x2 _ _ _ _ hl2 Z1).mono ?_; clear Z1; rintro e wq2 ⟨vq2, rfl, ho, hb⟩; have y2_3 := Lib.hid ho.inn; clear ho; have y0_3 := Lib.hid (y0_2.out.below hb y0_2.out.hi); have y1_3 := Lib.hid (y1_2.out.below hb y1_2.out.hi); have t3 := Lib.hid (t2.out.trans (Below.mono hb t2.out.size)); clear hb; obtain ⟨ft0, fa0, fb0, fc0⟩ := Q6f0.out.keep t3.out; obtain ⟨ft1, fa1, fb1, fc1⟩ := Q6f1.out.keep t3.out) | (go_at_call 41; refine (specIsModelMorphism_v n0 x0 y0 n1 x1 y1 x2 _ _ _ _ _ _ _ _ _ _ hl0 hm0 hl1 hm1 hl2 y0_3.out y1_3.out y2_3.out).mono ?_; rw [← R0.out, ← R1.out]; rintro e wz7 ⟨rfl, hb⟩; have t4 := Lib.hid (t3.out.trans (Below.mono hb t3.out.size)); clear hb; obtain ⟨gt0, ga0, gb0, gc0⟩ := Q6f0.out.keep t4.out; obtain ⟨gt1, ga1, gb1, gc1⟩ := Q6f1.out.keep t4.out))
    all_goals (try go_wp2_with fail)
    all_goals go_meet
    all_goals exact ⟨rfl, rfl, t4⟩
  case rest =>
  rename World => wz7
  obtain ⟨rfl, rfl, hpr⟩ := hcut
  have hb := hpr.out
  clear hpr lt0 ca0 cb0 cc0 lt1 ca1 cb1 cc1
  have z8 : w4.heap.size ≤ wz7.heap.size := hb.size
  have B8 : Below W0.heap.size W0 wz7 := B5.trans (hb.mono B5.size)
  have Q9f0 := Lib.hid (Q6f0.out.keep hb)
  have Q9f1 := Lib.hid (Q6f1.out.keep hb)
  clear Q6f0 Q6f1
  clear hb
  obtain ⟨lt0, ca0, cb0, cc0⟩ := Q9f0.out
  go_wp2_with fail
  clear lt0 ca0 cb0 cc0
  have y11 : W0.heap.size ≤ wz7.heap.size := B8.size
  refine (toModel_any n0 x0 y0 _ _ _ _ _ _ _ hl0 hm0 (KA0.out.keep B8 (Nat.le_refl _)) (KB0.out.keep B8 (Nat.le_refl _))).mono ?_
  rintro e w10 ⟨vx0, rfl, ho, hb⟩
  obtain ⟨bx0, cx0, ex0, fx0, rfl⟩ := ho.form
  have oo := Lib.hid (ho.inM hb.size)
  clear ho
  have z12 : wz7.heap.size ≤ w10.heap.size := hb.size
  have B12 : Below W0.heap.size W0 w10 := B8.trans (hb.mono B8.size)
  have Q13f0 := Lib.hid (Q9f0.out.keep hb)
  have Q13f1 := Lib.hid (Q9f1.out.keep hb)
  clear Q9f0 Q9f1
  clear hb
  have O14x0 := Lib.hid oo.out
  clear oo
  obtain ⟨lt0, ca0, cb0, cc0⟩ := Q13f1.out
  go_wp2_with fail
  clear lt0 ca0 cb0 cc0
  obtain ⟨wb16, hwb16⟩ : ∃ W, W = w10.alloc (.cells #[.int .i64 n0, .slice bx0 x0.length cx0, .slice ex0 y0.length fx0] 34) := ⟨_, rfl⟩
  rw [← hwb16]
  have hq := Lib.hid (show Bm wb16 w10.heap.size (n0) bx0 (x0.length) cx0 ex0 (y0.length) fx0 by rw [hwb16]; exact Bm.new _ _ _ _ _ _ _ _ _)
  obtain ⟨hb, hsz⟩ : Below w10.heap.size w10 wb16 ∧ w10.heap.size + 1 ≤ wb16.heap.size := by rw [hwb16]; exact alloc_keep _ _
  clear hwb16
  have z17 : w10.heap.size + 1 ≤ wb16.heap.size := hsz
  have B17 : Below W0.heap.size W0 wb16 := B12.trans (hb.mono B12.size)
  have O18x0 := Lib.hid (O14x0.out.below hb O14x0.out.hi)
  have Q18f0 := Lib.hid (Q13f0.out.keep hb)
  have Q18f1 := Lib.hid (Q13f1.out.keep hb)
  clear O14x0 Q13f0 Q13f1
  clear hb
  clear hsz
  have Q16bx0 := Lib.hid hq.out
  clear hq
  have y19 : W0.heap.size ≤ wb16.heap.size := B17.size
  refine (toModel_any n1 x1 y1 _ _ _ _ _ _ _ hl1 hm1 (KA1.out.keep B17 (Nat.le_refl _)) (KB1.out.keep B17 (Nat.le_refl _))).mono ?_
  rintro e w15 ⟨vx1, rfl, ho, hb⟩
  obtain ⟨bx1, cx1, ex1, fx1, rfl⟩ := ho.form
  have oo := Lib.hid (ho.inM hb.size)
  clear ho
  have z20 : wb16.heap.size ≤ w15.heap.size := hb.size
  have B20 : Below W0.heap.size W0 w15 := B17.trans (hb.mono B17.size)
  have O21x0 := Lib.hid (O18x0.out.below hb O18x0.out.hi)
  have Q21f0 := Lib.hid (Q18f0.out.keep hb)
  have Q21f1 := Lib.hid (Q18f1.out.keep hb)
  have Q21x0 := Lib.hid (Q16bx0.out.keep hb)
  clear O18x0 Q18f0 Q18f1 Q16bx0
  clear hb
  have O22x1 := Lib.hid oo.out
  clear oo
  go_wp2_with fail
  obtain ⟨wb24, hwb24⟩ : ∃ W, W = w15.alloc (.cells #[.int .i64 n1, .slice bx1 x1.length cx1, .slice ex1 y1.length fx1] 34) := ⟨_, rfl⟩
  rw [← hwb24]
  have hq := Lib.hid (show Bm wb24 w15.heap.size (n1) bx1 (x1.length) cx1 ex1 (y1.length) fx1 by rw [hwb24]; exact Bm.new _ _ _ _ _ _ _ _ _)
  obtain ⟨hb, hsz⟩ : Below w15.heap.size w15 wb24 ∧ w15.heap.size + 1 ≤ wb24.heap.size := by rw [hwb24]; exact alloc_keep _ _
  clear hwb24
  have z25 : w15.heap.size + 1 ≤ wb24.heap.size := hsz
  have B25 : Below W0.heap.size W0 wb24 := B20.trans (hb.mono B20.size)
  have O26x0 := Lib.hid (O21x0.out.below hb O21x0.out.hi)
  have O26x1 := Lib.hid (O22x1.out.below hb O22x1.out.hi)
  have Q26f0 := Lib.hid (Q21f0.out.keep hb)
  have Q26f1 := Lib.hid (Q21f1.out.keep hb)
  have Q26x0 := Lib.hid (Q21x0.out.keep hb)
  clear O21x0 O22x1 Q21f0 Q21f1 Q21x0
  clear hb
  clear hsz
  have Q24bx1 := Lib.hid hq.out
  clear hq
  have y27 : W0.heap.size ≤ wb24.heap.size := B25.size
  refine (toInt64S_any x2 _ _ _ _ hl2 (K2.out.keep B25 (Nat.le_refl _))).mono ?_
  rintro e w23 ⟨vx2, rfl, ho, hb⟩
  have oo := Lib.hid ho.inn
  clear ho
  have z28 : wb24.heap.size ≤ w23.heap.size := hb.size
  have B28 : Below W0.heap.size W0 w23 := B25.trans (hb.mono B25.size)
  have O29x0 := Lib.hid (O26x0.out.below hb O26x0.out.hi)
  have O29x1 := Lib.hid (O26x1.out.below hb O26x1.out.hi)
  have Q29f0 := Lib.hid (Q26f0.out.keep hb)
  have Q29f1 := Lib.hid (Q26f1.out.keep hb)
  have Q29x0 := Lib.hid (Q26x0.out.keep hb)
  have Q29x1 := Lib.hid (Q24bx1.out.keep hb)
  clear O26x0 O26x1 Q26f0 Q26f1 Q26x0 Q24bx1
  clear hb
  have O30x2 := Lib.hid oo.out
  clear oo
  obtain ⟨lt0, ca0, cb0, cc0⟩ := Q29x0.out
  obtain ⟨lt1, ca1, cb1, cc1⟩ := Q29x1.out
  go_wp2_with fail
  clear lt0 ca0 cb0 cc0 lt1 ca1 cb1 cc1
  have y32 : W0.heap.size ≤ w23.heap.size := B28.size
  refine (implIsModelMorphism_v n0 x0 y0 n1 x1 y1 x2 _ _ _ _ _ _ _ _ _ _ hl0 hm0 hl1 hm1 hl2 O29x0.out O29x1.out O30x2.out).mono ?_
  rw [← R0.out, ← R1.out]
  rintro e w31 ⟨rfl, hb⟩
  have z33 : w23.heap.size ≤ w31.heap.size := hb.size
  have B33 : Below W0.heap.size W0 w31 := B28.trans (hb.mono B28.size)
  have O34x0 := Lib.hid (O29x0.out.below hb O29x0.out.hi)
  have O34x1 := Lib.hid (O29x1.out.below hb O29x1.out.hi)
  have O34x2 := Lib.hid (O30x2.out.below hb O30x2.out.hi)
  have Q34f0 := Lib.hid (Q29f0.out.keep hb)
  have Q34f1 := Lib.hid (Q29f1.out.keep hb)
  have Q34x0 := Lib.hid (Q29x0.out.keep hb)
  have Q34x1 := Lib.hid (Q29x1.out.keep hb)
  clear O29x0 O29x1 O30x2 Q29f0 Q29f1 Q29x0 Q29x1
  clear hb
  obtain ⟨lt0, ca0, cb0, cc0⟩ := Q34f0.out
  obtain ⟨lt1, ca1, cb1, cc1⟩ := Q34x0.out
  go_wp2
  go_region_held3 (fun w' => w'.cell? ⟨w.heap.size, 0, none⟩ = some (.int .i64 n0) ∧ w'.cell? ⟨w.heap.size, 1, none⟩ = some (.slice a0 x0.length cap0) ∧ w'.cell? ⟨w.heap.size, 2, none⟩ = some (.slice b0 y0.length d0) ∧ w'.cell? ⟨w10.heap.size, 0, none⟩ = some (.int .i64 (n0)) ∧ w'.cell? ⟨w10.heap.size, 1, none⟩ = some (.slice bx0 (x0.length) cx0) ∧ w'.cell? ⟨w10.heap.size, 2, none⟩ = some (.slice ex0 (y0.length) fx0)) (first | exact ⟨ca0, cb0, cc0, ca1, cb1, cc1⟩ | exact ⟨da0, db0, dc0, da1, db1, dc1⟩ | exact ⟨ea0, eb0, ec0, ea1, eb1, ec1⟩ | go_keep) (first | (go_at_call 14; refine (toModel_any n0 x0 y0 _ _ _ _ _ _ _ hl0 hm0 (KA0.out.keep B33 (Nat.le_refl _)).drw (KB0.out.keep B33 (Nat.le_refl _)).drw).mono ?_; rintro e w35 ⟨vy, rfl, ho, hb⟩; obtain ⟨by35, cy35, ey35, fy35, rfl⟩ := ho.form; have yy := Lib.hid (ho.inM hb.size); clear ho; have tt := Lib.hid (below_of_drew hb); clear hb; obtain ⟨mt0, da0, db0, dc0⟩ := Q34f0.out.keep tt.out; obtain ⟨mt1, da1, db1, dc1⟩ := Q34x0.out.keep tt.out) | (go_at_call 17; refine (eqM_in n0 x0 y0 _ _ _ _ _ _ _ hl0 hm0 (O34x0.out.below tt.out O34x0.out.hi) yy.out).mono ?_; rintro e w35' ⟨rfl, hb⟩; have uu := Lib.hid (tt.out.trans (hb.mono tt.out.size)); clear hb; obtain ⟨nt0, ea0, eb0, ec0⟩ := Q34f0.out.keep uu.out; obtain ⟨nt1, ea1, eb1, ec1⟩ := Q34x0.out.keep uu.out))
  clear lt0 lt1 mt0 mt1 nt0 nt1 yy tt ca0 cb0 cc0 da0 db0 dc0 ea0 eb0 ec0 ca1 cb1 cc1 da1 db1 dc1 ea1 eb1 ec1
  have hb := uu.out
  clear uu
  have z36 : w31.heap.size ≤ w35'.heap.size := hb.size
  have B36 : Below W0.heap.size W0 w35' := B33.trans (hb.mono B33.size)
  have O37x0 := Lib.hid (O34x0.out.below hb O34x0.out.hi)
  have O37x1 := Lib.hid (O34x1.out.below hb O34x1.out.hi)
  have O37x2 := Lib.hid (O34x2.out.below hb O34x2.out.hi)
  have Q37f0 := Lib.hid (Q34f0.out.keep hb)
  have Q37f1 := Lib.hid (Q34f1.out.keep hb)
  have Q37x0 := Lib.hid (Q34x0.out.keep hb)
  have Q37x1 := Lib.hid (Q34x1.out.keep hb)
  clear O34x0 O34x1 O34x2 Q34f0 Q34f1 Q34x0 Q34x1
  clear hb
  obtain ⟨lt0, ca0, cb0, cc0⟩ := Q37f1.out
  obtain ⟨lt1, ca1, cb1, cc1⟩ := Q37x1.out
  go_wp2
  go_region_held3 (fun w' => w'.cell? ⟨w.heap.size + 1, 0, none⟩ = some (.int .i64 n1) ∧ w'.cell? ⟨w.heap.size + 1, 1, none⟩ = some (.slice a1 x1.length cap1) ∧ w'.cell? ⟨w.heap.size + 1, 2, none⟩ = some (.slice b1 y1.length d1) ∧ w'.cell? ⟨w15.heap.size, 0, none⟩ = some (.int .i64 (n1)) ∧ w'.cell? ⟨w15.heap.size, 1, none⟩ = some (.slice bx1 (x1.length) cx1) ∧ w'.cell? ⟨w15.heap.size, 2, none⟩ = some (.slice ex1 (y1.length) fx1)) (first | exact ⟨ca0, cb0, cc0, ca1, cb1, cc1⟩ | exact ⟨da0, db0, dc0, da1, db1, dc1⟩ | exact ⟨ea0, eb0, ec0, ea1, eb1, ec1⟩ | go_keep) (first | (go_at_call 14; refine (toModel_any n1 x1 y1 _ _ _ _ _ _ _ hl1 hm1 (KA1.out.keep B36 (Nat.le_refl _)).drw (KB1.out.keep B36 (Nat.le_refl _)).drw).mono ?_; rintro e w38 ⟨vy, rfl, ho, hb⟩; obtain ⟨by38, cy38, ey38, fy38, rfl⟩ := ho.form; have yy := Lib.hid (ho.inM hb.size); clear ho; have tt := Lib.hid (below_of_drew hb); clear hb; obtain ⟨mt0, da0, db0, dc0⟩ := Q37f1.out.keep tt.out; obtain ⟨mt1, da1, db1, dc1⟩ := Q37x1.out.keep tt.out) | (go_at_call 17; refine (eqM_in n1 x1 y1 _ _ _ _ _ _ _ hl1 hm1 (O37x1.out.below tt.out O37x1.out.hi) yy.out).mono ?_; rintro e w38' ⟨rfl, hb⟩; have uu := Lib.hid (tt.out.trans (hb.mono tt.out.size)); clear hb; obtain ⟨nt0, ea0, eb0, ec0⟩ := Q37f1.out.keep uu.out; obtain ⟨nt1, ea1, eb1, ec1⟩ := Q37x1.out.keep uu.out))
  clear lt0 lt1 mt0 mt1 nt0 nt1 yy tt ca0 cb0 cc0 da0 db0 dc0 ea0 eb0 ec0 ca1 cb1 cc1 da1 db1 dc1 ea1 eb1 ec1
  have hb := uu.out
  clear uu
  have z39 : w35'.heap.size ≤ w38'.heap.size := hb.size
  have B39 : Below W0.heap.size W0 w38' := B36.trans (hb.mono B36.size)
  have O40x0 := Lib.hid (O37x0.out.below hb O37x0.out.hi)
  have O40x1 := Lib.hid (O37x1.out.below hb O37x1.out.hi)
  have O40x2 := Lib.hid (O37x2.out.below hb O37x2.out.hi)
  have Q40f0 := Lib.hid (Q37f0.out.keep hb)
  have Q40f1 := Lib.hid (Q37f1.out.keep hb)
  have Q40x0 := Lib.hid (Q37x0.out.keep hb)
  have Q40x1 := Lib.hid (Q37x1.out.keep hb)
  clear O37x0 O37x1 O37x2 Q37f0 Q37f1 Q37x0 Q37x1
  clear hb
  go_wp2_with fail
  have y42 : W0.heap.size ≤ w38'.heap.size := B39.size
  refine (toInt64S_any x2 _ _ _ _ hl2 (K2.out.keep B39 (Nat.le_refl _))).mono ?_
  rintro e w41 ⟨vy2, rfl, ho, hb⟩
  have oo := Lib.hid ho.inn
  clear ho
  have z43 : w38'.heap.size ≤ w41.heap.size := hb.size
  have B43 : Below W0.heap.size W0 w41 := B39.trans (hb.mono B39.size)
  have O44x0 := Lib.hid (O40x0.out.below hb O40x0.out.hi)
  have O44x1 := Lib.hid (O40x1.out.below hb O40x1.out.hi)
  have O44x2 := Lib.hid (O40x2.out.below hb O40x2.out.hi)
  have Q44f0 := Lib.hid (Q40f0.out.keep hb)
  have Q44f1 := Lib.hid (Q40f1.out.keep hb)
  have Q44x0 := Lib.hid (Q40x0.out.keep hb)
  have Q44x1 := Lib.hid (Q40x1.out.keep hb)
  clear O40x0 O40x1 O40x2 Q40f0 Q40f1 Q40x0 Q40x1
  clear hb
  have O45y2 := Lib.hid oo.out
  clear oo
  go_wp2_with fail
  refine (eqL_own x2 _ _ _ _ _ _ _ hl2 O44x2.out O45y2.out).mono ?_
  rintro e w46 ⟨rfl, hb⟩
  have z47 : w41.heap.size ≤ w46.heap.size := hb.size
  have B47 : Below W0.heap.size W0 w46 := B43.trans (hb.mono B43.size)
  have O48x0 := Lib.hid (O44x0.out.below hb O44x0.out.hi)
  have O48x1 := Lib.hid (O44x1.out.below hb O44x1.out.hi)
  have O48x2 := Lib.hid (O44x2.out.below hb O44x2.out.hi)
  have O48y2 := Lib.hid (O45y2.out.below hb O45y2.out.hi)
  have Q48f0 := Lib.hid (Q44f0.out.keep hb)
  have Q48f1 := Lib.hid (Q44f1.out.keep hb)
  have Q48x0 := Lib.hid (Q44x0.out.keep hb)
  have Q48x1 := Lib.hid (Q44x1.out.keep hb)
  clear O44x0 O44x1 O44x2 O45y2 Q44f0 Q44f1 Q44x0 Q44x1
  clear hb
  clear O48y2
  go_wp2
  go_ret
  exact ⟨rfl, B0.trans (B47.mono B0.size)⟩

end Go.Proofs.Ytomldealpmohhaa
