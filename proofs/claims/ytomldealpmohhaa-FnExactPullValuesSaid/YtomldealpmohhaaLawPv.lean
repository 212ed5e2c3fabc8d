/- The walk of the law FnExactPullValues. Conditions: those in the theorems. -/
import Derived.Test.YtomldealpmohhaaPvW
import Derived.Test.YtomldealpmohhaaSameI
namespace Go.Proofs.Ytomldealpmohhaa
open Go.RowKit

set_option maxHeartbeats 40000000 in
set_option maxRecDepth 100000 in
theorem lawPullValues (n0 : Int) (x0 : List Int) (n1 : Int) (x1 : List Int) (x2 : List Int) (x3 : List Int) (a0 : Option Addr) (len0 cap0 : Nat) (a1 : Option Addr) (len1 cap1 : Nat) (a2 : Option Addr) (len2 cap2 : Nat) (a3 : Option Addr) (len3 cap3 : Nat) (w : World) (h0 : IsArr w a0 len0 x0) (h1 : IsArr w a1 len1 x1) (h2 : At w a2 len2 x2) (h3 : At w a3 len3 x3) :
    Calls Try.prog 9 #[.agg #[.int .i64 n0, .slice a0 len0 cap0], .agg #[.int .i64 n1, .slice a1 len1 cap1], .slice a2 len2 cap2, .slice a3 len3 cap3] w fun e w' => e = .returned (.bool true) ∧ Below w.heap.size w w' := by
  obtain rfl := h0.1.1
  obtain rfl := h1.1.1
  obtain rfl := h2.1
  obtain rfl := h3.1
  have m0 := h0.2
  have H0 := Lib.hid h0.1
  clear h0
  have m1 := h1.2
  have H1 := Lib.hid h1.1
  clear h1
  have H2 := Lib.hid h2
  clear h2
  have H3 := Lib.hid h3
  clear h3
  obtain ⟨rl, hrl⟩ : ∃ r, r = (pvL n0 x0 n1 x1 x2 x3) := ⟨_, rfl⟩
  obtain ⟨r1, hr1⟩ : ∃ r, r = (pvC n0 x0 n1 x1 x2 x3) := ⟨_, rfl⟩
  have hly : rl.length ≤ 1048576 := by rw [hrl]; exact PullValues_len n0 x0 n1 x1 x2 x3
  have Rl := Lib.hid hrl
  clear hrl
  have R1 := Lib.hid hr1
  clear hr1
  obtain ⟨W0, hW0⟩ : ∃ W0, W0 = ((w.alloc (.cells #[.int .i64 n0, .slice a0 x0.length cap0] 24)).alloc (.cells #[.int .i64 n1, .slice a1 x1.length cap1] 24)) := ⟨_, rfl⟩
  have B0 : Below w.heap.size w W0 := by rw [hW0]; exact (((Below.refl w.heap.size w).alloc (by simp) _).alloc (by simp) _)
  have Q0f0 := Lib.hid (show Bx W0 (w.heap.size) n0 a0 x0.length cap0 by rw [hW0]; exact ((Bx.new _ _ _ _ _ _).keep (alloc_keep _ _).1))
  have Q0f1 := Lib.hid (show Bx W0 (w.heap.size + 1) n1 a1 x1.length cap1 by rw [hW0]; have := Bx.new (w.alloc (.cells #[.int .i64 n0, .slice a0 x0.length cap0] 24)) n1 a1 x1.length cap1 24; simpa using this)
  have zz : w.heap.size + 1 + 1 ≤ W0.heap.size := by rw [hW0]; simp
  have K0 := Lib.hid (H0.out.keep B0 (Nat.le_refl _))
  clear H0
  have K1 := Lib.hid (H1.out.keep B0 (Nat.le_refl _))
  clear H1
  have K2 := Lib.hid (H2.out.keep B0 (Nat.le_refl _))
  clear H2
  have K3 := Lib.hid (H3.out.keep B0 (Nat.le_refl _))
  clear H3
  have hWW := Lib.hid hW0
  clear hW0
  by_cases hbig2 : 1048576 < x2.length
  · go_enter Try.func9, Try.ntmps9
    go_wp2
    go_ret
    exact ⟨rfl, by rw [← hWW.out]; exact B0⟩
  have hl2 : x2.length ≤ 1048576 := by omega
  clear hbig2
  by_cases hbig3 : 1048576 < x3.length
  · go_enter Try.func9, Try.ntmps9
    go_wp2
    go_ret
    exact ⟨rfl, by rw [← hWW.out]; exact B0⟩
  have hl3 : x3.length ≤ 1048576 := by omega
  clear hbig3
  go_enter Try.func9, Try.ntmps9
  go_wp2_with fail
  refine (szFrame_any n0 _ _ _ (1048576 : Int) _ m0 (by omega) (by omega)).mono ?_
  obtain ⟨s0, hs0⟩ : ∃ s, s = szG (1048576 : Int) x0.length := ⟨_, rfl⟩
  rw [← hs0]
  rintro e w1 ⟨rfl, hb⟩
  rw [← hWW.out] at hb
  have z2 : W0.heap.size ≤ w1.heap.size := hb.size
  have B2 : Below W0.heap.size W0 w1 := (Below.refl W0.heap.size W0).trans (hb.mono (Below.refl W0.heap.size W0).size)
  have Q3f0 := Lib.hid (Q0f0.out.keep hb)
  have Q3f1 := Lib.hid (Q0f1.out.keep hb)
  clear Q0f0 Q0f1
  clear hb
  by_cases hb0 : (1048576 : Int) < (x0.length : Int)
  · rw [szG_no hb0] at hs0
    subst hs0
    go_wp2
    go_ret
    exact ⟨rfl, B0.trans (B2.mono B0.size)⟩
  rw [szG_yes hb0] at hs0
  have hl0 : x0.length ≤ 1048576 := by omega
  have s00 : 0 ≤ s0 := by omega
  have s10 : s0 ≤ 1048576 := by omega
  clear hs0
  obtain ⟨lt0, ca0, cb0⟩ := Q3f1.out
  go_wp2_with fail
  clear lt0 ca0 cb0
  refine (szFrame_any n1 _ _ _ s0 _ m1 (by omega) (by omega)).mono ?_
  obtain ⟨s1, hs1⟩ : ∃ s, s = szG s0 x1.length := ⟨_, rfl⟩
  rw [← hs1]
  rintro e w4 ⟨rfl, hb⟩
  have z5 : w1.heap.size ≤ w4.heap.size := hb.size
  have B5 : Below W0.heap.size W0 w4 := B2.trans (hb.mono B2.size)
  have Q6f0 := Lib.hid (Q3f0.out.keep hb)
  have Q6f1 := Lib.hid (Q3f1.out.keep hb)
  clear Q3f0 Q3f1
  clear hb
  by_cases hb1 : s0 < (x1.length : Int)
  · rw [szG_no hb1] at hs1
    subst hs1
    go_wp2
    go_ret
    exact ⟨rfl, B0.trans (B5.mono B0.size)⟩
  rw [szG_yes hb1] at hs1
  have hl1 : x1.length ≤ 1048576 := by omega
  have s01 : 0 ≤ s1 := by omega
  have s11 : s1 ≤ 1048576 := by omega
  clear hs1
  obtain ⟨lt0, ca0, cb0⟩ := Q6f0.out
  obtain ⟨lt1, ca1, cb1⟩ := Q6f1.out
  have zw := B5.size
  go_wp2
  go_cut [10, 11] (fun s1 s2 wx => ∃ (v : Value) (lo hi : Nat), s1 = v ∧ s2 = .int .i64 r1 ∧ Hid (Below w4.heap.size w4 wx) ∧ w4.heap.size ≤ lo ∧ Hid (OwnIn wx lo hi v rl))
  case first =>
    go_region_held3 (fun w' => w'.cell? ⟨w.heap.size, 0, none⟩ = some (.int .i64 n0) ∧ w'.cell? ⟨w.heap.size, 1, none⟩ = some (.slice a0 x0.length cap0) ∧ w'.cell? ⟨w.heap.size + 1, 0, none⟩ = some (.int .i64 n1) ∧ w'.cell? ⟨w.heap.size + 1, 1, none⟩ = some (.slice a1 x1.length cap1)) (first | exact ⟨ha0, hb0, ha1, hb1⟩ | exact ⟨ga0, gb0, ga1, gb1⟩ | exact ⟨fa0, fb0, fa1, fb1⟩ | exact ⟨ea0, eb0, ea1, eb1⟩ | exact ⟨da0, db0, da1, db1⟩ | exact ⟨ca0, cb0, ca1, cb1⟩ | go_keep) (first | (go_at_call_of 31 cap0; have Z1 := (K0.out.keep B5 (Nat.le_refl _)).drw; refine (toFrame_any n0 x0 _ _ _ _ hl0 Z1).mono ?_; clear Z1; rintro e wq0 ⟨vq, rfl, ho, hb⟩; obtain ⟨bq0, cq0, rfl⟩ := ho.form; have y0_1 := Lib.hid (ho.inF hb.size); clear ho; have t1 := Lib.hid (below_of_drew hb); clear hb; obtain ⟨dt0, da0, db0⟩ := Q6f0.out.keep t1.out; obtain ⟨dt1, da1, db1⟩ := Q6f1.out.keep t1.out) | (go_at_call_of 31 cap1; have Z1 := (K1.out.keep (B5.trans (t1.out.mono B5.size)) (Nat.le_refl _)); refine (toFrame_any n1 x1 _ _ _ _ hl1 Z1).mono ?_; clear Z1; rintro e wq1 ⟨vq, rfl, ho, hb⟩; obtain ⟨bq1, cq1, rfl⟩ := ho.form; have y1_2 := Lib.hid (ho.inF hb.size); clear ho; have y0_2 := Lib.hid (y0_1.out.below hb y0_1.out.hi); have t2 := Lib.hid (t1.out.trans (Below.mono hb t1.out.size)); clear hb; obtain ⟨et0, ea0, eb0⟩ := Q6f0.out.keep t2.out; obtain ⟨et1, ea1, eb1⟩ := Q6f1.out.keep t2.out) | (go_at_call_of 32 cap2; have Z1 := (K2.out.keep (B5.trans (t2.out.mono B5.size)) (Nat.le_refl _)); refine (toInt64S_any x2 _ _ _ _ hl2 Z1).mono ?_; clear Z1; rintro e wq2 ⟨vq2, rfl, ho, hb⟩; have y2_3 := Lib.hid ho.inn; clear ho; have y0_3 := Lib.hid (y0_2.out.below hb y0_2.out.hi); have y1_3 := Lib.hid (y1_2.out.below hb y1_2.out.hi); have t3 := Lib.hid (t2.out.trans (Below.mono hb t2.out.size)); clear hb; obtain ⟨ft0, fa0, fb0⟩ := Q6f0.out.keep t3.out; obtain ⟨ft1, fa1, fb1⟩ := Q6f1.out.keep t3.out) | (go_at_call_of 32 cap3; have Z1 := (K3.out.keep (B5.trans (t3.out.mono B5.size)) (Nat.le_refl _)); refine (toInt64S_any x3 _ _ _ _ hl3 Z1).mono ?_; clear Z1; rintro e wq3 ⟨vq3, rfl, ho, hb⟩; have y3_4 := Lib.hid ho.inn; clear ho; have y0_4 := Lib.hid (y0_3.out.below hb y0_3.out.hi); have y1_4 := Lib.hid (y1_3.out.below hb y1_3.out.hi); have y2_4 := Lib.hid (y2_3.out.below hb y2_3.out.hi); have t4 := Lib.hid (t3.out.trans (Below.mono hb t3.out.size)); clear hb; obtain ⟨gt0, ga0, gb0⟩ := Q6f0.out.keep t4.out; obtain ⟨gt1, ga1, gb1⟩ := Q6f1.out.keep t4.out) | (go_at_call 39; refine (specPullValues_v n0 x0 n1 x1 x2 x3 _ _ _ _ _ _ _ _ _ _ _ _ _ hl0 hl1 hl2 hl3 y0_4.out y1_4.out y2_4.out y3_4.out).mono ?_; rw [← Rl.out, ← R1.out]; rintro e wz7 ⟨vw, rfl, ho, hb⟩; have oo := Lib.hid ho.inn; clear ho; have t5 := Lib.hid (t4.out.trans (Below.mono hb t4.out.size)); clear hb; obtain ⟨ht0, ha0, hb0⟩ := Q6f0.out.keep t5.out; obtain ⟨ht1, ha1, hb1⟩ := Q6f1.out.keep t5.out))
    all_goals (try go_wp2_with fail)
    all_goals go_meet
    all_goals exact ⟨_, _, _, rfl, rfl, t5, (by have q := t4.out.size; omega), oo⟩
  case rest =>
  rename World => wz7
  obtain ⟨vw, low, hiw, rfl, rfl, hpr, ql7, oo⟩ := hcut
  have hb := hpr.out
  clear hpr lt0 ca0 cb0 lt1 ca1 cb1
  have qh7 := oo.out.hi
  have z8 : w4.heap.size ≤ wz7.heap.size := hb.size
  have B8 : Below W0.heap.size W0 wz7 := B5.trans (hb.mono B5.size)
  have Q9f0 := Lib.hid (Q6f0.out.keep hb)
  have Q9f1 := Lib.hid (Q6f1.out.keep hb)
  clear Q6f0 Q6f1
  clear hb
  have O7pw := Lib.hid oo.out
  clear oo
  obtain ⟨lt0, ca0, cb0⟩ := Q9f0.out
  go_wp2_with fail
  clear lt0 ca0 cb0
  have y11 : W0.heap.size ≤ wz7.heap.size := B8.size
  refine (toFrame_any n0 x0 _ _ _ _ hl0 (K0.out.keep B8 (Nat.le_refl _))).mono ?_
  rintro e w10 ⟨vx0, rfl, ho, hb⟩
  obtain ⟨bx0, cx0, rfl⟩ := ho.form
  have oo := Lib.hid (ho.inF hb.size)
  clear ho
  have z12 : wz7.heap.size ≤ w10.heap.size := hb.size
  have B12 : Below W0.heap.size W0 w10 := B8.trans (hb.mono B8.size)
  have O13w := Lib.hid (O7pw.out.below hb O7pw.out.hi)
  have Q13f0 := Lib.hid (Q9f0.out.keep hb)
  have Q13f1 := Lib.hid (Q9f1.out.keep hb)
  clear O7pw Q9f0 Q9f1
  clear hb
  have O14x0 := Lib.hid oo.out
  clear oo
  obtain ⟨lt0, ca0, cb0⟩ := Q13f1.out
  go_wp2_with fail
  clear lt0 ca0 cb0
  obtain ⟨wb16, hwb16⟩ : ∃ W, W = w10.alloc (.cells #[.int .i64 n0, .slice bx0 x0.length cx0] 32) := ⟨_, rfl⟩
  rw [← hwb16]
  have hq := Lib.hid (show Bx wb16 w10.heap.size (n0) bx0 (x0.length) cx0 by rw [hwb16]; exact Bx.new _ _ _ _ _ _)
  obtain ⟨hb, hsz⟩ : Below w10.heap.size w10 wb16 ∧ w10.heap.size + 1 ≤ wb16.heap.size := by rw [hwb16]; exact alloc_keep _ _
  clear hwb16
  have z17 : w10.heap.size + 1 ≤ wb16.heap.size := hsz
  have B17 : Below W0.heap.size W0 wb16 := B12.trans (hb.mono B12.size)
  have O18w := Lib.hid (O13w.out.below hb O13w.out.hi)
  have O18x0 := Lib.hid (O14x0.out.below hb O14x0.out.hi)
  have Q18f0 := Lib.hid (Q13f0.out.keep hb)
  have Q18f1 := Lib.hid (Q13f1.out.keep hb)
  clear O13w O14x0 Q13f0 Q13f1
  clear hb
  clear hsz
  have Q16bx0 := Lib.hid hq.out
  clear hq
  have y19 : W0.heap.size ≤ wb16.heap.size := B17.size
  refine (toFrame_any n1 x1 _ _ _ _ hl1 (K1.out.keep B17 (Nat.le_refl _))).mono ?_
  rintro e w15 ⟨vx1, rfl, ho, hb⟩
  obtain ⟨bx1, cx1, rfl⟩ := ho.form
  have oo := Lib.hid (ho.inF hb.size)
  clear ho
  have z20 : wb16.heap.size ≤ w15.heap.size := hb.size
  have B20 : Below W0.heap.size W0 w15 := B17.trans (hb.mono B17.size)
  have O21w := Lib.hid (O18w.out.below hb O18w.out.hi)
  have O21x0 := Lib.hid (O18x0.out.below hb O18x0.out.hi)
  have Q21f0 := Lib.hid (Q18f0.out.keep hb)
  have Q21f1 := Lib.hid (Q18f1.out.keep hb)
  have Q21x0 := Lib.hid (Q16bx0.out.keep hb)
  clear O18w O18x0 Q18f0 Q18f1 Q16bx0
  clear hb
  have O22x1 := Lib.hid oo.out
  clear oo
  go_wp2_with fail
  obtain ⟨wb24, hwb24⟩ : ∃ W, W = w15.alloc (.cells #[.int .i64 n1, .slice bx1 x1.length cx1] 32) := ⟨_, rfl⟩
  rw [← hwb24]
  have hq := Lib.hid (show Bx wb24 w15.heap.size (n1) bx1 (x1.length) cx1 by rw [hwb24]; exact Bx.new _ _ _ _ _ _)
  obtain ⟨hb, hsz⟩ : Below w15.heap.size w15 wb24 ∧ w15.heap.size + 1 ≤ wb24.heap.size := by rw [hwb24]; exact alloc_keep _ _
  clear hwb24
  have z25 : w15.heap.size + 1 ≤ wb24.heap.size := hsz
  have B25 : Below W0.heap.size W0 wb24 := B20.trans (hb.mono B20.size)
  have O26w := Lib.hid (O21w.out.below hb O21w.out.hi)
  have O26x0 := Lib.hid (O21x0.out.below hb O21x0.out.hi)
  have O26x1 := Lib.hid (O22x1.out.below hb O22x1.out.hi)
  have Q26f0 := Lib.hid (Q21f0.out.keep hb)
  have Q26f1 := Lib.hid (Q21f1.out.keep hb)
  have Q26x0 := Lib.hid (Q21x0.out.keep hb)
  clear O21w O21x0 O22x1 Q21f0 Q21f1 Q21x0
  clear hb
  clear hsz
  have Q24bx1 := Lib.hid hq.out
  clear hq
  have y27 : W0.heap.size ≤ wb24.heap.size := B25.size
  refine (toInt64S_any x2 _ _ _ _ hl2 (K2.out.keep B25 (Nat.le_refl _))).mono ?_
  rintro e w23 ⟨vx2, rfl, ho, hb⟩
  have oo := Lib.hid ho.inn
  clear ho
  have z28 : wb24.heap.size ≤ w23.heap.size := hb.size
  have B28 : Below W0.heap.size W0 w23 := B25.trans (hb.mono B25.size)
  have O29w := Lib.hid (O26w.out.below hb O26w.out.hi)
  have O29x0 := Lib.hid (O26x0.out.below hb O26x0.out.hi)
  have O29x1 := Lib.hid (O26x1.out.below hb O26x1.out.hi)
  have Q29f0 := Lib.hid (Q26f0.out.keep hb)
  have Q29f1 := Lib.hid (Q26f1.out.keep hb)
  have Q29x0 := Lib.hid (Q26x0.out.keep hb)
  have Q29x1 := Lib.hid (Q24bx1.out.keep hb)
  clear O26w O26x0 O26x1 Q26f0 Q26f1 Q26x0 Q24bx1
  clear hb
  have O30x2 := Lib.hid oo.out
  clear oo
  go_wp2_with fail
  have y32 : W0.heap.size ≤ w23.heap.size := B28.size
  refine (toInt64S_any x3 _ _ _ _ hl3 (K3.out.keep B28 (Nat.le_refl _))).mono ?_
  rintro e w31 ⟨vx3, rfl, ho, hb⟩
  have oo := Lib.hid ho.inn
  clear ho
  have z33 : w23.heap.size ≤ w31.heap.size := hb.size
  have B33 : Below W0.heap.size W0 w31 := B28.trans (hb.mono B28.size)
  have O34w := Lib.hid (O29w.out.below hb O29w.out.hi)
  have O34x0 := Lib.hid (O29x0.out.below hb O29x0.out.hi)
  have O34x1 := Lib.hid (O29x1.out.below hb O29x1.out.hi)
  have O34x2 := Lib.hid (O30x2.out.below hb O30x2.out.hi)
  have Q34f0 := Lib.hid (Q29f0.out.keep hb)
  have Q34f1 := Lib.hid (Q29f1.out.keep hb)
  have Q34x0 := Lib.hid (Q29x0.out.keep hb)
  have Q34x1 := Lib.hid (Q29x1.out.keep hb)
  clear O29w O29x0 O29x1 O30x2 Q29f0 Q29f1 Q29x0 Q29x1
  clear hb
  have O35x3 := Lib.hid oo.out
  clear oo
  obtain ⟨lt0, ca0, cb0⟩ := Q34x0.out
  obtain ⟨lt1, ca1, cb1⟩ := Q34x1.out
  go_wp2_with fail
  clear lt0 ca0 cb0 lt1 ca1 cb1
  have y37 : W0.heap.size ≤ w31.heap.size := B33.size
  refine (implPullValues_v n0 x0 n1 x1 x2 x3 _ _ _ _ _ _ _ _ _ _ _ _ _ hl0 hl1 hl2 hl3 O34x0.out O34x1.out O34x2.out O35x3.out).mono ?_
  rw [← Rl.out, ← R1.out]
  rintro e w36 ⟨vg, rfl, ho, hb⟩
  have oo := Lib.hid ho.inn
  clear ho
  have z38 : w31.heap.size ≤ w36.heap.size := hb.size
  have B38 : Below W0.heap.size W0 w36 := B33.trans (hb.mono B33.size)
  have O39w := Lib.hid (O34w.out.below hb O34w.out.hi)
  have O39x0 := Lib.hid (O34x0.out.below hb O34x0.out.hi)
  have O39x1 := Lib.hid (O34x1.out.below hb O34x1.out.hi)
  have O39x2 := Lib.hid (O34x2.out.below hb O34x2.out.hi)
  have O39x3 := Lib.hid (O35x3.out.below hb O35x3.out.hi)
  have Q39f0 := Lib.hid (Q34f0.out.keep hb)
  have Q39f1 := Lib.hid (Q34f1.out.keep hb)
  have Q39x0 := Lib.hid (Q34x0.out.keep hb)
  have Q39x1 := Lib.hid (Q34x1.out.keep hb)
  clear O34w O34x0 O34x1 O34x2 O35x3 Q34f0 Q34f1 Q34x0 Q34x1
  clear hb
  have O40g := Lib.hid oo.out
  clear oo
  go_wp2_with fail
  refine (eqL_own rl _ _ _ _ _ _ _ hly O40g.out O39w.out).mono ?_
  rintro e w41 ⟨rfl, hb⟩
  have z42 : w36.heap.size ≤ w41.heap.size := hb.size
  have B42 : Below W0.heap.size W0 w41 := B38.trans (hb.mono B38.size)
  have O43w := Lib.hid (O39w.out.below hb O39w.out.hi)
  have O43x0 := Lib.hid (O39x0.out.below hb O39x0.out.hi)
  have O43x1 := Lib.hid (O39x1.out.below hb O39x1.out.hi)
  have O43x2 := Lib.hid (O39x2.out.below hb O39x2.out.hi)
  have O43x3 := Lib.hid (O39x3.out.below hb O39x3.out.hi)
  have O43g := Lib.hid (O40g.out.below hb O40g.out.hi)
  have Q43f0 := Lib.hid (Q39f0.out.keep hb)
  have Q43f1 := Lib.hid (Q39f1.out.keep hb)
  have Q43x0 := Lib.hid (Q39x0.out.keep hb)
  have Q43x1 := Lib.hid (Q39x1.out.keep hb)
  clear O39w O39x0 O39x1 O39x2 O39x3 O40g Q39f0 Q39f1 Q39x0 Q39x1
  clear hb
  obtain ⟨lt0, ca0, cb0⟩ := Q43f0.out
  obtain ⟨lt1, ca1, cb1⟩ := Q43x0.out
  go_wp2
  go_region_held3 (fun w' => w'.cell? ⟨w.heap.size, 0, none⟩ = some (.int .i64 n0) ∧ w'.cell? ⟨w.heap.size, 1, none⟩ = some (.slice a0 x0.length cap0) ∧ w'.cell? ⟨w10.heap.size, 0, none⟩ = some (.int .i64 (n0)) ∧ w'.cell? ⟨w10.heap.size, 1, none⟩ = some (.slice bx0 (x0.length) cx0)) (first | exact ⟨ca0, cb0, ca1, cb1⟩ | exact ⟨da0, db0, da1, db1⟩ | exact ⟨ea0, eb0, ea1, eb1⟩ | go_keep) (first | (go_at_call 31; refine (toFrame_any n0 x0 _ _ _ _ hl0 (K0.out.keep B42 (Nat.le_refl _)).drw).mono ?_; rintro e w44 ⟨vy, rfl, ho, hb⟩; obtain ⟨by44, cy44, rfl⟩ := ho.form; have yy := Lib.hid (ho.inF hb.size); clear ho; have tt := Lib.hid (below_of_drew hb); clear hb; obtain ⟨mt0, da0, db0⟩ := Q43f0.out.keep tt.out; obtain ⟨mt1, da1, db1⟩ := Q43x0.out.keep tt.out) | (go_at_call 35; refine (eqF_in n0 x0 _ _ _ _ _ _ _ hl0 (O43x0.out.below tt.out O43x0.out.hi) yy.out).mono ?_; rintro e w44' ⟨rfl, hb⟩; have uu := Lib.hid (tt.out.trans (hb.mono tt.out.size)); clear hb; obtain ⟨nt0, ea0, eb0⟩ := Q43f0.out.keep uu.out; obtain ⟨nt1, ea1, eb1⟩ := Q43x0.out.keep uu.out))
  clear lt0 lt1 mt0 mt1 nt0 nt1 yy tt ca0 cb0 da0 db0 ea0 eb0 ca1 cb1 da1 db1 ea1 eb1
  have hb := uu.out
  clear uu
  have z45 : w41.heap.size ≤ w44'.heap.size := hb.size
  have B45 : Below W0.heap.size W0 w44' := B42.trans (hb.mono B42.size)
  have O46w := Lib.hid (O43w.out.below hb O43w.out.hi)
  have O46x0 := Lib.hid (O43x0.out.below hb O43x0.out.hi)
  have O46x1 := Lib.hid (O43x1.out.below hb O43x1.out.hi)
  have O46x2 := Lib.hid (O43x2.out.below hb O43x2.out.hi)
  have O46x3 := Lib.hid (O43x3.out.below hb O43x3.out.hi)
  have O46g := Lib.hid (O43g.out.below hb O43g.out.hi)
  have Q46f0 := Lib.hid (Q43f0.out.keep hb)
  have Q46f1 := Lib.hid (Q43f1.out.keep hb)
  have Q46x0 := Lib.hid (Q43x0.out.keep hb)
  have Q46x1 := Lib.hid (Q43x1.out.keep hb)
  clear O43w O43x0 O43x1 O43x2 O43x3 O43g Q43f0 Q43f1 Q43x0 Q43x1
  clear hb
  obtain ⟨lt0, ca0, cb0⟩ := Q46f1.out
  obtain ⟨lt1, ca1, cb1⟩ := Q46x1.out
  go_wp2
  go_region_held3 (fun w' => w'.cell? ⟨w.heap.size + 1, 0, none⟩ = some (.int .i64 n1) ∧ w'.cell? ⟨w.heap.size + 1, 1, none⟩ = some (.slice a1 x1.length cap1) ∧ w'.cell? ⟨w15.heap.size, 0, none⟩ = some (.int .i64 (n1)) ∧ w'.cell? ⟨w15.heap.size, 1, none⟩ = some (.slice bx1 (x1.length) cx1)) (first | exact ⟨ca0, cb0, ca1, cb1⟩ | exact ⟨da0, db0, da1, db1⟩ | exact ⟨ea0, eb0, ea1, eb1⟩ | go_keep) (first | (go_at_call 31; refine (toFrame_any n1 x1 _ _ _ _ hl1 (K1.out.keep B45 (Nat.le_refl _)).drw).mono ?_; rintro e w47 ⟨vy, rfl, ho, hb⟩; obtain ⟨by47, cy47, rfl⟩ := ho.form; have yy := Lib.hid (ho.inF hb.size); clear ho; have tt := Lib.hid (below_of_drew hb); clear hb; obtain ⟨mt0, da0, db0⟩ := Q46f1.out.keep tt.out; obtain ⟨mt1, da1, db1⟩ := Q46x1.out.keep tt.out) | (go_at_call 35; refine (eqF_in n1 x1 _ _ _ _ _ _ _ hl1 (O46x1.out.below tt.out O46x1.out.hi) yy.out).mono ?_; rintro e w47' ⟨rfl, hb⟩; have uu := Lib.hid (tt.out.trans (hb.mono tt.out.size)); clear hb; obtain ⟨nt0, ea0, eb0⟩ := Q46f1.out.keep uu.out; obtain ⟨nt1, ea1, eb1⟩ := Q46x1.out.keep uu.out))
  clear lt0 lt1 mt0 mt1 nt0 nt1 yy tt ca0 cb0 da0 db0 ea0 eb0 ca1 cb1 da1 db1 ea1 eb1
  have hb := uu.out
  clear uu
  have z48 : w44'.heap.size ≤ w47'.heap.size := hb.size
  have B48 : Below W0.heap.size W0 w47' := B45.trans (hb.mono B45.size)
  have O49w := Lib.hid (O46w.out.below hb O46w.out.hi)
  have O49x0 := Lib.hid (O46x0.out.below hb O46x0.out.hi)
  have O49x1 := Lib.hid (O46x1.out.below hb O46x1.out.hi)
  have O49x2 := Lib.hid (O46x2.out.below hb O46x2.out.hi)
  have O49x3 := Lib.hid (O46x3.out.below hb O46x3.out.hi)
  have O49g := Lib.hid (O46g.out.below hb O46g.out.hi)
  have Q49f0 := Lib.hid (Q46f0.out.keep hb)
  have Q49f1 := Lib.hid (Q46f1.out.keep hb)
  have Q49x0 := Lib.hid (Q46x0.out.keep hb)
  have Q49x1 := Lib.hid (Q46x1.out.keep hb)
  clear O46w O46x0 O46x1 O46x2 O46x3 O46g Q46f0 Q46f1 Q46x0 Q46x1
  clear hb
  go_wp2_with fail
  have y51 : W0.heap.size ≤ w47'.heap.size := B48.size
  refine (toInt64S_any x2 _ _ _ _ hl2 (K2.out.keep B48 (Nat.le_refl _))).mono ?_
  rintro e w50 ⟨vy2, rfl, ho, hb⟩
  have oo := Lib.hid ho.inn
  clear ho
  have z52 : w47'.heap.size ≤ w50.heap.size := hb.size
  have B52 : Below W0.heap.size W0 w50 := B48.trans (hb.mono B48.size)
  have O53w := Lib.hid (O49w.out.below hb O49w.out.hi)
  have O53x0 := Lib.hid (O49x0.out.below hb O49x0.out.hi)
  have O53x1 := Lib.hid (O49x1.out.below hb O49x1.out.hi)
  have O53x2 := Lib.hid (O49x2.out.below hb O49x2.out.hi)
  have O53x3 := Lib.hid (O49x3.out.below hb O49x3.out.hi)
  have O53g := Lib.hid (O49g.out.below hb O49g.out.hi)
  have Q53f0 := Lib.hid (Q49f0.out.keep hb)
  have Q53f1 := Lib.hid (Q49f1.out.keep hb)
  have Q53x0 := Lib.hid (Q49x0.out.keep hb)
  have Q53x1 := Lib.hid (Q49x1.out.keep hb)
  clear O49w O49x0 O49x1 O49x2 O49x3 O49g Q49f0 Q49f1 Q49x0 Q49x1
  clear hb
  have O54y2 := Lib.hid oo.out
  clear oo
  go_wp2_with fail
  refine (eqL_own x2 _ _ _ _ _ _ _ hl2 O53x2.out O54y2.out).mono ?_
  rintro e w55 ⟨rfl, hb⟩
  have z56 : w50.heap.size ≤ w55.heap.size := hb.size
  have B56 : Below W0.heap.size W0 w55 := B52.trans (hb.mono B52.size)
  have O57w := Lib.hid (O53w.out.below hb O53w.out.hi)
  have O57x0 := Lib.hid (O53x0.out.below hb O53x0.out.hi)
  have O57x1 := Lib.hid (O53x1.out.below hb O53x1.out.hi)
  have O57x2 := Lib.hid (O53x2.out.below hb O53x2.out.hi)
  have O57x3 := Lib.hid (O53x3.out.below hb O53x3.out.hi)
  have O57g := Lib.hid (O53g.out.below hb O53g.out.hi)
  have O57y2 := Lib.hid (O54y2.out.below hb O54y2.out.hi)
  have Q57f0 := Lib.hid (Q53f0.out.keep hb)
  have Q57f1 := Lib.hid (Q53f1.out.keep hb)
  have Q57x0 := Lib.hid (Q53x0.out.keep hb)
  have Q57x1 := Lib.hid (Q53x1.out.keep hb)
  clear O53w O53x0 O53x1 O53x2 O53x3 O53g O54y2 Q53f0 Q53f1 Q53x0 Q53x1
  clear hb
  clear O57y2
  go_wp2_with fail
  have y59 : W0.heap.size ≤ w55.heap.size := B56.size
  refine (toInt64S_any x3 _ _ _ _ hl3 (K3.out.keep B56 (Nat.le_refl _))).mono ?_
  rintro e w58 ⟨vy3, rfl, ho, hb⟩
  have oo := Lib.hid ho.inn
  clear ho
  have z60 : w55.heap.size ≤ w58.heap.size := hb.size
  have B60 : Below W0.heap.size W0 w58 := B56.trans (hb.mono B56.size)
  have O61w := Lib.hid (O57w.out.below hb O57w.out.hi)
  have O61x0 := Lib.hid (O57x0.out.below hb O57x0.out.hi)
  have O61x1 := Lib.hid (O57x1.out.below hb O57x1.out.hi)
  have O61x2 := Lib.hid (O57x2.out.below hb O57x2.out.hi)
  have O61x3 := Lib.hid (O57x3.out.below hb O57x3.out.hi)
  have O61g := Lib.hid (O57g.out.below hb O57g.out.hi)
  have Q61f0 := Lib.hid (Q57f0.out.keep hb)
  have Q61f1 := Lib.hid (Q57f1.out.keep hb)
  have Q61x0 := Lib.hid (Q57x0.out.keep hb)
  have Q61x1 := Lib.hid (Q57x1.out.keep hb)
  clear O57w O57x0 O57x1 O57x2 O57x3 O57g Q57f0 Q57f1 Q57x0 Q57x1
  clear hb
  have O62y3 := Lib.hid oo.out
  clear oo
  go_wp2_with fail
  refine (eqL_own x3 _ _ _ _ _ _ _ hl3 O61x3.out O62y3.out).mono ?_
  rintro e w63 ⟨rfl, hb⟩
  have z64 : w58.heap.size ≤ w63.heap.size := hb.size
  have B64 : Below W0.heap.size W0 w63 := B60.trans (hb.mono B60.size)
  have O65w := Lib.hid (O61w.out.below hb O61w.out.hi)
  have O65x0 := Lib.hid (O61x0.out.below hb O61x0.out.hi)
  have O65x1 := Lib.hid (O61x1.out.below hb O61x1.out.hi)
  have O65x2 := Lib.hid (O61x2.out.below hb O61x2.out.hi)
  have O65x3 := Lib.hid (O61x3.out.below hb O61x3.out.hi)
  have O65g := Lib.hid (O61g.out.below hb O61g.out.hi)
  have O65y3 := Lib.hid (O62y3.out.below hb O62y3.out.hi)
  have Q65f0 := Lib.hid (Q61f0.out.keep hb)
  have Q65f1 := Lib.hid (Q61f1.out.keep hb)
  have Q65x0 := Lib.hid (Q61x0.out.keep hb)
  have Q65x1 := Lib.hid (Q61x1.out.keep hb)
  clear O61w O61x0 O61x1 O61x2 O61x3 O61g O62y3 Q61f0 Q61f1 Q61x0 Q61x1
  clear hb
  clear O65y3
  obtain ⟨lt0, ca0, cb0⟩ := Q65x0.out
  go_wp2_with fail
  clear lt0 ca0 cb0
  refine (markF_in n0 x0 _ _ _ _ _ hl0 (by omega) (by omega) O65x0.out).mono ?_
  rintro e w66 ⟨rfl, om, hb, hg⟩
  have z66 := hb.size
  have B66 : Below W0.heap.size W0 w66 := B64.trans (hb.mono y11)
  have hh66 := O65x0.out.hi
  have O67w := Lib.hid (O65w.out.oth O65x0.out.blk hg (by omega))
  have O67x1 := Lib.hid (O65x1.out.oth O65x0.out.blk hg (by omega))
  have O67x2 := Lib.hid (O65x2.out.oth O65x0.out.blk hg (by omega))
  have O67x3 := Lib.hid (O65x3.out.oth O65x0.out.blk hg (by omega))
  have O67g := Lib.hid (O65g.out.oth O65x0.out.blk hg (by omega))
  have Q67f0 := Lib.hid (Q65f0.out.oth O65x0.out.blk hg (by omega))
  have Q67f1 := Lib.hid (Q65f1.out.oth O65x0.out.blk hg (by omega))
  have Q67x0 := Lib.hid (Q65x0.out.oth O65x0.out.blk hg (by omega))
  have Q67x1 := Lib.hid (Q65x1.out.oth O65x0.out.blk hg (by omega))
  clear O65w O65x1 O65x2 O65x3 O65g Q65f0 Q65f1 Q65x0 Q65x1
  have O66x0 := Lib.hid om
  clear hb hg om hh66 O65x0
  obtain ⟨lt0, ca0, cb0⟩ := Q67x1.out
  go_wp2_with fail
  clear lt0 ca0 cb0
  refine (markF_in n1 x1 _ _ _ _ _ hl1 (by omega) (by omega) O67x1.out).mono ?_
  rintro e w68 ⟨rfl, om, hb, hg⟩
  have z68 := hb.size
  have B68 : Below W0.heap.size W0 w68 := B66.trans (hb.mono y19)
  have hh68 := O67x1.out.hi
  have O69w := Lib.hid (O67w.out.oth O67x1.out.blk hg (by omega))
  have O69x2 := Lib.hid (O67x2.out.oth O67x1.out.blk hg (by omega))
  have O69x3 := Lib.hid (O67x3.out.oth O67x1.out.blk hg (by omega))
  have O69g := Lib.hid (O67g.out.oth O67x1.out.blk hg (by omega))
  have O69x0 := Lib.hid (O66x0.out.oth O67x1.out.blk hg (by omega))
  have Q69f0 := Lib.hid (Q67f0.out.oth O67x1.out.blk hg (by omega))
  have Q69f1 := Lib.hid (Q67f1.out.oth O67x1.out.blk hg (by omega))
  have Q69x0 := Lib.hid (Q67x0.out.oth O67x1.out.blk hg (by omega))
  have Q69x1 := Lib.hid (Q67x1.out.oth O67x1.out.blk hg (by omega))
  clear O67w O67x2 O67x3 O67g O66x0 Q67f0 Q67f1 Q67x0 Q67x1
  have O68x1 := Lib.hid om
  clear hb hg om hh68 O67x1
  go_wp2_with fail
  refine (markL_own x2 _ _ _ _ _ hl2 (by omega) (by omega) O69x2.out).mono ?_
  rintro e w70 ⟨rfl, om, hb, hg⟩
  have z70 := hb.size
  have B70 : Below W0.heap.size W0 w70 := B68.trans (hb.mono y27)
  have hh70 := O69x2.out.hi
  have O71w := Lib.hid (O69w.out.oth O69x2.out.blk hg (by omega))
  have O71x3 := Lib.hid (O69x3.out.oth O69x2.out.blk hg (by omega))
  have O71g := Lib.hid (O69g.out.oth O69x2.out.blk hg (by omega))
  have O71x0 := Lib.hid (O69x0.out.oth O69x2.out.blk hg (by omega))
  have O71x1 := Lib.hid (O68x1.out.oth O69x2.out.blk hg (by omega))
  have Q71f0 := Lib.hid (Q69f0.out.oth O69x2.out.blk hg (by omega))
  have Q71f1 := Lib.hid (Q69f1.out.oth O69x2.out.blk hg (by omega))
  have Q71x0 := Lib.hid (Q69x0.out.oth O69x2.out.blk hg (by omega))
  have Q71x1 := Lib.hid (Q69x1.out.oth O69x2.out.blk hg (by omega))
  clear O69w O69x3 O69g O69x0 O68x1 Q69f0 Q69f1 Q69x0 Q69x1
  have O70x2 := Lib.hid om
  clear hb hg om hh70 O69x2
  go_wp2_with fail
  refine (markL_own x3 _ _ _ _ _ hl3 (by omega) (by omega) O71x3.out).mono ?_
  rintro e w72 ⟨rfl, om, hb, hg⟩
  have z72 := hb.size
  have B72 : Below W0.heap.size W0 w72 := B70.trans (hb.mono y32)
  have hh72 := O71x3.out.hi
  have O73w := Lib.hid (O71w.out.oth O71x3.out.blk hg (by omega))
  have O73g := Lib.hid (O71g.out.oth O71x3.out.blk hg (by omega))
  have O73x0 := Lib.hid (O71x0.out.oth O71x3.out.blk hg (by omega))
  have O73x1 := Lib.hid (O71x1.out.oth O71x3.out.blk hg (by omega))
  have O73x2 := Lib.hid (O70x2.out.oth O71x3.out.blk hg (by omega))
  have Q73f0 := Lib.hid (Q71f0.out.oth O71x3.out.blk hg (by omega))
  have Q73f1 := Lib.hid (Q71f1.out.oth O71x3.out.blk hg (by omega))
  have Q73x0 := Lib.hid (Q71x0.out.oth O71x3.out.blk hg (by omega))
  have Q73x1 := Lib.hid (Q71x1.out.oth O71x3.out.blk hg (by omega))
  clear O71w O71g O71x0 O71x1 O70x2 Q71f0 Q71f1 Q71x0 Q71x1
  have O72x3 := Lib.hid om
  clear hb hg om hh72 O71x3
  clear O73x0
  clear Q73x0
  clear O73x1
  clear Q73x1
  clear O73x2
  clear O72x3
  go_wp2_with fail
  refine (eqL_own rl _ _ _ _ _ _ _ hly O73g.out O73w.out).mono ?_
  rintro e w74 ⟨rfl, hb⟩
  have z75 : w72.heap.size ≤ w74.heap.size := hb.size
  have B75 : Below W0.heap.size W0 w74 := B72.trans (hb.mono B72.size)
  have O76w := Lib.hid (O73w.out.below hb O73w.out.hi)
  have O76g := Lib.hid (O73g.out.below hb O73g.out.hi)
  have Q76f0 := Lib.hid (Q73f0.out.keep hb)
  have Q76f1 := Lib.hid (Q73f1.out.keep hb)
  clear O73w O73g Q73f0 Q73f1
  clear hb
  go_wp2_with fail
  refine (markL_own rl _ _ _ _ _ hly (by omega) (by omega) O76g.out).mono ?_
  rintro e w77 ⟨rfl, om, hb, hg⟩
  have z77 := hb.size
  have B77 : Below W0.heap.size W0 w77 := B75.trans (hb.mono y37)
  have hh77 := O76g.out.hi
  have O78w := Lib.hid (O76w.out.oth O76g.out.blk hg (by omega))
  have Q78f0 := Lib.hid (Q76f0.out.oth O76g.out.blk hg (by omega))
  have Q78f1 := Lib.hid (Q76f1.out.oth O76g.out.blk hg (by omega))
  clear O76w Q76f0 Q76f1
  have O77g := Lib.hid om
  clear hb hg om hh77 O76g
  go_wp2_with fail
  refine (heldL_own rl.length _ _ _ _ _ hly (by omega) (by omega) O77g.out).mono ?_
  rintro e w79 ⟨rfl, hb⟩
  have z80 : w77.heap.size ≤ w79.heap.size := hb.size
  have B80 : Below W0.heap.size W0 w79 := B77.trans (hb.mono B77.size)
  have O81w := Lib.hid (O78w.out.below hb O78w.out.hi)
  have O81g := Lib.hid (O77g.out.below hb O77g.out.hi)
  have Q81f0 := Lib.hid (Q78f0.out.keep hb)
  have Q81f1 := Lib.hid (Q78f1.out.keep hb)
  clear O78w O77g Q78f0 Q78f1
  clear hb
  obtain ⟨lt0, ca0, cb0⟩ := Q81f0.out
  obtain ⟨lt1, ca1, cb1⟩ := Q81f1.out
  have zw := B80.size
  go_wp2
  go_cut [21, 22] (fun s1 s2 wx => ∃ (v : Value) (lo hi : Nat), s1 = v ∧ s2 = .int .i64 r1 ∧ Hid (Below w79.heap.size w79 wx) ∧ w79.heap.size ≤ lo ∧ Hid (OwnIn wx lo hi v rl))
  case first =>
    go_region_held3 (fun w' => w'.cell? ⟨w.heap.size, 0, none⟩ = some (.int .i64 n0) ∧ w'.cell? ⟨w.heap.size, 1, none⟩ = some (.slice a0 x0.length cap0) ∧ w'.cell? ⟨w.heap.size + 1, 0, none⟩ = some (.int .i64 n1) ∧ w'.cell? ⟨w.heap.size + 1, 1, none⟩ = some (.slice a1 x1.length cap1)) (first | exact ⟨ha0, hb0, ha1, hb1⟩ | exact ⟨ga0, gb0, ga1, gb1⟩ | exact ⟨fa0, fb0, fa1, fb1⟩ | exact ⟨ea0, eb0, ea1, eb1⟩ | exact ⟨da0, db0, da1, db1⟩ | exact ⟨ca0, cb0, ca1, cb1⟩ | go_keep) (first | (go_at_call_of 31 cap0; have Z1 := (K0.out.keep B80 (Nat.le_refl _)).drw; refine (toFrame_any n0 x0 _ _ _ _ hl0 Z1).mono ?_; clear Z1; rintro e wq0 ⟨vq, rfl, ho, hb⟩; obtain ⟨bq0, cq0, rfl⟩ := ho.form; have y0_1 := Lib.hid (ho.inF hb.size); clear ho; have t1 := Lib.hid (below_of_drew hb); clear hb; obtain ⟨dt0, da0, db0⟩ := Q81f0.out.keep t1.out; obtain ⟨dt1, da1, db1⟩ := Q81f1.out.keep t1.out) | (go_at_call_of 31 cap1; have Z1 := (K1.out.keep (B80.trans (t1.out.mono B80.size)) (Nat.le_refl _)); refine (toFrame_any n1 x1 _ _ _ _ hl1 Z1).mono ?_; clear Z1; rintro e wq1 ⟨vq, rfl, ho, hb⟩; obtain ⟨bq1, cq1, rfl⟩ := ho.form; have y1_2 := Lib.hid (ho.inF hb.size); clear ho; have y0_2 := Lib.hid (y0_1.out.below hb y0_1.out.hi); have t2 := Lib.hid (t1.out.trans (Below.mono hb t1.out.size)); clear hb; obtain ⟨et0, ea0, eb0⟩ := Q81f0.out.keep t2.out; obtain ⟨et1, ea1, eb1⟩ := Q81f1.out.keep t2.out) | (go_at_call_of 32 cap2; have Z1 := (K2.out.keep (B80.trans (t2.out.mono B80.size)) (Nat.le_refl _)); refine (toInt64S_any x2 _ _ _ _ hl2 Z1).mono ?_; clear Z1; rintro e wq2 ⟨vq2, rfl, ho, hb⟩; have y2_3 := Lib.hid ho.inn; clear ho; have y0_3 := Lib.hid (y0_2.out.below hb y0_2.out.hi); have y1_3 := Lib.hid (y1_2.out.below hb y1_2.out.hi); have t3 := Lib.hid (t2.out.trans (Below.mono hb t2.out.size)); clear hb; obtain ⟨ft0, fa0, fb0⟩ := Q81f0.out.keep t3.out; obtain ⟨ft1, fa1, fb1⟩ := Q81f1.out.keep t3.out) | (go_at_call_of 32 cap3; have Z1 := (K3.out.keep (B80.trans (t3.out.mono B80.size)) (Nat.le_refl _)); refine (toInt64S_any x3 _ _ _ _ hl3 Z1).mono ?_; clear Z1; rintro e wq3 ⟨vq3, rfl, ho, hb⟩; have y3_4 := Lib.hid ho.inn; clear ho; have y0_4 := Lib.hid (y0_3.out.below hb y0_3.out.hi); have y1_4 := Lib.hid (y1_3.out.below hb y1_3.out.hi); have y2_4 := Lib.hid (y2_3.out.below hb y2_3.out.hi); have t4 := Lib.hid (t3.out.trans (Below.mono hb t3.out.size)); clear hb; obtain ⟨gt0, ga0, gb0⟩ := Q81f0.out.keep t4.out; obtain ⟨gt1, ga1, gb1⟩ := Q81f1.out.keep t4.out) | (go_at_call 40; refine (implPullValues_v n0 x0 n1 x1 x2 x3 _ _ _ _ _ _ _ _ _ _ _ _ _ hl0 hl1 hl2 hl3 y0_4.out y1_4.out y2_4.out y3_4.out).mono ?_; rw [← Rl.out, ← R1.out]; rintro e wz82 ⟨vh, rfl, ho, hb⟩; have oo := Lib.hid ho.inn; clear ho; have t5 := Lib.hid (t4.out.trans (Below.mono hb t4.out.size)); clear hb; obtain ⟨ht0, ha0, hb0⟩ := Q81f0.out.keep t5.out; obtain ⟨ht1, ha1, hb1⟩ := Q81f1.out.keep t5.out))
    all_goals (try go_wp2_with fail)
    all_goals go_meet
    all_goals exact ⟨_, _, _, rfl, rfl, t5, (by have q := t4.out.size; omega), oo⟩
  case rest =>
  rename World => wz82
  obtain ⟨vh, loh, hih, rfl, rfl, hpr, ql82, oo⟩ := hcut
  have hb := hpr.out
  clear hpr lt0 ca0 cb0 lt1 ca1 cb1
  have qh82 := oo.out.hi
  have z83 : w79.heap.size ≤ wz82.heap.size := hb.size
  have B83 : Below W0.heap.size W0 wz82 := B80.trans (hb.mono B80.size)
  have O84w := Lib.hid (O81w.out.below hb O81w.out.hi)
  have O84g := Lib.hid (O81g.out.below hb O81g.out.hi)
  have Q84f0 := Lib.hid (Q81f0.out.keep hb)
  have Q84f1 := Lib.hid (Q81f1.out.keep hb)
  clear O81w O81g Q81f0 Q81f1
  clear hb
  have O82ph := Lib.hid oo.out
  clear oo
  go_wp2_with fail
  refine (eqL_own rl _ _ _ _ _ _ _ hly O82ph.out O84w.out).mono ?_
  rintro e w85 ⟨rfl, hb⟩
  have z86 : wz82.heap.size ≤ w85.heap.size := hb.size
  have B86 : Below W0.heap.size W0 w85 := B83.trans (hb.mono B83.size)
  have O87w := Lib.hid (O84w.out.below hb O84w.out.hi)
  have O87g := Lib.hid (O84g.out.below hb O84g.out.hi)
  have O87h := Lib.hid (O82ph.out.below hb O82ph.out.hi)
  have Q87f0 := Lib.hid (Q84f0.out.keep hb)
  have Q87f1 := Lib.hid (Q84f1.out.keep hb)
  clear O84w O84g O82ph Q84f0 Q84f1
  clear hb
  clear O87h
  clear O87w
  go_wp2_with fail
  refine (heldL_own rl.length _ _ _ _ _ hly (by omega) (by omega) O87g.out).mono ?_
  rintro e w88 ⟨rfl, hb⟩
  have z89 : w85.heap.size ≤ w88.heap.size := hb.size
  have B89 : Below W0.heap.size W0 w88 := B86.trans (hb.mono B86.size)
  have O90g := Lib.hid (O87g.out.below hb O87g.out.hi)
  have Q90f0 := Lib.hid (Q87f0.out.keep hb)
  have Q90f1 := Lib.hid (Q87f1.out.keep hb)
  clear O87g Q87f0 Q87f1
  clear hb
  go_wp2
  go_ret
  exact ⟨rfl, B0.trans (B89.mono B0.size)⟩

end Go.Proofs.Ytomldealpmohhaa
