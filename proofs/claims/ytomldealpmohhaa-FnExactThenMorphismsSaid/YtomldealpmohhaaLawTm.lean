/- The walk of the law FnExactThenMorphisms. Conditions: those in the theorems. -/
import Derived.Test.YtomldealpmohhaaThP
import Derived.Test.YtomldealpmohhaaSameI
namespace Go.Proofs.Ytomldealpmohhaa
open Go.RowKit

set_option maxHeartbeats 40000000 in
set_option maxRecDepth 100000 in
theorem lawThenMorphisms (n0 : Int) (x0 : List Int) (n1 : Int) (x1 : List Int) (n2 : Int) (x2 : List Int) (x3 : List Int) (x4 : List Int) (a0 : Option Addr) (len0 cap0 : Nat) (a1 : Option Addr) (len1 cap1 : Nat) (a2 : Option Addr) (len2 cap2 : Nat) (a3 : Option Addr) (len3 cap3 : Nat) (a4 : Option Addr) (len4 cap4 : Nat) (w : World) (h0 : IsArr w a0 len0 x0) (h1 : IsArr w a1 len1 x1) (h2 : IsArr w a2 len2 x2) (h3 : At w a3 len3 x3) (h4 : At w a4 len4 x4) :
    Calls Try.prog 8 #[.agg #[.int .i64 n0, .slice a0 len0 cap0], .agg #[.int .i64 n1, .slice a1 len1 cap1], .agg #[.int .i64 n2, .slice a2 len2 cap2], .slice a3 len3 cap3, .slice a4 len4 cap4] w fun e w' => e = .returned (.bool true) ∧ Below w.heap.size w w' := by
  obtain rfl := h0.1.1
  obtain rfl := h1.1.1
  obtain rfl := h2.1.1
  obtain rfl := h3.1
  obtain rfl := h4.1
  have m0 := h0.2
  have H0 := Lib.hid h0.1
  clear h0
  have m1 := h1.2
  have H1 := Lib.hid h1.1
  clear h1
  have m2 := h2.2
  have H2 := Lib.hid h2.1
  clear h2
  have H3 := Lib.hid h3
  clear h3
  have H4 := Lib.hid h4
  clear h4
  obtain ⟨rl, hrl⟩ : ∃ r, r = (thL n0 x0 n1 x1 n2 x2 x3 x4) := ⟨_, rfl⟩
  obtain ⟨r1, hr1⟩ : ∃ r, r = (thC n0 x0 n1 x1 n2 x2 x3 x4) := ⟨_, rfl⟩
  have hly : rl.length ≤ 1048576 := by rw [hrl]; exact ThenMorphisms_len n0 x0 n1 x1 n2 x2 x3 x4
  have Rl := Lib.hid hrl
  clear hrl
  have R1 := Lib.hid hr1
  clear hr1
  obtain ⟨W0, hW0⟩ : ∃ W0, W0 = (((w.alloc (.cells #[.int .i64 n0, .slice a0 x0.length cap0] 24)).alloc (.cells #[.int .i64 n1, .slice a1 x1.length cap1] 24)).alloc (.cells #[.int .i64 n2, .slice a2 x2.length cap2] 24)) := ⟨_, rfl⟩
  have B0 : Below w.heap.size w W0 := by rw [hW0]; exact ((((Below.refl w.heap.size w).alloc (by simp) _).alloc (by simp) _).alloc (by simp <;> omega) _)
  have Q0f0 := Lib.hid (show Bx W0 (w.heap.size) n0 a0 x0.length cap0 by rw [hW0]; exact (((Bx.new _ _ _ _ _ _).keep (alloc_keep _ _).1).keep (alloc_keep _ _).1))
  have Q0f1 := Lib.hid (show Bx W0 (w.heap.size + 1) n1 a1 x1.length cap1 by rw [hW0]; have := Bx.new (w.alloc (.cells #[.int .i64 n0, .slice a0 x0.length cap0] 24)) n1 a1 x1.length cap1 24; have := this.keep (alloc_keep _ (.cells #[.int .i64 n2, .slice a2 x2.length cap2] 24)).1; simpa using this)
  have Q0f2 := Lib.hid (show Bx W0 (w.heap.size + 1 + 1) n2 a2 x2.length cap2 by rw [hW0]; have := Bx.new ((w.alloc (.cells #[.int .i64 n0, .slice a0 x0.length cap0] 24)).alloc (.cells #[.int .i64 n1, .slice a1 x1.length cap1] 24)) n2 a2 x2.length cap2 24; simpa using this)
  have zz : w.heap.size + 1 + 1 + 1 ≤ W0.heap.size := by rw [hW0]; simp
  have K0 := Lib.hid (H0.out.keep B0 (Nat.le_refl _))
  clear H0
  have K1 := Lib.hid (H1.out.keep B0 (Nat.le_refl _))
  clear H1
  have K2 := Lib.hid (H2.out.keep B0 (Nat.le_refl _))
  clear H2
  have K3 := Lib.hid (H3.out.keep B0 (Nat.le_refl _))
  clear H3
  have K4 := Lib.hid (H4.out.keep B0 (Nat.le_refl _))
  clear H4
  have hWW := Lib.hid hW0
  clear hW0
  by_cases hbig3 : 1048576 < x3.length
  · go_enter Try.func8, Try.ntmps8
    go_wp2
    go_ret
    exact ⟨rfl, by rw [← hWW.out]; exact B0⟩
  have hl3 : x3.length ≤ 1048576 := by omega
  clear hbig3
  by_cases hbig4 : 1048576 < x4.length
  · go_enter Try.func8, Try.ntmps8
    go_wp2
    go_ret
    exact ⟨rfl, by rw [← hWW.out]; exact B0⟩
  have hl4 : x4.length ≤ 1048576 := by omega
  clear hbig4
  go_enter Try.func8, Try.ntmps8
  go_wp2_with fail
  refine (szFrame_any n0 _ _ _ (1048576 : Int) _ m0 (by omega) (by omega)).mono ?_
  obtain ⟨s0, hs0⟩ : ∃ s, s = szG (1048576 : Int) x0.length := ⟨_, rfl⟩
  rw [← hs0]
  rintro e w1 ⟨rfl, hb⟩
  rw [← hWW.out] at hb
  have z2 : W0.heap.size ≤ w1.heap.size := hb.size
  have B2 : Below W0.heap.size W0 w1 := (Below.refl W0.heap.size W0).trans (hb.mono (Below.refl W0.heap.size W0).size)
  have Q3f0 := Lib.hid (Q0f0.out.keep hb)
  have Q3f1 := Lib.hid (Q0f1.out.keep hb)
  have Q3f2 := Lib.hid (Q0f2.out.keep hb)
  clear Q0f0 Q0f1 Q0f2
  clear hb
  by_cases hb0 : (1048576 : Int) < (x0.length : Int)
  · rw [szG_no hb0] at hs0
    subst hs0
    go_wp2
    go_ret
    exact ⟨rfl, B0.trans (B2.mono B0.size)⟩
  rw [szG_yes hb0] at hs0
  have hl0 : x0.length ≤ 1048576 := by omega
  have s00 : 0 ≤ s0 := by omega
  have s10 : s0 ≤ 1048576 := by omega
  clear hs0
  obtain ⟨lt0, ca0, cb0⟩ := Q3f1.out
  go_wp2_with fail
  clear lt0 ca0 cb0
  refine (szFrame_any n1 _ _ _ s0 _ m1 (by omega) (by omega)).mono ?_
  obtain ⟨s1, hs1⟩ : ∃ s, s = szG s0 x1.length := ⟨_, rfl⟩
  rw [← hs1]
  rintro e w4 ⟨rfl, hb⟩
  have z5 : w1.heap.size ≤ w4.heap.size := hb.size
  have B5 : Below W0.heap.size W0 w4 := B2.trans (hb.mono B2.size)
  have Q6f0 := Lib.hid (Q3f0.out.keep hb)
  have Q6f1 := Lib.hid (Q3f1.out.keep hb)
  have Q6f2 := Lib.hid (Q3f2.out.keep hb)
  clear Q3f0 Q3f1 Q3f2
  clear hb
  by_cases hb1 : s0 < (x1.length : Int)
  · rw [szG_no hb1] at hs1
    subst hs1
    go_wp2
    go_ret
    exact ⟨rfl, B0.trans (B5.mono B0.size)⟩
  rw [szG_yes hb1] at hs1
  have hl1 : x1.length ≤ 1048576 := by omega
  have s01 : 0 ≤ s1 := by omega
  have s11 : s1 ≤ 1048576 := by omega
  clear hs1
  obtain ⟨lt0, ca0, cb0⟩ := Q6f2.out
  go_wp2_with fail
  clear lt0 ca0 cb0
  refine (szFrame_any n2 _ _ _ s1 _ m2 (by omega) (by omega)).mono ?_
  obtain ⟨s2, hs2⟩ : ∃ s, s = szG s1 x2.length := ⟨_, rfl⟩
  rw [← hs2]
  rintro e w7 ⟨rfl, hb⟩
  have z8 : w4.heap.size ≤ w7.heap.size := hb.size
  have B8 : Below W0.heap.size W0 w7 := B5.trans (hb.mono B5.size)
  have Q9f0 := Lib.hid (Q6f0.out.keep hb)
  have Q9f1 := Lib.hid (Q6f1.out.keep hb)
  have Q9f2 := Lib.hid (Q6f2.out.keep hb)
  clear Q6f0 Q6f1 Q6f2
  clear hb
  by_cases hb2 : s1 < (x2.length : Int)
  · rw [szG_no hb2] at hs2
    subst hs2
    go_wp2
    go_ret
    exact ⟨rfl, B0.trans (B8.mono B0.size)⟩
  rw [szG_yes hb2] at hs2
  have hl2 : x2.length ≤ 1048576 := by omega
  have s02 : 0 ≤ s2 := by omega
  have s12 : s2 ≤ 1048576 := by omega
  clear hs2
  obtain ⟨lt0, ca0, cb0⟩ := Q9f0.out
  obtain ⟨lt1, ca1, cb1⟩ := Q9f1.out
  obtain ⟨lt2, ca2, cb2⟩ := Q9f2.out
  have zw := B8.size
  go_wp2
  go_cut [12, 13] (fun s1 s2 wx => ∃ (v : Value) (lo hi : Nat), s1 = v ∧ s2 = .int .i64 r1 ∧ Hid (Below w7.heap.size w7 wx) ∧ w7.heap.size ≤ lo ∧ Hid (OwnIn wx lo hi v rl))
  case first =>
    go_region_held3 (fun w' => w'.cell? ⟨w.heap.size, 0, none⟩ = some (.int .i64 n0) ∧ w'.cell? ⟨w.heap.size, 1, none⟩ = some (.slice a0 x0.length cap0) ∧ w'.cell? ⟨w.heap.size + 1, 0, none⟩ = some (.int .i64 n1) ∧ w'.cell? ⟨w.heap.size + 1, 1, none⟩ = some (.slice a1 x1.length cap1) ∧ w'.cell? ⟨w.heap.size + 1 + 1, 0, none⟩ = some (.int .i64 n2) ∧ w'.cell? ⟨w.heap.size + 1 + 1, 1, none⟩ = some (.slice a2 x2.length cap2)) (first | exact ⟨ka0, kb0, ka1, kb1, ka2, kb2⟩ | exact ⟨ha0, hb0, ha1, hb1, ha2, hb2⟩ | exact ⟨ga0, gb0, ga1, gb1, ga2, gb2⟩ | exact ⟨fa0, fb0, fa1, fb1, fa2, fb2⟩ | exact ⟨ea0, eb0, ea1, eb1, ea2, eb2⟩ | exact ⟨da0, db0, da1, db1, da2, db2⟩ | exact ⟨ca0, cb0, ca1, cb1, ca2, cb2⟩ | go_keep) (first | (go_at_call_of 31 cap0; have Z1 := (K0.out.keep B8 (Nat.le_refl _)).drw; refine (toFrame_any n0 x0 _ _ _ _ hl0 Z1).mono ?_; clear Z1; rintro e wq0 ⟨vq, rfl, ho, hb⟩; obtain ⟨bq0, cq0, rfl⟩ := ho.form; have y0_1 := Lib.hid (ho.inF hb.size); clear ho; have t1 := Lib.hid (below_of_drew hb); clear hb; obtain ⟨dt0, da0, db0⟩ := Q9f0.out.keep t1.out; obtain ⟨dt1, da1, db1⟩ := Q9f1.out.keep t1.out; obtain ⟨dt2, da2, db2⟩ := Q9f2.out.keep t1.out) | (go_at_call_of 31 cap1; have Z1 := (K1.out.keep (B8.trans (t1.out.mono B8.size)) (Nat.le_refl _)); refine (toFrame_any n1 x1 _ _ _ _ hl1 Z1).mono ?_; clear Z1; rintro e wq1 ⟨vq, rfl, ho, hb⟩; obtain ⟨bq1, cq1, rfl⟩ := ho.form; have y1_2 := Lib.hid (ho.inF hb.size); clear ho; have y0_2 := Lib.hid (y0_1.out.below hb y0_1.out.hi); have t2 := Lib.hid (t1.out.trans (Below.mono hb t1.out.size)); clear hb; obtain ⟨et0, ea0, eb0⟩ := Q9f0.out.keep t2.out; obtain ⟨et1, ea1, eb1⟩ := Q9f1.out.keep t2.out; obtain ⟨et2, ea2, eb2⟩ := Q9f2.out.keep t2.out) | (go_at_call_of 31 cap2; have Z1 := (K2.out.keep (B8.trans (t2.out.mono B8.size)) (Nat.le_refl _)); refine (toFrame_any n2 x2 _ _ _ _ hl2 Z1).mono ?_; clear Z1; rintro e wq2 ⟨vq, rfl, ho, hb⟩; obtain ⟨bq2, cq2, rfl⟩ := ho.form; have y2_3 := Lib.hid (ho.inF hb.size); clear ho; have y0_3 := Lib.hid (y0_2.out.below hb y0_2.out.hi); have y1_3 := Lib.hid (y1_2.out.below hb y1_2.out.hi); have t3 := Lib.hid (t2.out.trans (Below.mono hb t2.out.size)); clear hb; obtain ⟨ft0, fa0, fb0⟩ := Q9f0.out.keep t3.out; obtain ⟨ft1, fa1, fb1⟩ := Q9f1.out.keep t3.out; obtain ⟨ft2, fa2, fb2⟩ := Q9f2.out.keep t3.out) | (go_at_call_of 32 cap3; have Z1 := (K3.out.keep (B8.trans (t3.out.mono B8.size)) (Nat.le_refl _)); refine (toInt64S_any x3 _ _ _ _ hl3 Z1).mono ?_; clear Z1; rintro e wq3 ⟨vq3, rfl, ho, hb⟩; have y3_4 := Lib.hid ho.inn; clear ho; have y0_4 := Lib.hid (y0_3.out.below hb y0_3.out.hi); have y1_4 := Lib.hid (y1_3.out.below hb y1_3.out.hi); have y2_4 := Lib.hid (y2_3.out.below hb y2_3.out.hi); have t4 := Lib.hid (t3.out.trans (Below.mono hb t3.out.size)); clear hb; obtain ⟨gt0, ga0, gb0⟩ := Q9f0.out.keep t4.out; obtain ⟨gt1, ga1, gb1⟩ := Q9f1.out.keep t4.out; obtain ⟨gt2, ga2, gb2⟩ := Q9f2.out.keep t4.out) | (go_at_call_of 32 cap4; have Z1 := (K4.out.keep (B8.trans (t4.out.mono B8.size)) (Nat.le_refl _)); refine (toInt64S_any x4 _ _ _ _ hl4 Z1).mono ?_; clear Z1; rintro e wq4 ⟨vq4, rfl, ho, hb⟩; have y4_5 := Lib.hid ho.inn; clear ho; have y0_5 := Lib.hid (y0_4.out.below hb y0_4.out.hi); have y1_5 := Lib.hid (y1_4.out.below hb y1_4.out.hi); have y2_5 := Lib.hid (y2_4.out.below hb y2_4.out.hi); have y3_5 := Lib.hid (y3_4.out.below hb y3_4.out.hi); have t5 := Lib.hid (t4.out.trans (Below.mono hb t4.out.size)); clear hb; obtain ⟨ht0, ha0, hb0⟩ := Q9f0.out.keep t5.out; obtain ⟨ht1, ha1, hb1⟩ := Q9f1.out.keep t5.out; obtain ⟨ht2, ha2, hb2⟩ := Q9f2.out.keep t5.out) | (go_at_call 30; refine (specThenMorphisms_v n0 x0 n1 x1 n2 x2 x3 x4 _ _ _ _ _ _ _ _ _ _ _ _ _ _ _ _ hl0 hl1 hl2 hl3 hl4 y0_5.out y1_5.out y2_5.out y3_5.out y4_5.out).mono ?_; rw [← Rl.out, ← R1.out]; rintro e wz10 ⟨vw, rfl, ho, hb⟩; have oo := Lib.hid ho.inn; clear ho; have t6 := Lib.hid (t5.out.trans (Below.mono hb t5.out.size)); clear hb; obtain ⟨kt0, ka0, kb0⟩ := Q9f0.out.keep t6.out; obtain ⟨kt1, ka1, kb1⟩ := Q9f1.out.keep t6.out; obtain ⟨kt2, ka2, kb2⟩ := Q9f2.out.keep t6.out))
    all_goals (try go_wp2_with fail)
    all_goals go_meet
    all_goals exact ⟨_, _, _, rfl, rfl, t6, (by have q := t5.out.size; omega), oo⟩
  case rest =>
  rename World => wz10
  obtain ⟨vw, low, hiw, rfl, rfl, hpr, ql10, oo⟩ := hcut
  have hb := hpr.out
  clear hpr lt0 ca0 cb0 lt1 ca1 cb1 lt2 ca2 cb2
  have qh10 := oo.out.hi
  have z11 : w7.heap.size ≤ wz10.heap.size := hb.size
  have B11 : Below W0.heap.size W0 wz10 := B8.trans (hb.mono B8.size)
  have Q12f0 := Lib.hid (Q9f0.out.keep hb)
  have Q12f1 := Lib.hid (Q9f1.out.keep hb)
  have Q12f2 := Lib.hid (Q9f2.out.keep hb)
  clear Q9f0 Q9f1 Q9f2
  clear hb
  have O10pw := Lib.hid oo.out
  clear oo
  obtain ⟨lt0, ca0, cb0⟩ := Q12f0.out
  go_wp2_with fail
  clear lt0 ca0 cb0
  have y14 : W0.heap.size ≤ wz10.heap.size := B11.size
  refine (toFrame_any n0 x0 _ _ _ _ hl0 (K0.out.keep B11 (Nat.le_refl _))).mono ?_
  rintro e w13 ⟨vx0, rfl, ho, hb⟩
  obtain ⟨bx0, cx0, rfl⟩ := ho.form
  have oo := Lib.hid (ho.inF hb.size)
  clear ho
  have z15 : wz10.heap.size ≤ w13.heap.size := hb.size
  have B15 : Below W0.heap.size W0 w13 := B11.trans (hb.mono B11.size)
  have O16w := Lib.hid (O10pw.out.below hb O10pw.out.hi)
  have Q16f0 := Lib.hid (Q12f0.out.keep hb)
  have Q16f1 := Lib.hid (Q12f1.out.keep hb)
  have Q16f2 := Lib.hid (Q12f2.out.keep hb)
  clear O10pw Q12f0 Q12f1 Q12f2
  clear hb
  have O17x0 := Lib.hid oo.out
  clear oo
  obtain ⟨lt0, ca0, cb0⟩ := Q16f1.out
  go_wp2_with fail
  clear lt0 ca0 cb0
  obtain ⟨wb19, hwb19⟩ : ∃ W, W = w13.alloc (.cells #[.int .i64 n0, .slice bx0 x0.length cx0] 32) := ⟨_, rfl⟩
  rw [← hwb19]
  have hq := Lib.hid (show Bx wb19 w13.heap.size (n0) bx0 (x0.length) cx0 by rw [hwb19]; exact Bx.new _ _ _ _ _ _)
  obtain ⟨hb, hsz⟩ : Below w13.heap.size w13 wb19 ∧ w13.heap.size + 1 ≤ wb19.heap.size := by rw [hwb19]; exact alloc_keep _ _
  clear hwb19
  have z20 : w13.heap.size + 1 ≤ wb19.heap.size := hsz
  have B20 : Below W0.heap.size W0 wb19 := B15.trans (hb.mono B15.size)
  have O21w := Lib.hid (O16w.out.below hb O16w.out.hi)
  have O21x0 := Lib.hid (O17x0.out.below hb O17x0.out.hi)
  have Q21f0 := Lib.hid (Q16f0.out.keep hb)
  have Q21f1 := Lib.hid (Q16f1.out.keep hb)
  have Q21f2 := Lib.hid (Q16f2.out.keep hb)
  clear O16w O17x0 Q16f0 Q16f1 Q16f2
  clear hb
  clear hsz
  have Q19bx0 := Lib.hid hq.out
  clear hq
  have y22 : W0.heap.size ≤ wb19.heap.size := B20.size
  refine (toFrame_any n1 x1 _ _ _ _ hl1 (K1.out.keep B20 (Nat.le_refl _))).mono ?_
  rintro e w18 ⟨vx1, rfl, ho, hb⟩
  obtain ⟨bx1, cx1, rfl⟩ := ho.form
  have oo := Lib.hid (ho.inF hb.size)
  clear ho
  have z23 : wb19.heap.size ≤ w18.heap.size := hb.size
  have B23 : Below W0.heap.size W0 w18 := B20.trans (hb.mono B20.size)
  have O24w := Lib.hid (O21w.out.below hb O21w.out.hi)
  have O24x0 := Lib.hid (O21x0.out.below hb O21x0.out.hi)
  have Q24f0 := Lib.hid (Q21f0.out.keep hb)
  have Q24f1 := Lib.hid (Q21f1.out.keep hb)
  have Q24f2 := Lib.hid (Q21f2.out.keep hb)
  have Q24x0 := Lib.hid (Q19bx0.out.keep hb)
  clear O21w O21x0 Q21f0 Q21f1 Q21f2 Q19bx0
  clear hb
  have O25x1 := Lib.hid oo.out
  clear oo
  obtain ⟨lt0, ca0, cb0⟩ := Q24f2.out
  go_wp2_with fail
  clear lt0 ca0 cb0
  obtain ⟨wb27, hwb27⟩ : ∃ W, W = w18.alloc (.cells #[.int .i64 n1, .slice bx1 x1.length cx1] 32) := ⟨_, rfl⟩
  rw [← hwb27]
  have hq := Lib.hid (show Bx wb27 w18.heap.size (n1) bx1 (x1.length) cx1 by rw [hwb27]; exact Bx.new _ _ _ _ _ _)
  obtain ⟨hb, hsz⟩ : Below w18.heap.size w18 wb27 ∧ w18.heap.size + 1 ≤ wb27.heap.size := by rw [hwb27]; exact alloc_keep _ _
  clear hwb27
  have z28 : w18.heap.size + 1 ≤ wb27.heap.size := hsz
  have B28 : Below W0.heap.size W0 wb27 := B23.trans (hb.mono B23.size)
  have O29w := Lib.hid (O24w.out.below hb O24w.out.hi)
  have O29x0 := Lib.hid (O24x0.out.below hb O24x0.out.hi)
  have O29x1 := Lib.hid (O25x1.out.below hb O25x1.out.hi)
  have Q29f0 := Lib.hid (Q24f0.out.keep hb)
  have Q29f1 := Lib.hid (Q24f1.out.keep hb)
  have Q29f2 := Lib.hid (Q24f2.out.keep hb)
  have Q29x0 := Lib.hid (Q24x0.out.keep hb)
  clear O24w O24x0 O25x1 Q24f0 Q24f1 Q24f2 Q24x0
  clear hb
  clear hsz
  have Q27bx1 := Lib.hid hq.out
  clear hq
  have y30 : W0.heap.size ≤ wb27.heap.size := B28.size
  refine (toFrame_any n2 x2 _ _ _ _ hl2 (K2.out.keep B28 (Nat.le_refl _))).mono ?_
  rintro e w26 ⟨vx2, rfl, ho, hb⟩
  obtain ⟨bx2, cx2, rfl⟩ := ho.form
  have oo := Lib.hid (ho.inF hb.size)
  clear ho
  have z31 : wb27.heap.size ≤ w26.heap.size := hb.size
  have B31 : Below W0.heap.size W0 w26 := B28.trans (hb.mono B28.size)
  have O32w := Lib.hid (O29w.out.below hb O29w.out.hi)
  have O32x0 := Lib.hid (O29x0.out.below hb O29x0.out.hi)
  have O32x1 := Lib.hid (O29x1.out.below hb O29x1.out.hi)
  have Q32f0 := Lib.hid (Q29f0.out.keep hb)
  have Q32f1 := Lib.hid (Q29f1.out.keep hb)
  have Q32f2 := Lib.hid (Q29f2.out.keep hb)
  have Q32x0 := Lib.hid (Q29x0.out.keep hb)
  have Q32x1 := Lib.hid (Q27bx1.out.keep hb)
  clear O29w O29x0 O29x1 Q29f0 Q29f1 Q29f2 Q29x0 Q27bx1
  clear hb
  have O33x2 := Lib.hid oo.out
  clear oo
  go_wp2_with fail
  obtain ⟨wb35, hwb35⟩ : ∃ W, W = w26.alloc (.cells #[.int .i64 n2, .slice bx2 x2.length cx2] 32) := ⟨_, rfl⟩
  rw [← hwb35]
  have hq := Lib.hid (show Bx wb35 w26.heap.size (n2) bx2 (x2.length) cx2 by rw [hwb35]; exact Bx.new _ _ _ _ _ _)
  obtain ⟨hb, hsz⟩ : Below w26.heap.size w26 wb35 ∧ w26.heap.size + 1 ≤ wb35.heap.size := by rw [hwb35]; exact alloc_keep _ _
  clear hwb35
  have z36 : w26.heap.size + 1 ≤ wb35.heap.size := hsz
  have B36 : Below W0.heap.size W0 wb35 := B31.trans (hb.mono B31.size)
  have O37w := Lib.hid (O32w.out.below hb O32w.out.hi)
  have O37x0 := Lib.hid (O32x0.out.below hb O32x0.out.hi)
  have O37x1 := Lib.hid (O32x1.out.below hb O32x1.out.hi)
  have O37x2 := Lib.hid (O33x2.out.below hb O33x2.out.hi)
  have Q37f0 := Lib.hid (Q32f0.out.keep hb)
  have Q37f1 := Lib.hid (Q32f1.out.keep hb)
  have Q37f2 := Lib.hid (Q32f2.out.keep hb)
  have Q37x0 := Lib.hid (Q32x0.out.keep hb)
  have Q37x1 := Lib.hid (Q32x1.out.keep hb)
  clear O32w O32x0 O32x1 O33x2 Q32f0 Q32f1 Q32f2 Q32x0 Q32x1
  clear hb
  clear hsz
  have Q35bx2 := Lib.hid hq.out
  clear hq
  have y38 : W0.heap.size ≤ wb35.heap.size := B36.size
  refine (toInt64S_any x3 _ _ _ _ hl3 (K3.out.keep B36 (Nat.le_refl _))).mono ?_
  rintro e w34 ⟨vx3, rfl, ho, hb⟩
  have oo := Lib.hid ho.inn
  clear ho
  have z39 : wb35.heap.size ≤ w34.heap.size := hb.size
  have B39 : Below W0.heap.size W0 w34 := B36.trans (hb.mono B36.size)
  have O40w := Lib.hid (O37w.out.below hb O37w.out.hi)
  have O40x0 := Lib.hid (O37x0.out.below hb O37x0.out.hi)
  have O40x1 := Lib.hid (O37x1.out.below hb O37x1.out.hi)
  have O40x2 := Lib.hid (O37x2.out.below hb O37x2.out.hi)
  have Q40f0 := Lib.hid (Q37f0.out.keep hb)
  have Q40f1 := Lib.hid (Q37f1.out.keep hb)
  have Q40f2 := Lib.hid (Q37f2.out.keep hb)
  have Q40x0 := Lib.hid (Q37x0.out.keep hb)
  have Q40x1 := Lib.hid (Q37x1.out.keep hb)
  have Q40x2 := Lib.hid (Q35bx2.out.keep hb)
  clear O37w O37x0 O37x1 O37x2 Q37f0 Q37f1 Q37f2 Q37x0 Q37x1 Q35bx2
  clear hb
  have O41x3 := Lib.hid oo.out
  clear oo
  go_wp2_with fail
  have y43 : W0.heap.size ≤ w34.heap.size := B39.size
  refine (toInt64S_any x4 _ _ _ _ hl4 (K4.out.keep B39 (Nat.le_refl _))).mono ?_
  rintro e w42 ⟨vx4, rfl, ho, hb⟩
  have oo := Lib.hid ho.inn
  clear ho
  have z44 : w34.heap.size ≤ w42.heap.size := hb.size
  have B44 : Below W0.heap.size W0 w42 := B39.trans (hb.mono B39.size)
  have O45w := Lib.hid (O40w.out.below hb O40w.out.hi)
  have O45x0 := Lib.hid (O40x0.out.below hb O40x0.out.hi)
  have O45x1 := Lib.hid (O40x1.out.below hb O40x1.out.hi)
  have O45x2 := Lib.hid (O40x2.out.below hb O40x2.out.hi)
  have O45x3 := Lib.hid (O41x3.out.below hb O41x3.out.hi)
  have Q45f0 := Lib.hid (Q40f0.out.keep hb)
  have Q45f1 := Lib.hid (Q40f1.out.keep hb)
  have Q45f2 := Lib.hid (Q40f2.out.keep hb)
  have Q45x0 := Lib.hid (Q40x0.out.keep hb)
  have Q45x1 := Lib.hid (Q40x1.out.keep hb)
  have Q45x2 := Lib.hid (Q40x2.out.keep hb)
  clear O40w O40x0 O40x1 O40x2 O41x3 Q40f0 Q40f1 Q40f2 Q40x0 Q40x1 Q40x2
  clear hb
  have O46x4 := Lib.hid oo.out
  clear oo
  obtain ⟨lt0, ca0, cb0⟩ := Q45x0.out
  obtain ⟨lt1, ca1, cb1⟩ := Q45x1.out
  obtain ⟨lt2, ca2, cb2⟩ := Q45x2.out
  go_wp2_with fail
  clear lt0 ca0 cb0 lt1 ca1 cb1 lt2 ca2 cb2
  have y48 : W0.heap.size ≤ w42.heap.size := B44.size
  refine (implThenMorphisms_v n0 x0 n1 x1 n2 x2 x3 x4 _ _ _ _ _ _ _ _ _ _ _ _ _ _ _ _ hl0 hl1 hl2 hl3 hl4 O45x0.out O45x1.out O45x2.out O45x3.out O46x4.out).mono ?_
  rw [← Rl.out, ← R1.out]
  rintro e w47 ⟨vg, rfl, ho, hb⟩
  have oo := Lib.hid ho.inn
  clear ho
  have z49 : w42.heap.size ≤ w47.heap.size := hb.size
  have B49 : Below W0.heap.size W0 w47 := B44.trans (hb.mono B44.size)
  have O50w := Lib.hid (O45w.out.below hb O45w.out.hi)
  have O50x0 := Lib.hid (O45x0.out.below hb O45x0.out.hi)
  have O50x1 := Lib.hid (O45x1.out.below hb O45x1.out.hi)
  have O50x2 := Lib.hid (O45x2.out.below hb O45x2.out.hi)
  have O50x3 := Lib.hid (O45x3.out.below hb O45x3.out.hi)
  have O50x4 := Lib.hid (O46x4.out.below hb O46x4.out.hi)
  have Q50f0 := Lib.hid (Q45f0.out.keep hb)
  have Q50f1 := Lib.hid (Q45f1.out.keep hb)
  have Q50f2 := Lib.hid (Q45f2.out.keep hb)
  have Q50x0 := Lib.hid (Q45x0.out.keep hb)
  have Q50x1 := Lib.hid (Q45x1.out.keep hb)
  have Q50x2 := Lib.hid (Q45x2.out.keep hb)
  clear O45w O45x0 O45x1 O45x2 O45x3 O46x4 Q45f0 Q45f1 Q45f2 Q45x0 Q45x1 Q45x2
  clear hb
  have O51g := Lib.hid oo.out
  clear oo
  go_wp2_with fail
  refine (eqL_own rl _ _ _ _ _ _ _ hly O51g.out O50w.out).mono ?_
  rintro e w52 ⟨rfl, hb⟩
  have z53 : w47.heap.size ≤ w52.heap.size := hb.size
  have B53 : Below W0.heap.size W0 w52 := B49.trans (hb.mono B49.size)
  have O54w := Lib.hid (O50w.out.below hb O50w.out.hi)
  have O54x0 := Lib.hid (O50x0.out.below hb O50x0.out.hi)
  have O54x1 := Lib.hid (O50x1.out.below hb O50x1.out.hi)
  have O54x2 := Lib.hid (O50x2.out.below hb O50x2.out.hi)
  have O54x3 := Lib.hid (O50x3.out.below hb O50x3.out.hi)
  have O54x4 := Lib.hid (O50x4.out.below hb O50x4.out.hi)
  have O54g := Lib.hid (O51g.out.below hb O51g.out.hi)
  have Q54f0 := Lib.hid (Q50f0.out.keep hb)
  have Q54f1 := Lib.hid (Q50f1.out.keep hb)
  have Q54f2 := Lib.hid (Q50f2.out.keep hb)
  have Q54x0 := Lib.hid (Q50x0.out.keep hb)
  have Q54x1 := Lib.hid (Q50x1.out.keep hb)
  have Q54x2 := Lib.hid (Q50x2.out.keep hb)
  clear O50w O50x0 O50x1 O50x2 O50x3 O50x4 O51g Q50f0 Q50f1 Q50f2 Q50x0 Q50x1 Q50x2
  clear hb
  obtain ⟨lt0, ca0, cb0⟩ := Q54f0.out
  obtain ⟨lt1, ca1, cb1⟩ := Q54x0.out
  go_wp2
  go_region_held3 (fun w' => w'.cell? ⟨w.heap.size, 0, none⟩ = some (.int .i64 n0) ∧ w'.cell? ⟨w.heap.size, 1, none⟩ = some (.slice a0 x0.length cap0) ∧ w'.cell? ⟨w13.heap.size, 0, none⟩ = some (.int .i64 (n0)) ∧ w'.cell? ⟨w13.heap.size, 1, none⟩ = some (.slice bx0 (x0.length) cx0)) (first | exact ⟨ca0, cb0, ca1, cb1⟩ | exact ⟨da0, db0, da1, db1⟩ | exact ⟨ea0, eb0, ea1, eb1⟩ | go_keep) (first | (go_at_call 31; refine (toFrame_any n0 x0 _ _ _ _ hl0 (K0.out.keep B53 (Nat.le_refl _)).drw).mono ?_; rintro e w55 ⟨vy, rfl, ho, hb⟩; obtain ⟨by55, cy55, rfl⟩ := ho.form; have yy := Lib.hid (ho.inF hb.size); clear ho; have tt := Lib.hid (below_of_drew hb); clear hb; obtain ⟨mt0, da0, db0⟩ := Q54f0.out.keep tt.out; obtain ⟨mt1, da1, db1⟩ := Q54x0.out.keep tt.out) | (go_at_call 35; refine (eqF_in n0 x0 _ _ _ _ _ _ _ hl0 (O54x0.out.below tt.out O54x0.out.hi) yy.out).mono ?_; rintro e w55' ⟨rfl, hb⟩; have uu := Lib.hid (tt.out.trans (hb.mono tt.out.size)); clear hb; obtain ⟨nt0, ea0, eb0⟩ := Q54f0.out.keep uu.out; obtain ⟨nt1, ea1, eb1⟩ := Q54x0.out.keep uu.out))
  clear lt0 lt1 mt0 mt1 nt0 nt1 yy tt ca0 cb0 da0 db0 ea0 eb0 ca1 cb1 da1 db1 ea1 eb1
  have hb := uu.out
  clear uu
  have z56 : w52.heap.size ≤ w55'.heap.size := hb.size
  have B56 : Below W0.heap.size W0 w55' := B53.trans (hb.mono B53.size)
  have O57w := Lib.hid (O54w.out.below hb O54w.out.hi)
  have O57x0 := Lib.hid (O54x0.out.below hb O54x0.out.hi)
  have O57x1 := Lib.hid (O54x1.out.below hb O54x1.out.hi)
  have O57x2 := Lib.hid (O54x2.out.below hb O54x2.out.hi)
  have O57x3 := Lib.hid (O54x3.out.below hb O54x3.out.hi)
  have O57x4 := Lib.hid (O54x4.out.below hb O54x4.out.hi)
  have O57g := Lib.hid (O54g.out.below hb O54g.out.hi)
  have Q57f0 := Lib.hid (Q54f0.out.keep hb)
  have Q57f1 := Lib.hid (Q54f1.out.keep hb)
  have Q57f2 := Lib.hid (Q54f2.out.keep hb)
  have Q57x0 := Lib.hid (Q54x0.out.keep hb)
  have Q57x1 := Lib.hid (Q54x1.out.keep hb)
  have Q57x2 := Lib.hid (Q54x2.out.keep hb)
  clear O54w O54x0 O54x1 O54x2 O54x3 O54x4 O54g Q54f0 Q54f1 Q54f2 Q54x0 Q54x1 Q54x2
  clear hb
  obtain ⟨lt0, ca0, cb0⟩ := Q57f1.out
  obtain ⟨lt1, ca1, cb1⟩ := Q57x1.out
  go_wp2
  go_region_held3 (fun w' => w'.cell? ⟨w.heap.size + 1, 0, none⟩ = some (.int .i64 n1) ∧ w'.cell? ⟨w.heap.size + 1, 1, none⟩ = some (.slice a1 x1.length cap1) ∧ w'.cell? ⟨w18.heap.size, 0, none⟩ = some (.int .i64 (n1)) ∧ w'.cell? ⟨w18.heap.size, 1, none⟩ = some (.slice bx1 (x1.length) cx1)) (first | exact ⟨ca0, cb0, ca1, cb1⟩ | exact ⟨da0, db0, da1, db1⟩ | exact ⟨ea0, eb0, ea1, eb1⟩ | go_keep) (first | (go_at_call 31; refine (toFrame_any n1 x1 _ _ _ _ hl1 (K1.out.keep B56 (Nat.le_refl _)).drw).mono ?_; rintro e w58 ⟨vy, rfl, ho, hb⟩; obtain ⟨by58, cy58, rfl⟩ := ho.form; have yy := Lib.hid (ho.inF hb.size); clear ho; have tt := Lib.hid (below_of_drew hb); clear hb; obtain ⟨mt0, da0, db0⟩ := Q57f1.out.keep tt.out; obtain ⟨mt1, da1, db1⟩ := Q57x1.out.keep tt.out) | (go_at_call 35; refine (eqF_in n1 x1 _ _ _ _ _ _ _ hl1 (O57x1.out.below tt.out O57x1.out.hi) yy.out).mono ?_; rintro e w58' ⟨rfl, hb⟩; have uu := Lib.hid (tt.out.trans (hb.mono tt.out.size)); clear hb; obtain ⟨nt0, ea0, eb0⟩ := Q57f1.out.keep uu.out; obtain ⟨nt1, ea1, eb1⟩ := Q57x1.out.keep uu.out))
  clear lt0 lt1 mt0 mt1 nt0 nt1 yy tt ca0 cb0 da0 db0 ea0 eb0 ca1 cb1 da1 db1 ea1 eb1
  have hb := uu.out
  clear uu
  have z59 : w55'.heap.size ≤ w58'.heap.size := hb.size
  have B59 : Below W0.heap.size W0 w58' := B56.trans (hb.mono B56.size)
  have O60w := Lib.hid (O57w.out.below hb O57w.out.hi)
  have O60x0 := Lib.hid (O57x0.out.below hb O57x0.out.hi)
  have O60x1 := Lib.hid (O57x1.out.below hb O57x1.out.hi)
  have O60x2 := Lib.hid (O57x2.out.below hb O57x2.out.hi)
  have O60x3 := Lib.hid (O57x3.out.below hb O57x3.out.hi)
  have O60x4 := Lib.hid (O57x4.out.below hb O57x4.out.hi)
  have O60g := Lib.hid (O57g.out.below hb O57g.out.hi)
  have Q60f0 := Lib.hid (Q57f0.out.keep hb)
  have Q60f1 := Lib.hid (Q57f1.out.keep hb)
  have Q60f2 := Lib.hid (Q57f2.out.keep hb)
  have Q60x0 := Lib.hid (Q57x0.out.keep hb)
  have Q60x1 := Lib.hid (Q57x1.out.keep hb)
  have Q60x2 := Lib.hid (Q57x2.out.keep hb)
  clear O57w O57x0 O57x1 O57x2 O57x3 O57x4 O57g Q57f0 Q57f1 Q57f2 Q57x0 Q57x1 Q57x2
  clear hb
  obtain ⟨lt0, ca0, cb0⟩ := Q60f2.out
  obtain ⟨lt1, ca1, cb1⟩ := Q60x2.out
  go_wp2
  go_region_held3 (fun w' => w'.cell? ⟨w.heap.size + 1 + 1, 0, none⟩ = some (.int .i64 n2) ∧ w'.cell? ⟨w.heap.size + 1 + 1, 1, none⟩ = some (.slice a2 x2.length cap2) ∧ w'.cell? ⟨w26.heap.size, 0, none⟩ = some (.int .i64 (n2)) ∧ w'.cell? ⟨w26.heap.size, 1, none⟩ = some (.slice bx2 (x2.length) cx2)) (first | exact ⟨ca0, cb0, ca1, cb1⟩ | exact ⟨da0, db0, da1, db1⟩ | exact ⟨ea0, eb0, ea1, eb1⟩ | go_keep) (first | (go_at_call 31; refine (toFrame_any n2 x2 _ _ _ _ hl2 (K2.out.keep B59 (Nat.le_refl _)).drw).mono ?_; rintro e w61 ⟨vy, rfl, ho, hb⟩; obtain ⟨by61, cy61, rfl⟩ := ho.form; have yy := Lib.hid (ho.inF hb.size); clear ho; have tt := Lib.hid (below_of_drew hb); clear hb; obtain ⟨mt0, da0, db0⟩ := Q60f2.out.keep tt.out; obtain ⟨mt1, da1, db1⟩ := Q60x2.out.keep tt.out) | (go_at_call 35; refine (eqF_in n2 x2 _ _ _ _ _ _ _ hl2 (O60x2.out.below tt.out O60x2.out.hi) yy.out).mono ?_; rintro e w61' ⟨rfl, hb⟩; have uu := Lib.hid (tt.out.trans (hb.mono tt.out.size)); clear hb; obtain ⟨nt0, ea0, eb0⟩ := Q60f2.out.keep uu.out; obtain ⟨nt1, ea1, eb1⟩ := Q60x2.out.keep uu.out))
  clear lt0 lt1 mt0 mt1 nt0 nt1 yy tt ca0 cb0 da0 db0 ea0 eb0 ca1 cb1 da1 db1 ea1 eb1
  have hb := uu.out
  clear uu
  have z62 : w58'.heap.size ≤ w61'.heap.size := hb.size
  have B62 : Below W0.heap.size W0 w61' := B59.trans (hb.mono B59.size)
  have O63w := Lib.hid (O60w.out.below hb O60w.out.hi)
  have O63x0 := Lib.hid (O60x0.out.below hb O60x0.out.hi)
  have O63x1 := Lib.hid (O60x1.out.below hb O60x1.out.hi)
  have O63x2 := Lib.hid (O60x2.out.below hb O60x2.out.hi)
  have O63x3 := Lib.hid (O60x3.out.below hb O60x3.out.hi)
  have O63x4 := Lib.hid (O60x4.out.below hb O60x4.out.hi)
  have O63g := Lib.hid (O60g.out.below hb O60g.out.hi)
  have Q63f0 := Lib.hid (Q60f0.out.keep hb)
  have Q63f1 := Lib.hid (Q60f1.out.keep hb)
  have Q63f2 := Lib.hid (Q60f2.out.keep hb)
  have Q63x0 := Lib.hid (Q60x0.out.keep hb)
  have Q63x1 := Lib.hid (Q60x1.out.keep hb)
  have Q63x2 := Lib.hid (Q60x2.out.keep hb)
  clear O60w O60x0 O60x1 O60x2 O60x3 O60x4 O60g Q60f0 Q60f1 Q60f2 Q60x0 Q60x1 Q60x2
  clear hb
  go_wp2_with fail
  have y65 : W0.heap.size ≤ w61'.heap.size := B62.size
  refine (toInt64S_any x3 _ _ _ _ hl3 (K3.out.keep B62 (Nat.le_refl _))).mono ?_
  rintro e w64 ⟨vy3, rfl, ho, hb⟩
  have oo := Lib.hid ho.inn
  clear ho
  have z66 : w61'.heap.size ≤ w64.heap.size := hb.size
  have B66 : Below W0.heap.size W0 w64 := B62.trans (hb.mono B62.size)
  have O67w := Lib.hid (O63w.out.below hb O63w.out.hi)
  have O67x0 := Lib.hid (O63x0.out.below hb O63x0.out.hi)
  have O67x1 := Lib.hid (O63x1.out.below hb O63x1.out.hi)
  have O67x2 := Lib.hid (O63x2.out.below hb O63x2.out.hi)
  have O67x3 := Lib.hid (O63x3.out.below hb O63x3.out.hi)
  have O67x4 := Lib.hid (O63x4.out.below hb O63x4.out.hi)
  have O67g := Lib.hid (O63g.out.below hb O63g.out.hi)
  have Q67f0 := Lib.hid (Q63f0.out.keep hb)
  have Q67f1 := Lib.hid (Q63f1.out.keep hb)
  have Q67f2 := Lib.hid (Q63f2.out.keep hb)
  have Q67x0 := Lib.hid (Q63x0.out.keep hb)
  have Q67x1 := Lib.hid (Q63x1.out.keep hb)
  have Q67x2 := Lib.hid (Q63x2.out.keep hb)
  clear O63w O63x0 O63x1 O63x2 O63x3 O63x4 O63g Q63f0 Q63f1 Q63f2 Q63x0 Q63x1 Q63x2
  clear hb
  have O68y3 := Lib.hid oo.out
  clear oo
  go_wp2_with fail
  refine (eqL_own x3 _ _ _ _ _ _ _ hl3 O67x3.out O68y3.out).mono ?_
  rintro e w69 ⟨rfl, hb⟩
  have z70 : w64.heap.size ≤ w69.heap.size := hb.size
  have B70 : Below W0.heap.size W0 w69 := B66.trans (hb.mono B66.size)
  have O71w := Lib.hid (O67w.out.below hb O67w.out.hi)
  have O71x0 := Lib.hid (O67x0.out.below hb O67x0.out.hi)
  have O71x1 := Lib.hid (O67x1.out.below hb O67x1.out.hi)
  have O71x2 := Lib.hid (O67x2.out.below hb O67x2.out.hi)
  have O71x3 := Lib.hid (O67x3.out.below hb O67x3.out.hi)
  have O71x4 := Lib.hid (O67x4.out.below hb O67x4.out.hi)
  have O71g := Lib.hid (O67g.out.below hb O67g.out.hi)
  have O71y3 := Lib.hid (O68y3.out.below hb O68y3.out.hi)
  have Q71f0 := Lib.hid (Q67f0.out.keep hb)
  have Q71f1 := Lib.hid (Q67f1.out.keep hb)
  have Q71f2 := Lib.hid (Q67f2.out.keep hb)
  have Q71x0 := Lib.hid (Q67x0.out.keep hb)
  have Q71x1 := Lib.hid (Q67x1.out.keep hb)
  have Q71x2 := Lib.hid (Q67x2.out.keep hb)
  clear O67w O67x0 O67x1 O67x2 O67x3 O67x4 O67g O68y3 Q67f0 Q67f1 Q67f2 Q67x0 Q67x1 Q67x2
  clear hb
  clear O71y3
  go_wp2_with fail
  have y73 : W0.heap.size ≤ w69.heap.size := B70.size
  refine (toInt64S_any x4 _ _ _ _ hl4 (K4.out.keep B70 (Nat.le_refl _))).mono ?_
  rintro e w72 ⟨vy4, rfl, ho, hb⟩
  have oo := Lib.hid ho.inn
  clear ho
  have z74 : w69.heap.size ≤ w72.heap.size := hb.size
  have B74 : Below W0.heap.size W0 w72 := B70.trans (hb.mono B70.size)
  have O75w := Lib.hid (O71w.out.below hb O71w.out.hi)
  have O75x0 := Lib.hid (O71x0.out.below hb O71x0.out.hi)
  have O75x1 := Lib.hid (O71x1.out.below hb O71x1.out.hi)
  have O75x2 := Lib.hid (O71x2.out.below hb O71x2.out.hi)
  have O75x3 := Lib.hid (O71x3.out.below hb O71x3.out.hi)
  have O75x4 := Lib.hid (O71x4.out.below hb O71x4.out.hi)
  have O75g := Lib.hid (O71g.out.below hb O71g.out.hi)
  have Q75f0 := Lib.hid (Q71f0.out.keep hb)
  have Q75f1 := Lib.hid (Q71f1.out.keep hb)
  have Q75f2 := Lib.hid (Q71f2.out.keep hb)
  have Q75x0 := Lib.hid (Q71x0.out.keep hb)
  have Q75x1 := Lib.hid (Q71x1.out.keep hb)
  have Q75x2 := Lib.hid (Q71x2.out.keep hb)
  clear O71w O71x0 O71x1 O71x2 O71x3 O71x4 O71g Q71f0 Q71f1 Q71f2 Q71x0 Q71x1 Q71x2
  clear hb
  have O76y4 := Lib.hid oo.out
  clear oo
  go_wp2_with fail
  refine (eqL_own x4 _ _ _ _ _ _ _ hl4 O75x4.out O76y4.out).mono ?_
  rintro e w77 ⟨rfl, hb⟩
  have z78 : w72.heap.size ≤ w77.heap.size := hb.size
  have B78 : Below W0.heap.size W0 w77 := B74.trans (hb.mono B74.size)
  have O79w := Lib.hid (O75w.out.below hb O75w.out.hi)
  have O79x0 := Lib.hid (O75x0.out.below hb O75x0.out.hi)
  have O79x1 := Lib.hid (O75x1.out.below hb O75x1.out.hi)
  have O79x2 := Lib.hid (O75x2.out.below hb O75x2.out.hi)
  have O79x3 := Lib.hid (O75x3.out.below hb O75x3.out.hi)
  have O79x4 := Lib.hid (O75x4.out.below hb O75x4.out.hi)
  have O79g := Lib.hid (O75g.out.below hb O75g.out.hi)
  have O79y4 := Lib.hid (O76y4.out.below hb O76y4.out.hi)
  have Q79f0 := Lib.hid (Q75f0.out.keep hb)
  have Q79f1 := Lib.hid (Q75f1.out.keep hb)
  have Q79f2 := Lib.hid (Q75f2.out.keep hb)
  have Q79x0 := Lib.hid (Q75x0.out.keep hb)
  have Q79x1 := Lib.hid (Q75x1.out.keep hb)
  have Q79x2 := Lib.hid (Q75x2.out.keep hb)
  clear O75w O75x0 O75x1 O75x2 O75x3 O75x4 O75g O76y4 Q75f0 Q75f1 Q75f2 Q75x0 Q75x1 Q75x2
  clear hb
  clear O79y4
  obtain ⟨lt0, ca0, cb0⟩ := Q79x0.out
  go_wp2_with fail
  clear lt0 ca0 cb0
  refine (markF_in n0 x0 _ _ _ _ _ hl0 (by omega) (by omega) O79x0.out).mono ?_
  rintro e w80 ⟨rfl, om, hb, hg⟩
  have z80 := hb.size
  have B80 : Below W0.heap.size W0 w80 := B78.trans (hb.mono y14)
  have hh80 := O79x0.out.hi
  have O81w := Lib.hid (O79w.out.oth O79x0.out.blk hg (by omega))
  have O81x1 := Lib.hid (O79x1.out.oth O79x0.out.blk hg (by omega))
  have O81x2 := Lib.hid (O79x2.out.oth O79x0.out.blk hg (by omega))
  have O81x3 := Lib.hid (O79x3.out.oth O79x0.out.blk hg (by omega))
  have O81x4 := Lib.hid (O79x4.out.oth O79x0.out.blk hg (by omega))
  have O81g := Lib.hid (O79g.out.oth O79x0.out.blk hg (by omega))
  have Q81f0 := Lib.hid (Q79f0.out.oth O79x0.out.blk hg (by omega))
  have Q81f1 := Lib.hid (Q79f1.out.oth O79x0.out.blk hg (by omega))
  have Q81f2 := Lib.hid (Q79f2.out.oth O79x0.out.blk hg (by omega))
  have Q81x0 := Lib.hid (Q79x0.out.oth O79x0.out.blk hg (by omega))
  have Q81x1 := Lib.hid (Q79x1.out.oth O79x0.out.blk hg (by omega))
  have Q81x2 := Lib.hid (Q79x2.out.oth O79x0.out.blk hg (by omega))
  clear O79w O79x1 O79x2 O79x3 O79x4 O79g Q79f0 Q79f1 Q79f2 Q79x0 Q79x1 Q79x2
  have O80x0 := Lib.hid om
  clear hb hg om hh80 O79x0
  obtain ⟨lt0, ca0, cb0⟩ := Q81x1.out
  go_wp2_with fail
  clear lt0 ca0 cb0
  refine (markF_in n1 x1 _ _ _ _ _ hl1 (by omega) (by omega) O81x1.out).mono ?_
  rintro e w82 ⟨rfl, om, hb, hg⟩
  have z82 := hb.size
  have B82 : Below W0.heap.size W0 w82 := B80.trans (hb.mono y22)
  have hh82 := O81x1.out.hi
  have O83w := Lib.hid (O81w.out.oth O81x1.out.blk hg (by omega))
  have O83x2 := Lib.hid (O81x2.out.oth O81x1.out.blk hg (by omega))
  have O83x3 := Lib.hid (O81x3.out.oth O81x1.out.blk hg (by omega))
  have O83x4 := Lib.hid (O81x4.out.oth O81x1.out.blk hg (by omega))
  have O83g := Lib.hid (O81g.out.oth O81x1.out.blk hg (by omega))
  have O83x0 := Lib.hid (O80x0.out.oth O81x1.out.blk hg (by omega))
  have Q83f0 := Lib.hid (Q81f0.out.oth O81x1.out.blk hg (by omega))
  have Q83f1 := Lib.hid (Q81f1.out.oth O81x1.out.blk hg (by omega))
  have Q83f2 := Lib.hid (Q81f2.out.oth O81x1.out.blk hg (by omega))
  have Q83x0 := Lib.hid (Q81x0.out.oth O81x1.out.blk hg (by omega))
  have Q83x1 := Lib.hid (Q81x1.out.oth O81x1.out.blk hg (by omega))
  have Q83x2 := Lib.hid (Q81x2.out.oth O81x1.out.blk hg (by omega))
  clear O81w O81x2 O81x3 O81x4 O81g O80x0 Q81f0 Q81f1 Q81f2 Q81x0 Q81x1 Q81x2
  have O82x1 := Lib.hid om
  clear hb hg om hh82 O81x1
  obtain ⟨lt0, ca0, cb0⟩ := Q83x2.out
  go_wp2_with fail
  clear lt0 ca0 cb0
  refine (markF_in n2 x2 _ _ _ _ _ hl2 (by omega) (by omega) O83x2.out).mono ?_
  rintro e w84 ⟨rfl, om, hb, hg⟩
  have z84 := hb.size
  have B84 : Below W0.heap.size W0 w84 := B82.trans (hb.mono y30)
  have hh84 := O83x2.out.hi
  have O85w := Lib.hid (O83w.out.oth O83x2.out.blk hg (by omega))
  have O85x3 := Lib.hid (O83x3.out.oth O83x2.out.blk hg (by omega))
  have O85x4 := Lib.hid (O83x4.out.oth O83x2.out.blk hg (by omega))
  have O85g := Lib.hid (O83g.out.oth O83x2.out.blk hg (by omega))
  have O85x0 := Lib.hid (O83x0.out.oth O83x2.out.blk hg (by omega))
  have O85x1 := Lib.hid (O82x1.out.oth O83x2.out.blk hg (by omega))
  have Q85f0 := Lib.hid (Q83f0.out.oth O83x2.out.blk hg (by omega))
  have Q85f1 := Lib.hid (Q83f1.out.oth O83x2.out.blk hg (by omega))
  have Q85f2 := Lib.hid (Q83f2.out.oth O83x2.out.blk hg (by omega))
  have Q85x0 := Lib.hid (Q83x0.out.oth O83x2.out.blk hg (by omega))
  have Q85x1 := Lib.hid (Q83x1.out.oth O83x2.out.blk hg (by omega))
  have Q85x2 := Lib.hid (Q83x2.out.oth O83x2.out.blk hg (by omega))
  clear O83w O83x3 O83x4 O83g O83x0 O82x1 Q83f0 Q83f1 Q83f2 Q83x0 Q83x1 Q83x2
  have O84x2 := Lib.hid om
  clear hb hg om hh84 O83x2
  go_wp2_with fail
  refine (markL_own x3 _ _ _ _ _ hl3 (by omega) (by omega) O85x3.out).mono ?_
  rintro e w86 ⟨rfl, om, hb, hg⟩
  have z86 := hb.size
  have B86 : Below W0.heap.size W0 w86 := B84.trans (hb.mono y38)
  have hh86 := O85x3.out.hi
  have O87w := Lib.hid (O85w.out.oth O85x3.out.blk hg (by omega))
  have O87x4 := Lib.hid (O85x4.out.oth O85x3.out.blk hg (by omega))
  have O87g := Lib.hid (O85g.out.oth O85x3.out.blk hg (by omega))
  have O87x0 := Lib.hid (O85x0.out.oth O85x3.out.blk hg (by omega))
  have O87x1 := Lib.hid (O85x1.out.oth O85x3.out.blk hg (by omega))
  have O87x2 := Lib.hid (O84x2.out.oth O85x3.out.blk hg (by omega))
  have Q87f0 := Lib.hid (Q85f0.out.oth O85x3.out.blk hg (by omega))
  have Q87f1 := Lib.hid (Q85f1.out.oth O85x3.out.blk hg (by omega))
  have Q87f2 := Lib.hid (Q85f2.out.oth O85x3.out.blk hg (by omega))
  have Q87x0 := Lib.hid (Q85x0.out.oth O85x3.out.blk hg (by omega))
  have Q87x1 := Lib.hid (Q85x1.out.oth O85x3.out.blk hg (by omega))
  have Q87x2 := Lib.hid (Q85x2.out.oth O85x3.out.blk hg (by omega))
  clear O85w O85x4 O85g O85x0 O85x1 O84x2 Q85f0 Q85f1 Q85f2 Q85x0 Q85x1 Q85x2
  have O86x3 := Lib.hid om
  clear hb hg om hh86 O85x3
  go_wp2_with fail
  refine (markL_own x4 _ _ _ _ _ hl4 (by omega) (by omega) O87x4.out).mono ?_
  rintro e w88 ⟨rfl, om, hb, hg⟩
  have z88 := hb.size
  have B88 : Below W0.heap.size W0 w88 := B86.trans (hb.mono y43)
  have hh88 := O87x4.out.hi
  have O89w := Lib.hid (O87w.out.oth O87x4.out.blk hg (by omega))
  have O89g := Lib.hid (O87g.out.oth O87x4.out.blk hg (by omega))
  have O89x0 := Lib.hid (O87x0.out.oth O87x4.out.blk hg (by omega))
  have O89x1 := Lib.hid (O87x1.out.oth O87x4.out.blk hg (by omega))
  have O89x2 := Lib.hid (O87x2.out.oth O87x4.out.blk hg (by omega))
  have O89x3 := Lib.hid (O86x3.out.oth O87x4.out.blk hg (by omega))
  have Q89f0 := Lib.hid (Q87f0.out.oth O87x4.out.blk hg (by omega))
  have Q89f1 := Lib.hid (Q87f1.out.oth O87x4.out.blk hg (by omega))
  have Q89f2 := Lib.hid (Q87f2.out.oth O87x4.out.blk hg (by omega))
  have Q89x0 := Lib.hid (Q87x0.out.oth O87x4.out.blk hg (by omega))
  have Q89x1 := Lib.hid (Q87x1.out.oth O87x4.out.blk hg (by omega))
  have Q89x2 := Lib.hid (Q87x2.out.oth O87x4.out.blk hg (by omega))
  clear O87w O87g O87x0 O87x1 O87x2 O86x3 Q87f0 Q87f1 Q87f2 Q87x0 Q87x1 Q87x2
  have O88x4 := Lib.hid om
  clear hb hg om hh88 O87x4
  clear O89x0
  clear Q89x0
  clear O89x1
  clear Q89x1
  clear O89x2
  clear Q89x2
  clear O89x3
  clear O88x4
  go_wp2_with fail
  refine (eqL_own rl _ _ _ _ _ _ _ hly O89g.out O89w.out).mono ?_
  rintro e w90 ⟨rfl, hb⟩
  have z91 : w88.heap.size ≤ w90.heap.size := hb.size
  have B91 : Below W0.heap.size W0 w90 := B88.trans (hb.mono B88.size)
  have O92w := Lib.hid (O89w.out.below hb O89w.out.hi)
  have O92g := Lib.hid (O89g.out.below hb O89g.out.hi)
  have Q92f0 := Lib.hid (Q89f0.out.keep hb)
  have Q92f1 := Lib.hid (Q89f1.out.keep hb)
  have Q92f2 := Lib.hid (Q89f2.out.keep hb)
  clear O89w O89g Q89f0 Q89f1 Q89f2
  clear hb
  go_wp2_with fail
  refine (markL_own rl _ _ _ _ _ hly (by omega) (by omega) O92g.out).mono ?_
  rintro e w93 ⟨rfl, om, hb, hg⟩
  have z93 := hb.size
  have B93 : Below W0.heap.size W0 w93 := B91.trans (hb.mono y48)
  have hh93 := O92g.out.hi
  have O94w := Lib.hid (O92w.out.oth O92g.out.blk hg (by omega))
  have Q94f0 := Lib.hid (Q92f0.out.oth O92g.out.blk hg (by omega))
  have Q94f1 := Lib.hid (Q92f1.out.oth O92g.out.blk hg (by omega))
  have Q94f2 := Lib.hid (Q92f2.out.oth O92g.out.blk hg (by omega))
  clear O92w Q92f0 Q92f1 Q92f2
  have O93g := Lib.hid om
  clear hb hg om hh93 O92g
  go_wp2_with fail
  refine (heldL_own rl.length _ _ _ _ _ hly (by omega) (by omega) O93g.out).mono ?_
  rintro e w95 ⟨rfl, hb⟩
  have z96 : w93.heap.size ≤ w95.heap.size := hb.size
  have B96 : Below W0.heap.size W0 w95 := B93.trans (hb.mono B93.size)
  have O97w := Lib.hid (O94w.out.below hb O94w.out.hi)
  have O97g := Lib.hid (O93g.out.below hb O93g.out.hi)
  have Q97f0 := Lib.hid (Q94f0.out.keep hb)
  have Q97f1 := Lib.hid (Q94f1.out.keep hb)
  have Q97f2 := Lib.hid (Q94f2.out.keep hb)
  clear O94w O93g Q94f0 Q94f1 Q94f2
  clear hb
  obtain ⟨lt0, ca0, cb0⟩ := Q97f0.out
  obtain ⟨lt1, ca1, cb1⟩ := Q97f1.out
  obtain ⟨lt2, ca2, cb2⟩ := Q97f2.out
  have zw := B96.size
  go_wp2
  go_cut [24, 25] (fun s1 s2 wx => ∃ (v : Value) (lo hi : Nat), s1 = v ∧ s2 = .int .i64 r1 ∧ Hid (Below w95.heap.size w95 wx) ∧ w95.heap.size ≤ lo ∧ Hid (OwnIn wx lo hi v rl))
  case first =>
    go_region_held3 (fun w' => w'.cell? ⟨w.heap.size, 0, none⟩ = some (.int .i64 n0) ∧ w'.cell? ⟨w.heap.size, 1, none⟩ = some (.slice a0 x0.length cap0) ∧ w'.cell? ⟨w.heap.size + 1, 0, none⟩ = some (.int .i64 n1) ∧ w'.cell? ⟨w.heap.size + 1, 1, none⟩ = some (.slice a1 x1.length cap1) ∧ w'.cell? ⟨w.heap.size + 1 + 1, 0, none⟩ = some (.int .i64 n2) ∧ w'.cell? ⟨w.heap.size + 1 + 1, 1, none⟩ = some (.slice a2 x2.length cap2)) (first | exact ⟨ka0, kb0, ka1, kb1, ka2, kb2⟩ | exact ⟨ha0, hb0, ha1, hb1, ha2, hb2⟩ | exact ⟨ga0, gb0, ga1, gb1, ga2, gb2⟩ | exact ⟨fa0, fb0, fa1, fb1, fa2, fb2⟩ | exact ⟨ea0, eb0, ea1, eb1, ea2, eb2⟩ | exact ⟨da0, db0, da1, db1, da2, db2⟩ | exact ⟨ca0, cb0, ca1, cb1, ca2, cb2⟩ | go_keep) (first | (go_at_call_of 31 cap0; have Z1 := (K0.out.keep B96 (Nat.le_refl _)).drw; refine (toFrame_any n0 x0 _ _ _ _ hl0 Z1).mono ?_; clear Z1; rintro e wq0 ⟨vq, rfl, ho, hb⟩; obtain ⟨bq0, cq0, rfl⟩ := ho.form; have y0_1 := Lib.hid (ho.inF hb.size); clear ho; have t1 := Lib.hid (below_of_drew hb); clear hb; obtain ⟨dt0, da0, db0⟩ := Q97f0.out.keep t1.out; obtain ⟨dt1, da1, db1⟩ := Q97f1.out.keep t1.out; obtain ⟨dt2, da2, db2⟩ := Q97f2.out.keep t1.out) | (go_at_call_of 31 cap1; have Z1 := (K1.out.keep (B96.trans (t1.out.mono B96.size)) (Nat.le_refl _)); refine (toFrame_any n1 x1 _ _ _ _ hl1 Z1).mono ?_; clear Z1; rintro e wq1 ⟨vq, rfl, ho, hb⟩; obtain ⟨bq1, cq1, rfl⟩ := ho.form; have y1_2 := Lib.hid (ho.inF hb.size); clear ho; have y0_2 := Lib.hid (y0_1.out.below hb y0_1.out.hi); have t2 := Lib.hid (t1.out.trans (Below.mono hb t1.out.size)); clear hb; obtain ⟨et0, ea0, eb0⟩ := Q97f0.out.keep t2.out; obtain ⟨et1, ea1, eb1⟩ := Q97f1.out.keep t2.out; obtain ⟨et2, ea2, eb2⟩ := Q97f2.out.keep t2.out) | (go_at_call_of 31 cap2; have Z1 := (K2.out.keep (B96.trans (t2.out.mono B96.size)) (Nat.le_refl _)); refine (toFrame_any n2 x2 _ _ _ _ hl2 Z1).mono ?_; clear Z1; rintro e wq2 ⟨vq, rfl, ho, hb⟩; obtain ⟨bq2, cq2, rfl⟩ := ho.form; have y2_3 := Lib.hid (ho.inF hb.size); clear ho; have y0_3 := Lib.hid (y0_2.out.below hb y0_2.out.hi); have y1_3 := Lib.hid (y1_2.out.below hb y1_2.out.hi); have t3 := Lib.hid (t2.out.trans (Below.mono hb t2.out.size)); clear hb; obtain ⟨ft0, fa0, fb0⟩ := Q97f0.out.keep t3.out; obtain ⟨ft1, fa1, fb1⟩ := Q97f1.out.keep t3.out; obtain ⟨ft2, fa2, fb2⟩ := Q97f2.out.keep t3.out) | (go_at_call_of 32 cap3; have Z1 := (K3.out.keep (B96.trans (t3.out.mono B96.size)) (Nat.le_refl _)); refine (toInt64S_any x3 _ _ _ _ hl3 Z1).mono ?_; clear Z1; rintro e wq3 ⟨vq3, rfl, ho, hb⟩; have y3_4 := Lib.hid ho.inn; clear ho; have y0_4 := Lib.hid (y0_3.out.below hb y0_3.out.hi); have y1_4 := Lib.hid (y1_3.out.below hb y1_3.out.hi); have y2_4 := Lib.hid (y2_3.out.below hb y2_3.out.hi); have t4 := Lib.hid (t3.out.trans (Below.mono hb t3.out.size)); clear hb; obtain ⟨gt0, ga0, gb0⟩ := Q97f0.out.keep t4.out; obtain ⟨gt1, ga1, gb1⟩ := Q97f1.out.keep t4.out; obtain ⟨gt2, ga2, gb2⟩ := Q97f2.out.keep t4.out) | (go_at_call_of 32 cap4; have Z1 := (K4.out.keep (B96.trans (t4.out.mono B96.size)) (Nat.le_refl _)); refine (toInt64S_any x4 _ _ _ _ hl4 Z1).mono ?_; clear Z1; rintro e wq4 ⟨vq4, rfl, ho, hb⟩; have y4_5 := Lib.hid ho.inn; clear ho; have y0_5 := Lib.hid (y0_4.out.below hb y0_4.out.hi); have y1_5 := Lib.hid (y1_4.out.below hb y1_4.out.hi); have y2_5 := Lib.hid (y2_4.out.below hb y2_4.out.hi); have y3_5 := Lib.hid (y3_4.out.below hb y3_4.out.hi); have t5 := Lib.hid (t4.out.trans (Below.mono hb t4.out.size)); clear hb; obtain ⟨ht0, ha0, hb0⟩ := Q97f0.out.keep t5.out; obtain ⟨ht1, ha1, hb1⟩ := Q97f1.out.keep t5.out; obtain ⟨ht2, ha2, hb2⟩ := Q97f2.out.keep t5.out) | (go_at_call 33; refine (implThenMorphisms_v n0 x0 n1 x1 n2 x2 x3 x4 _ _ _ _ _ _ _ _ _ _ _ _ _ _ _ _ hl0 hl1 hl2 hl3 hl4 y0_5.out y1_5.out y2_5.out y3_5.out y4_5.out).mono ?_; rw [← Rl.out, ← R1.out]; rintro e wz98 ⟨vh, rfl, ho, hb⟩; have oo := Lib.hid ho.inn; clear ho; have t6 := Lib.hid (t5.out.trans (Below.mono hb t5.out.size)); clear hb; obtain ⟨kt0, ka0, kb0⟩ := Q97f0.out.keep t6.out; obtain ⟨kt1, ka1, kb1⟩ := Q97f1.out.keep t6.out; obtain ⟨kt2, ka2, kb2⟩ := Q97f2.out.keep t6.out))
    all_goals (try go_wp2_with fail)
    all_goals go_meet
    all_goals exact ⟨_, _, _, rfl, rfl, t6, (by have q := t5.out.size; omega), oo⟩
  case rest =>
  rename World => wz98
  obtain ⟨vh, loh, hih, rfl, rfl, hpr, ql98, oo⟩ := hcut
  have hb := hpr.out
  clear hpr lt0 ca0 cb0 lt1 ca1 cb1 lt2 ca2 cb2
  have qh98 := oo.out.hi
  have z99 : w95.heap.size ≤ wz98.heap.size := hb.size
  have B99 : Below W0.heap.size W0 wz98 := B96.trans (hb.mono B96.size)
  have O100w := Lib.hid (O97w.out.below hb O97w.out.hi)
  have O100g := Lib.hid (O97g.out.below hb O97g.out.hi)
  have Q100f0 := Lib.hid (Q97f0.out.keep hb)
  have Q100f1 := Lib.hid (Q97f1.out.keep hb)
  have Q100f2 := Lib.hid (Q97f2.out.keep hb)
  clear O97w O97g Q97f0 Q97f1 Q97f2
  clear hb
  have O98ph := Lib.hid oo.out
  clear oo
  go_wp2_with fail
  refine (eqL_own rl _ _ _ _ _ _ _ hly O98ph.out O100w.out).mono ?_
  rintro e w101 ⟨rfl, hb⟩
  have z102 : wz98.heap.size ≤ w101.heap.size := hb.size
  have B102 : Below W0.heap.size W0 w101 := B99.trans (hb.mono B99.size)
  have O103w := Lib.hid (O100w.out.below hb O100w.out.hi)
  have O103g := Lib.hid (O100g.out.below hb O100g.out.hi)
  have O103h := Lib.hid (O98ph.out.below hb O98ph.out.hi)
  have Q103f0 := Lib.hid (Q100f0.out.keep hb)
  have Q103f1 := Lib.hid (Q100f1.out.keep hb)
  have Q103f2 := Lib.hid (Q100f2.out.keep hb)
  clear O100w O100g O98ph Q100f0 Q100f1 Q100f2
  clear hb
  clear O103h
  clear O103w
  go_wp2_with fail
  refine (heldL_own rl.length _ _ _ _ _ hly (by omega) (by omega) O103g.out).mono ?_
  rintro e w104 ⟨rfl, hb⟩
  have z105 : w101.heap.size ≤ w104.heap.size := hb.size
  have B105 : Below W0.heap.size W0 w104 := B102.trans (hb.mono B102.size)
  have O106g := Lib.hid (O103g.out.below hb O103g.out.hi)
  have Q106f0 := Lib.hid (Q103f0.out.keep hb)
  have Q106f1 := Lib.hid (Q103f1.out.keep hb)
  have Q106f2 := Lib.hid (Q103f2.out.keep hb)
  clear O103g Q103f0 Q103f1 Q103f2
  clear hb
  go_wp2
  go_ret
  exact ⟨rfl, B0.trans (B105.mono B0.size)⟩

end Go.Proofs.Ytomldealpmohhaa
