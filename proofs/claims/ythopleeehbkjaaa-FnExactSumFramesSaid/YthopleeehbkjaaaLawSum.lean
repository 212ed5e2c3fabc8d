/- The walk of the law FnExactSumFrames. Conditions: those in the theorems. -/
import Derived.Test.YthopleeehbkjaaaSum
namespace Go.Proofs.Ythopleeehbkjaaa
open Go.RowKit

set_option maxHeartbeats 4000000 in
set_option maxRecDepth 100000 in
theorem lawSumFrames (n0 : Int) (x0 : List Int) (n1 : Int) (x1 : List Int) (a0 : Option Addr) (len0 cap0 : Nat) (a1 : Option Addr) (len1 cap1 : Nat) (w : World) (h0 : IsArr w a0 len0 x0) (h1 : IsArr w a1 len1 x1) :
    Calls Try.prog 14 #[.agg #[.int .i64 n0, .slice a0 len0 cap0], .agg #[.int .i64 n1, .slice a1 len1 cap1]] w fun e w' => e = .returned (.bool true) ∧ Below w.heap.size w w' := by
  obtain rfl := h0.1.1
  obtain rfl := h1.1.1
  have m0 := h0.2
  have H0 := Lib.hid h0.1
  clear h0
  have m1 := h1.2
  have H1 := Lib.hid h1.1
  clear h1
  obtain ⟨rn, hrn⟩ : ∃ r, r = ((smL n0 x0 n1 x1).length : Int) := ⟨_, rfl⟩
  obtain ⟨rl, hrl⟩ : ∃ r, r = smL n0 x0 n1 x1 := ⟨_, rfl⟩
  obtain ⟨r1, hr1⟩ : ∃ r, r = smC n0 x0 n1 x1 := ⟨_, rfl⟩
  have hly : rl.length ≤ 1048576 := by rw [hrl]; exact SumFrames_len n0 x0 n1 x1
  have Rn := Lib.hid hrn
  clear hrn
  have Rl := Lib.hid hrl
  clear hrl
  have R1 := Lib.hid hr1
  clear hr1
  obtain ⟨W0, hW0⟩ : ∃ W0, W0 = ((w.alloc (.cells #[.int .i64 n0, .slice a0 x0.length cap0] 24)).alloc (.cells #[.int .i64 n1, .slice a1 x1.length cap1] 24)) := ⟨_, rfl⟩
  have B0 : Below w.heap.size w W0 := by rw [hW0]; exact (((Below.refl w.heap.size w).alloc (by simp) _).alloc (by simp) _)
  have Q0f0 := Lib.hid (show Bx W0 (w.heap.size) n0 a0 x0.length cap0 by rw [hW0]; exact ((Bx.new _ _ _ _ _ _).keep (alloc_keep _ _).1))
  have Q0f1 := Lib.hid (show Bx W0 (w.heap.size + 1) n1 a1 x1.length cap1 by rw [hW0]; have := Bx.new (w.alloc (.cells #[.int .i64 n0, .slice a0 x0.length cap0] 24)) n1 a1 x1.length cap1 24; simpa using this)
  have zz : w.heap.size + 1 + 1 ≤ W0.heap.size := by rw [hW0]; simp
  have K0 := Lib.hid (H0.out.keep B0 (Nat.le_refl _))
  clear H0
  have K1 := Lib.hid (H1.out.keep B0 (Nat.le_refl _))
  clear H1
  have hWW := Lib.hid hW0
  clear hW0
  go_enter Try.func14, Try.ntmps14
  go_wp2_with fail
  refine (szFrame_any n0 _ _ _ (1048576 : Int) _ m0 (by omega) (by omega)).mono ?_
  obtain ⟨s0, hs0⟩ : ∃ s, s = szG (1048576 : Int) x0.length := ⟨_, rfl⟩
  rw [← hs0]
  rintro e w1 ⟨rfl, hb⟩
  rw [← hWW.out] at hb
  have z2 : W0.heap.size ≤ w1.heap.size := hb.size
  have B2 : Below W0.heap.size W0 w1 := (Below.refl W0.heap.size W0).trans (hb.mono (Below.refl W0.heap.size W0).size)
  have Q3f0 := Lib.hid (Q0f0.out.keep hb)
  have Q3f1 := Lib.hid (Q0f1.out.keep hb)
  clear Q0f0 Q0f1
  clear hb
  by_cases hb0 : (1048576 : Int) < (x0.length : Int)
  · rw [szG_no hb0] at hs0
    subst hs0
    go_wp2
    go_ret
    exact ⟨rfl, B0.trans (B2.mono B0.size)⟩
  rw [szG_yes hb0] at hs0
  have hl0 : x0.length ≤ 1048576 := by omega
  have s00 : 0 ≤ s0 := by omega
  have s10 : s0 ≤ 1048576 := by omega
  clear hs0
  obtain ⟨lt0, ca0, cb0⟩ := Q3f1.out
  go_wp2_with fail
  clear lt0 ca0 cb0
  refine (szFrame_any n1 _ _ _ s0 _ m1 (by omega) (by omega)).mono ?_
  obtain ⟨s1, hs1⟩ : ∃ s, s = szG s0 x1.length := ⟨_, rfl⟩
  rw [← hs1]
  rintro e w4 ⟨rfl, hb⟩
  have z5 : w1.heap.size ≤ w4.heap.size := hb.size
  have B5 : Below W0.heap.size W0 w4 := B2.trans (hb.mono B2.size)
  have Q6f0 := Lib.hid (Q3f0.out.keep hb)
  have Q6f1 := Lib.hid (Q3f1.out.keep hb)
  clear Q3f0 Q3f1
  clear hb
  by_cases hb1 : s0 < (x1.length : Int)
  · rw [szG_no hb1] at hs1
    subst hs1
    go_wp2
    go_ret
    exact ⟨rfl, B0.trans (B5.mono B0.size)⟩
  rw [szG_yes hb1] at hs1
  have hl1 : x1.length ≤ 1048576 := by omega
  have s01 : 0 ≤ s1 := by omega
  have s11 : s1 ≤ 1048576 := by omega
  clear hs1
  obtain ⟨lt0, ca0, cb0⟩ := Q6f0.out
  obtain ⟨lt1, ca1, cb1⟩ := Q6f1.out
  have zw := B5.size
  go_wp2
  go_cut [6, 7] (fun s1 s2 wx => ∃ (b : Nat) (a : Option Addr) (c lo hi : Nat), s1 = .pointer (some ⟨b, 0, none⟩) ∧ s2 = .int .i64 r1 ∧ w4.heap.size ≤ b ∧ w4.heap.size ≤ lo ∧ Hid (Pr w4 wx b lo hi rn a rl.length c rl))
  case first =>
    go_region_held3 (fun w' => w'.cell? ⟨w.heap.size, 0, none⟩ = some (.int .i64 n0) ∧ w'.cell? ⟨w.heap.size, 1, none⟩ = some (.slice a0 x0.length cap0) ∧ w'.cell? ⟨w.heap.size + 1, 0, none⟩ = some (.int .i64 n1) ∧ w'.cell? ⟨w.heap.size + 1, 1, none⟩ = some (.slice a1 x1.length cap1)) (first | exact ⟨ca0, cb0, ca1, cb1⟩ | exact ⟨da0, db0, da1, db1⟩ | exact ⟨ea0, eb0, ea1, eb1⟩ | exact ⟨fa0, fb0, fa1, fb1⟩ | exact ⟨two_set fa0 (by first | omega | (have e : w4.drew.heap.size = w4.heap.size := rfl; omega)), two_set fb0 (by first | omega | (have e : w4.drew.heap.size = w4.heap.size := rfl; omega)), two_set fa1 (by first | omega | (have e : w4.drew.heap.size = w4.heap.size := rfl; omega)), two_set fb1 (by first | omega | (have e : w4.drew.heap.size = w4.heap.size := rfl; omega))⟩ | go_keep | (refine ⟨?_, ?_, ?_, ?_⟩ <;> simp [*])) (first | (go_at_call_of 51 cap0; have ZZ := (K0.out.keep B5 (Nat.le_refl _)).drw; refine (toFrame_any n0 x0 _ _ _ _ hl0 ZZ).mono ?_; clear ZZ; rintro e wA7 ⟨vA, rfl, ho, hb⟩; obtain ⟨bA7, cA7, rfl⟩ := ho.form; have yA := Lib.hid (ho.inF hb.size); clear ho; have tA := Lib.hid (below_of_drew hb); have zA := Lib.hid (Zo.no wA7 w4); have sA := tA.out.size; clear hb; obtain ⟨dt0, da0, db0⟩ := Q6f0.out.keep tA.out; obtain ⟨dt1, da1, db1⟩ := Q6f1.out.keep tA.out) | (go_at_call_of 51 cap0; have ZZ := (((K0.out.keep B5 (Nat.le_refl _)).drw).keep (alloc_keep w4.drew (.cells #[.int .i64 0, .slice none 0 0] 30)).1 (Nat.le_refl _)); refine (toFrame_any n0 x0 _ _ _ _ hl0 ZZ).mono ?_; clear ZZ; rintro e wA7 ⟨vA, rfl, ho, hb⟩; obtain ⟨bA7, cA7, rfl⟩ := ho.form; have yA := Lib.hid (ho.inF hb.size); clear ho; have tA := Lib.hid (below_of_drew (below_al (Nat.le_refl _) hb)); have zA := Lib.hid (show Zo wA7 w4 (some w4.heap.size) from Zo.new (W := w4) (w := w4.drew) (Nat.le_refl _) hb); have sA := tA.out.size; have sA2 : w4.heap.size + 1 ≤ wA7.heap.size := (by have q := hb.size; simpa using q); clear hb; obtain ⟨dt0, da0, db0⟩ := Q6f0.out.keep tA.out; obtain ⟨dt1, da1, db1⟩ := Q6f1.out.keep tA.out) | (go_at_call_of 51 cap1; have ZZ := K1.out.keep (B5.trans (tA.out.mono B5.size)) (Nat.le_refl _); refine (toFrame_any n1 x1 _ _ _ _ hl1 ZZ).mono ?_; clear ZZ; rintro e wB7 ⟨vB, rfl, ho, hb⟩; obtain ⟨bB7, cB7, rfl⟩ := ho.form; have yB := Lib.hid (ho.inF hb.size); clear ho; have yA2 := Lib.hid (yA.out.below hb yA.out.hi); have tB := Lib.hid (tA.out.trans (Below.mono hb tA.out.size)); have zB := Lib.hid (zA.out.keep hb); have sB := (Below.size hb); clear hb; obtain ⟨et0, ea0, eb0⟩ := Q6f0.out.keep tB.out; obtain ⟨et1, ea1, eb1⟩ := Q6f1.out.keep tB.out) | (go_at_call_of 51 cap1; have ZZ := (K1.out.keep (B5.trans (tA.out.mono B5.size)) (Nat.le_refl _)).keep (alloc_keep wA7 (.cells #[.int .i64 0, .slice none 0 0] 30)).1 (Nat.le_refl _); refine (toFrame_any n1 x1 _ _ _ _ hl1 ZZ).mono ?_; clear ZZ; rintro e wB7 ⟨vB, rfl, ho, hb⟩; obtain ⟨bB7, cB7, rfl⟩ := ho.form; have yB := Lib.hid (ho.inF hb.size); clear ho; have yA2 := Lib.hid (yA.out.below (below_al (Nat.le_refl _) hb) yA.out.hi); have tB := Lib.hid (tA.out.trans (Below.mono (below_al (Nat.le_refl _) hb) tA.out.size)); have zB := Lib.hid (Zo.new (W := w4) (w := wA7) tA.out.size hb); have sB := (Below.size (below_al (Nat.le_refl _) hb)); have sB2 : wA7.heap.size + 1 ≤ wB7.heap.size := (by have q := hb.size; simpa using q); clear hb; obtain ⟨et0, ea0, eb0⟩ := Q6f0.out.keep tB.out; obtain ⟨et1, ea1, eb1⟩ := Q6f1.out.keep tB.out) | (go_at_call 50; refine (specSumFrames_v n0 x0 n1 x1 _ _ _ _ _ _ _ hl0 hl1 yA2.out yB.out).mono ?_; rw [← Rn.out, ← Rl.out, ← R1.out]; rintro e wC7 ⟨vw, rfl, ho, hb⟩; obtain ⟨bw, cw, rfl⟩ := ho.form; have oo := Lib.hid (ho.inF hb.size); clear ho; have tC := Lib.hid (tB.out.trans (Below.mono hb tB.out.size)); have zC := Lib.hid (zB.out.keep hb); have sC := (Below.size hb); clear hb; (try (obtain ⟨zl, z0, z1, z2, z3⟩ := (zC.out _ rfl).1)); obtain ⟨ft0, fa0, fb0⟩ := Q6f0.out.keep tC.out; obtain ⟨ft1, fa1, fb1⟩ := Q6f1.out.keep tC.out) | (go_at_call 50; refine (specSumFrames_v n0 x0 n1 x1 _ _ _ _ _ _ _ hl0 hl1 (yA2.out.below (alloc_keep wB7 (.cells #[.int .i64 0, .slice none 0 0] 30)).1 yA2.out.hi) (yB.out.below (alloc_keep wB7 (.cells #[.int .i64 0, .slice none 0 0] 30)).1 yB.out.hi)).mono ?_; rw [← Rn.out, ← Rl.out, ← R1.out]; rintro e wC7 ⟨vw, rfl, ho, hb⟩; obtain ⟨bw, cw, rfl⟩ := ho.form; have oo := Lib.hid (ho.inF hb.size); clear ho; have tC := Lib.hid (tB.out.trans (Below.mono (below_al (Nat.le_refl _) hb) tB.out.size)); have zC := Lib.hid (Zo.new (W := w4) (w := wB7) tB.out.size hb); have sC := (Below.size (below_al (Nat.le_refl _) hb)); clear hb; (try (obtain ⟨zl, z0, z1, z2, z3⟩ := (zC.out _ rfl).1)); obtain ⟨ft0, fa0, fb0⟩ := Q6f0.out.keep tC.out; obtain ⟨ft1, fa1, fb1⟩ := Q6f1.out.keep tC.out))
    all_goals (try go_wp2_with fail)
    all_goals go_meet
    all_goals first | exact ⟨_, _, _, wB7.heap.size, _, rfl, rfl, (by first | omega | (have e : w4.drew.heap.size = w4.heap.size := rfl; omega) | (simp; omega) | simp), (by first | omega | (have e : w4.drew.heap.size = w4.heap.size := rfl; omega) | (simp; omega) | simp), Lib.hid (Pr.late (by first | omega | (have e : w4.drew.heap.size = w4.heap.size := rfl; omega) | (simp; omega) | simp) tC.out oo.out)⟩ | exact ⟨_, _, _, _, _, rfl, rfl, (zC.out _ rfl).2, (by first | omega | (have e : w4.drew.heap.size = w4.heap.size := rfl; omega) | (simp; omega) | simp), Lib.hid (Pr.early (zC.out _ rfl).2 (by first | omega | (have e : w4.drew.heap.size = w4.heap.size := rfl; omega) | (simp; omega) | simp) tC.out (zC.out _ rfl).1 oo.out)⟩
  case rest =>
  rename World => wz7
  obtain ⟨bw, aw, cw, low, hiw, rfl, rfl, qb7, ql7, hpr⟩ := hcut
  have hb := hpr.out.1
  have hq := Lib.hid hpr.out.2.1
  have oo := Lib.hid hpr.out.2.2
  have qh7 := hpr.out.2.2.hi
  have qx7 := hpr.out.2.1.1
  clear hpr ca0 cb0 ca1 cb1 lt0 lt1
  have z8 : w4.heap.size ≤ wz7.heap.size := hb.size
  have B8 : Below W0.heap.size W0 wz7 := B5.trans (hb.mono B5.size)
  have Q9f0 := Lib.hid (Q6f0.out.keep hb)
  have Q9f1 := Lib.hid (Q6f1.out.keep hb)
  clear Q6f0 Q6f1
  clear hb
  have Q7bw := Lib.hid hq.out
  clear hq
  have O7pw := Lib.hid oo.out
  clear oo
  have y11 : W0.heap.size ≤ wz7.heap.size := B8.size
  obtain ⟨lt0, ca0, cb0⟩ := Q9f0.out
  go_wp2_with fail
  clear lt0 ca0 cb0
  have y12 : W0.heap.size ≤ wz7.heap.size := B8.size
  refine (toFrame_any n0 x0 _ _ _ _ hl0 (K0.out.keep B8 (Nat.le_refl _))).mono ?_
  rintro e w10 ⟨vx0, rfl, ho, hb⟩
  obtain ⟨bx0, cx0, rfl⟩ := ho.form
  have oo := Lib.hid (ho.inF hb.size)
  clear ho
  have z13 : wz7.heap.size ≤ w10.heap.size := hb.size
  have B13 : Below W0.heap.size W0 w10 := B8.trans (hb.mono B8.size)
  have O14w := Lib.hid (O7pw.out.below hb O7pw.out.hi)
  have Q14f0 := Lib.hid (Q9f0.out.keep hb)
  have Q14f1 := Lib.hid (Q9f1.out.keep hb)
  have Q14w := Lib.hid (Q7bw.out.keep hb)
  clear O7pw Q9f0 Q9f1 Q7bw
  clear hb
  have O15x0 := Lib.hid oo.out
  clear oo
  have y17 : W0.heap.size ≤ w10.heap.size := B13.size
  obtain ⟨lt0, ca0, cb0⟩ := Q14f1.out
  go_wp2_with fail
  clear lt0 ca0 cb0
  obtain ⟨wb18, hwb18⟩ : ∃ W, W = w10.alloc (.cells #[.int .i64 n0, .slice bx0 x0.length cx0] 30) := ⟨_, rfl⟩
  rw [← hwb18]
  have hq := Lib.hid (show Bx wb18 w10.heap.size (n0) bx0 (x0.length) cx0 by rw [hwb18]; exact Bx.new _ _ _ _ _ _)
  obtain ⟨hb, hsz⟩ : Below w10.heap.size w10 wb18 ∧ w10.heap.size + 1 ≤ wb18.heap.size := by rw [hwb18]; exact alloc_keep _ _
  clear hwb18
  have z19 : w10.heap.size + 1 ≤ wb18.heap.size := hsz
  have B19 : Below W0.heap.size W0 wb18 := B13.trans (hb.mono B13.size)
  have O20w := Lib.hid (O14w.out.below hb O14w.out.hi)
  have O20x0 := Lib.hid (O15x0.out.below hb O15x0.out.hi)
  have Q20f0 := Lib.hid (Q14f0.out.keep hb)
  have Q20f1 := Lib.hid (Q14f1.out.keep hb)
  have Q20w := Lib.hid (Q14w.out.keep hb)
  clear O14w O15x0 Q14f0 Q14f1 Q14w
  clear hb
  clear hsz
  have Q18bx0 := Lib.hid hq.out
  clear hq
  have y21 : W0.heap.size ≤ wb18.heap.size := B19.size
  refine (toFrame_any n1 x1 _ _ _ _ hl1 (K1.out.keep B19 (Nat.le_refl _))).mono ?_
  rintro e w16 ⟨vx1, rfl, ho, hb⟩
  obtain ⟨bx1, cx1, rfl⟩ := ho.form
  have oo := Lib.hid (ho.inF hb.size)
  clear ho
  have z22 : wb18.heap.size ≤ w16.heap.size := hb.size
  have B22 : Below W0.heap.size W0 w16 := B19.trans (hb.mono B19.size)
  have O23w := Lib.hid (O20w.out.below hb O20w.out.hi)
  have O23x0 := Lib.hid (O20x0.out.below hb O20x0.out.hi)
  have Q23f0 := Lib.hid (Q20f0.out.keep hb)
  have Q23f1 := Lib.hid (Q20f1.out.keep hb)
  have Q23w := Lib.hid (Q20w.out.keep hb)
  have Q23x0 := Lib.hid (Q18bx0.out.keep hb)
  clear O20w O20x0 Q20f0 Q20f1 Q20w Q18bx0
  clear hb
  have O24x1 := Lib.hid oo.out
  clear oo
  obtain ⟨lt0, ca0, cb0⟩ := Q23x0.out
  go_wp2_with fail
  clear lt0 ca0 cb0
  obtain ⟨wb26, hwb26⟩ : ∃ W, W = w16.alloc (.cells #[.int .i64 n1, .slice bx1 x1.length cx1] 30) := ⟨_, rfl⟩
  rw [← hwb26]
  have hq := Lib.hid (show Bx wb26 w16.heap.size (n1) bx1 (x1.length) cx1 by rw [hwb26]; exact Bx.new _ _ _ _ _ _)
  obtain ⟨hb, hsz⟩ : Below w16.heap.size w16 wb26 ∧ w16.heap.size + 1 ≤ wb26.heap.size := by rw [hwb26]; exact alloc_keep _ _
  clear hwb26
  have z27 : w16.heap.size + 1 ≤ wb26.heap.size := hsz
  have B27 : Below W0.heap.size W0 wb26 := B22.trans (hb.mono B22.size)
  have O28w := Lib.hid (O23w.out.below hb O23w.out.hi)
  have O28x0 := Lib.hid (O23x0.out.below hb O23x0.out.hi)
  have O28x1 := Lib.hid (O24x1.out.below hb O24x1.out.hi)
  have Q28f0 := Lib.hid (Q23f0.out.keep hb)
  have Q28f1 := Lib.hid (Q23f1.out.keep hb)
  have Q28w := Lib.hid (Q23w.out.keep hb)
  have Q28x0 := Lib.hid (Q23x0.out.keep hb)
  clear O23w O23x0 O24x1 Q23f0 Q23f1 Q23w Q23x0
  clear hb
  clear hsz
  have Q26bx1 := Lib.hid hq.out
  clear hq
  have y29 : W0.heap.size ≤ wb26.heap.size := B27.size
  refine (implSumFrames_v n0 x0 n1 x1 _ _ _ _ _ _ _ hl0 hl1 O28x0.out O28x1.out).mono ?_
  rw [← Rn.out, ← Rl.out, ← R1.out]
  rintro e w25 ⟨vg, rfl, ho, hb⟩
  obtain ⟨bg, cg, rfl⟩ := ho.form
  have oo := Lib.hid (ho.inF hb.size)
  clear ho
  have z30 : wb26.heap.size ≤ w25.heap.size := hb.size
  have B30 : Below W0.heap.size W0 w25 := B27.trans (hb.mono B27.size)
  have O31w := Lib.hid (O28w.out.below hb O28w.out.hi)
  have O31x0 := Lib.hid (O28x0.out.below hb O28x0.out.hi)
  have O31x1 := Lib.hid (O28x1.out.below hb O28x1.out.hi)
  have Q31f0 := Lib.hid (Q28f0.out.keep hb)
  have Q31f1 := Lib.hid (Q28f1.out.keep hb)
  have Q31w := Lib.hid (Q28w.out.keep hb)
  have Q31x0 := Lib.hid (Q28x0.out.keep hb)
  have Q31x1 := Lib.hid (Q26bx1.out.keep hb)
  clear O28w O28x0 O28x1 Q28f0 Q28f1 Q28w Q28x0 Q26bx1
  clear hb
  have O32g := Lib.hid oo.out
  clear oo
  obtain ⟨lt0, ca0, cb0⟩ := Q31w.out
  go_wp2_with fail
  clear lt0 ca0 cb0
  obtain ⟨wb34, hwb34⟩ : ∃ W, W = w25.alloc (.cells #[.int .i64 rn, .slice bg rl.length cg] 30) := ⟨_, rfl⟩
  rw [← hwb34]
  have hq := Lib.hid (show Bx wb34 w25.heap.size (rn) bg (rl.length) cg by rw [hwb34]; exact Bx.new _ _ _ _ _ _)
  obtain ⟨hb, hsz⟩ : Below w25.heap.size w25 wb34 ∧ w25.heap.size + 1 ≤ wb34.heap.size := by rw [hwb34]; exact alloc_keep _ _
  clear hwb34
  have z35 : w25.heap.size + 1 ≤ wb34.heap.size := hsz
  have B35 : Below W0.heap.size W0 wb34 := B30.trans (hb.mono B30.size)
  have O36w := Lib.hid (O31w.out.below hb O31w.out.hi)
  have O36x0 := Lib.hid (O31x0.out.below hb O31x0.out.hi)
  have O36x1 := Lib.hid (O31x1.out.below hb O31x1.out.hi)
  have O36g := Lib.hid (O32g.out.below hb O32g.out.hi)
  have Q36f0 := Lib.hid (Q31f0.out.keep hb)
  have Q36f1 := Lib.hid (Q31f1.out.keep hb)
  have Q36w := Lib.hid (Q31w.out.keep hb)
  have Q36x0 := Lib.hid (Q31x0.out.keep hb)
  have Q36x1 := Lib.hid (Q31x1.out.keep hb)
  clear O31w O31x0 O31x1 O32g Q31f0 Q31f1 Q31w Q31x0 Q31x1
  clear hb
  clear hsz
  have Q34bg := Lib.hid hq.out
  clear hq
  refine (eqF_in rn rl _ _ _ _ _ _ _ hly O36g.out O36w.out).mono ?_
  rintro e w33 ⟨rfl, hb⟩
  have z37 : wb34.heap.size ≤ w33.heap.size := hb.size
  have B37 : Below W0.heap.size W0 w33 := B35.trans (hb.mono B35.size)
  have O38w := Lib.hid (O36w.out.below hb O36w.out.hi)
  have O38x0 := Lib.hid (O36x0.out.below hb O36x0.out.hi)
  have O38x1 := Lib.hid (O36x1.out.below hb O36x1.out.hi)
  have O38g := Lib.hid (O36g.out.below hb O36g.out.hi)
  have Q38f0 := Lib.hid (Q36f0.out.keep hb)
  have Q38f1 := Lib.hid (Q36f1.out.keep hb)
  have Q38w := Lib.hid (Q36w.out.keep hb)
  have Q38x0 := Lib.hid (Q36x0.out.keep hb)
  have Q38x1 := Lib.hid (Q36x1.out.keep hb)
  have Q38g := Lib.hid (Q34bg.out.keep hb)
  clear O36w O36x0 O36x1 O36g Q36f0 Q36f1 Q36w Q36x0 Q36x1 Q34bg
  clear hb
  obtain ⟨lt0, ca0, cb0⟩ := Q38f0.out
  obtain ⟨lt1, ca1, cb1⟩ := Q38x0.out
  go_wp2
  go_region_held3 (fun w' => w'.cell? ⟨w.heap.size, 0, none⟩ = some (.int .i64 n0) ∧ w'.cell? ⟨w.heap.size, 1, none⟩ = some (.slice a0 x0.length cap0) ∧ w'.cell? ⟨w10.heap.size, 0, none⟩ = some (.int .i64 (n0)) ∧ w'.cell? ⟨w10.heap.size, 1, none⟩ = some (.slice bx0 (x0.length) cx0)) (first | exact ⟨ca0, cb0, ca1, cb1⟩ | exact ⟨da0, db0, da1, db1⟩ | exact ⟨ea0, eb0, ea1, eb1⟩ | go_keep) (first | (go_at_call 51; refine (toFrame_any n0 x0 _ _ _ _ hl0 (K0.out.keep B37 (Nat.le_refl _)).drw).mono ?_; rintro e w39 ⟨vy, rfl, ho, hb⟩; obtain ⟨by39, cy39, rfl⟩ := ho.form; have yy := Lib.hid (ho.inF hb.size); clear ho; have tt := Lib.hid (below_of_drew hb); clear hb; obtain ⟨mt0, da0, db0⟩ := Q38f0.out.keep tt.out; obtain ⟨mt1, da1, db1⟩ := Q38x0.out.keep tt.out) | (go_at_call 53; refine (eqF_in n0 x0 _ _ _ _ _ _ _ hl0 (O38x0.out.below tt.out O38x0.out.hi) yy.out).mono ?_; rintro e w39' ⟨rfl, hb⟩; have uu := Lib.hid (tt.out.trans (hb.mono tt.out.size)); clear hb; obtain ⟨nt0, ea0, eb0⟩ := Q38f0.out.keep uu.out; obtain ⟨nt1, ea1, eb1⟩ := Q38x0.out.keep uu.out))
  clear lt0 ca0 cb0 lt1 ca1 cb1 mt0 da0 db0 mt1 da1 db1 nt0 ea0 eb0 nt1 ea1 eb1 yy tt
  have hb := uu.out
  clear uu
  have z40 : w33.heap.size ≤ w39'.heap.size := hb.size
  have B40 : Below W0.heap.size W0 w39' := B37.trans (hb.mono B37.size)
  have O41w := Lib.hid (O38w.out.below hb O38w.out.hi)
  have O41x0 := Lib.hid (O38x0.out.below hb O38x0.out.hi)
  have O41x1 := Lib.hid (O38x1.out.below hb O38x1.out.hi)
  have O41g := Lib.hid (O38g.out.below hb O38g.out.hi)
  have Q41f0 := Lib.hid (Q38f0.out.keep hb)
  have Q41f1 := Lib.hid (Q38f1.out.keep hb)
  have Q41w := Lib.hid (Q38w.out.keep hb)
  have Q41x0 := Lib.hid (Q38x0.out.keep hb)
  have Q41x1 := Lib.hid (Q38x1.out.keep hb)
  have Q41g := Lib.hid (Q38g.out.keep hb)
  clear O38w O38x0 O38x1 O38g Q38f0 Q38f1 Q38w Q38x0 Q38x1 Q38g
  clear hb
  obtain ⟨lt0, ca0, cb0⟩ := Q41f1.out
  obtain ⟨lt1, ca1, cb1⟩ := Q41x1.out
  go_wp2
  go_region_held3 (fun w' => w'.cell? ⟨w.heap.size + 1, 0, none⟩ = some (.int .i64 n1) ∧ w'.cell? ⟨w.heap.size + 1, 1, none⟩ = some (.slice a1 x1.length cap1) ∧ w'.cell? ⟨w16.heap.size, 0, none⟩ = some (.int .i64 (n1)) ∧ w'.cell? ⟨w16.heap.size, 1, none⟩ = some (.slice bx1 (x1.length) cx1)) (first | exact ⟨ca0, cb0, ca1, cb1⟩ | exact ⟨da0, db0, da1, db1⟩ | exact ⟨ea0, eb0, ea1, eb1⟩ | go_keep) (first | (go_at_call 51; refine (toFrame_any n1 x1 _ _ _ _ hl1 (K1.out.keep B40 (Nat.le_refl _)).drw).mono ?_; rintro e w42 ⟨vy, rfl, ho, hb⟩; obtain ⟨by42, cy42, rfl⟩ := ho.form; have yy := Lib.hid (ho.inF hb.size); clear ho; have tt := Lib.hid (below_of_drew hb); clear hb; obtain ⟨mt0, da0, db0⟩ := Q41f1.out.keep tt.out; obtain ⟨mt1, da1, db1⟩ := Q41x1.out.keep tt.out) | (go_at_call 53; refine (eqF_in n1 x1 _ _ _ _ _ _ _ hl1 (O41x1.out.below tt.out O41x1.out.hi) yy.out).mono ?_; rintro e w42' ⟨rfl, hb⟩; have uu := Lib.hid (tt.out.trans (hb.mono tt.out.size)); clear hb; obtain ⟨nt0, ea0, eb0⟩ := Q41f1.out.keep uu.out; obtain ⟨nt1, ea1, eb1⟩ := Q41x1.out.keep uu.out))
  clear lt0 ca0 cb0 lt1 ca1 cb1 mt0 da0 db0 mt1 da1 db1 nt0 ea0 eb0 nt1 ea1 eb1 yy tt
  have hb := uu.out
  clear uu
  have z43 : w39'.heap.size ≤ w42'.heap.size := hb.size
  have B43 : Below W0.heap.size W0 w42' := B40.trans (hb.mono B40.size)
  have O44w := Lib.hid (O41w.out.below hb O41w.out.hi)
  have O44x0 := Lib.hid (O41x0.out.below hb O41x0.out.hi)
  have O44x1 := Lib.hid (O41x1.out.below hb O41x1.out.hi)
  have O44g := Lib.hid (O41g.out.below hb O41g.out.hi)
  have Q44f0 := Lib.hid (Q41f0.out.keep hb)
  have Q44f1 := Lib.hid (Q41f1.out.keep hb)
  have Q44w := Lib.hid (Q41w.out.keep hb)
  have Q44x0 := Lib.hid (Q41x0.out.keep hb)
  have Q44x1 := Lib.hid (Q41x1.out.keep hb)
  have Q44g := Lib.hid (Q41g.out.keep hb)
  clear O41w O41x0 O41x1 O41g Q41f0 Q41f1 Q41w Q41x0 Q41x1 Q41g
  clear hb
  obtain ⟨lt0, ca0, cb0⟩ := Q44x0.out
  go_wp2_with fail
  clear lt0 ca0 cb0
  refine (markF_in n0 x0 _ _ _ _ _ hl0 (by omega) (by omega) O44x0.out).mono ?_
  rintro e w45 ⟨rfl, om, hb, hg⟩
  have z45 := hb.size
  have B45 : Below W0.heap.size W0 w45 := B43.trans (hb.mono y12)
  have O46w := Lib.hid (O44w.out.oth O44x0.out.blk hg (by omega))
  have O46x1 := Lib.hid (O44x1.out.oth O44x0.out.blk hg (by omega))
  have O46g := Lib.hid (O44g.out.oth O44x0.out.blk hg (by omega))
  have Q46f0 := Lib.hid (Q44f0.out.oth O44x0.out.blk hg (by omega))
  have Q46f1 := Lib.hid (Q44f1.out.oth O44x0.out.blk hg (by omega))
  have Q46w := Lib.hid (Q44w.out.oth O44x0.out.blk hg (by omega))
  have Q46x0 := Lib.hid (Q44x0.out.oth O44x0.out.blk hg (by omega))
  have Q46x1 := Lib.hid (Q44x1.out.oth O44x0.out.blk hg (by omega))
  have Q46g := Lib.hid (Q44g.out.oth O44x0.out.blk hg (by omega))
  clear O44w O44x1 O44g Q44f0 Q44f1 Q44w Q44x0 Q44x1 Q44g
  have O45x0 := Lib.hid om
  clear hb hg om O44x0
  obtain ⟨lt0, ca0, cb0⟩ := Q46x1.out
  go_wp2_with fail
  clear lt0 ca0 cb0
  refine (markF_in n1 x1 _ _ _ _ _ hl1 (by omega) (by omega) O46x1.out).mono ?_
  rintro e w47 ⟨rfl, om, hb, hg⟩
  have z47 := hb.size
  have B47 : Below W0.heap.size W0 w47 := B45.trans (hb.mono y21)
  have O48w := Lib.hid (O46w.out.oth O46x1.out.blk hg (by omega))
  have O48g := Lib.hid (O46g.out.oth O46x1.out.blk hg (by omega))
  have O48x0 := Lib.hid (O45x0.out.oth O46x1.out.blk hg (by omega))
  have Q48f0 := Lib.hid (Q46f0.out.oth O46x1.out.blk hg (by omega))
  have Q48f1 := Lib.hid (Q46f1.out.oth O46x1.out.blk hg (by omega))
  have Q48w := Lib.hid (Q46w.out.oth O46x1.out.blk hg (by omega))
  have Q48x0 := Lib.hid (Q46x0.out.oth O46x1.out.blk hg (by omega))
  have Q48x1 := Lib.hid (Q46x1.out.oth O46x1.out.blk hg (by omega))
  have Q48g := Lib.hid (Q46g.out.oth O46x1.out.blk hg (by omega))
  clear O46w O46g O45x0 Q46f0 Q46f1 Q46w Q46x0 Q46x1 Q46g
  have O47x1 := Lib.hid om
  clear hb hg om O46x1
  clear O48x0
  clear Q48x0
  clear O47x1
  clear Q48x1
  obtain ⟨lt0, ca0, cb0⟩ := Q48w.out
  obtain ⟨lt1, ca1, cb1⟩ := Q48g.out
  go_wp2_with fail
  clear lt0 ca0 cb0 lt1 ca1 cb1
  refine (eqF_in rn rl _ _ _ _ _ _ _ hly O48g.out O48w.out).mono ?_
  rintro e w49 ⟨rfl, hb⟩
  have z50 : w47.heap.size ≤ w49.heap.size := hb.size
  have B50 : Below W0.heap.size W0 w49 := B47.trans (hb.mono B47.size)
  have O51w := Lib.hid (O48w.out.below hb O48w.out.hi)
  have O51g := Lib.hid (O48g.out.below hb O48g.out.hi)
  have Q51f0 := Lib.hid (Q48f0.out.keep hb)
  have Q51f1 := Lib.hid (Q48f1.out.keep hb)
  have Q51w := Lib.hid (Q48w.out.keep hb)
  have Q51g := Lib.hid (Q48g.out.keep hb)
  clear O48w O48g Q48f0 Q48f1 Q48w Q48g
  clear hb
  obtain ⟨lt0, ca0, cb0⟩ := Q51g.out
  go_wp2_with fail
  clear lt0 ca0 cb0
  refine (markF_in rn rl _ _ _ _ _ hly (by omega) (by omega) O51g.out).mono ?_
  rintro e w52 ⟨rfl, om, hb, hg⟩
  have z52 := hb.size
  have B52 : Below W0.heap.size W0 w52 := B50.trans (hb.mono y29)
  have O53w := Lib.hid (O51w.out.oth O51g.out.blk hg (by omega))
  have Q53f0 := Lib.hid (Q51f0.out.oth O51g.out.blk hg (by omega))
  have Q53f1 := Lib.hid (Q51f1.out.oth O51g.out.blk hg (by omega))
  have Q53w := Lib.hid (Q51w.out.oth O51g.out.blk hg (by omega))
  have Q53g := Lib.hid (Q51g.out.oth O51g.out.blk hg (by omega))
  clear O51w Q51f0 Q51f1 Q51w Q51g
  have O52g := Lib.hid om
  clear hb hg om O51g
  obtain ⟨lt0, ca0, cb0⟩ := Q53g.out
  go_wp2_with fail
  clear lt0 ca0 cb0
  refine (heldF_in rl.length _ _ _ _ _ hly (by omega) (by omega) O52g.out).mono ?_
  rintro e w54 ⟨rfl, hb⟩
  have z55 : w52.heap.size ≤ w54.heap.size := hb.size
  have B55 : Below W0.heap.size W0 w54 := B52.trans (hb.mono B52.size)
  have O56w := Lib.hid (O53w.out.below hb O53w.out.hi)
  have O56g := Lib.hid (O52g.out.below hb O52g.out.hi)
  have Q56f0 := Lib.hid (Q53f0.out.keep hb)
  have Q56f1 := Lib.hid (Q53f1.out.keep hb)
  have Q56w := Lib.hid (Q53w.out.keep hb)
  have Q56g := Lib.hid (Q53g.out.keep hb)
  clear O53w O52g Q53f0 Q53f1 Q53w Q53g
  clear hb
  obtain ⟨lt0, ca0, cb0⟩ := Q56f0.out
  obtain ⟨lt1, ca1, cb1⟩ := Q56f1.out
  have zw := B55.size
  go_wp2
  go_cut [15, 16] (fun s1 s2 wx => ∃ (b : Nat) (a : Option Addr) (c lo hi : Nat), s1 = .pointer (some ⟨b, 0, none⟩) ∧ s2 = .int .i64 r1 ∧ w54.heap.size ≤ b ∧ w54.heap.size ≤ lo ∧ Hid (Pr w54 wx b lo hi rn a rl.length c rl))
  case first =>
    go_region_held3 (fun w' => w'.cell? ⟨w.heap.size, 0, none⟩ = some (.int .i64 n0) ∧ w'.cell? ⟨w.heap.size, 1, none⟩ = some (.slice a0 x0.length cap0) ∧ w'.cell? ⟨w.heap.size + 1, 0, none⟩ = some (.int .i64 n1) ∧ w'.cell? ⟨w.heap.size + 1, 1, none⟩ = some (.slice a1 x1.length cap1)) (first | exact ⟨ca0, cb0, ca1, cb1⟩ | exact ⟨da0, db0, da1, db1⟩ | exact ⟨ea0, eb0, ea1, eb1⟩ | exact ⟨fa0, fb0, fa1, fb1⟩ | exact ⟨two_set fa0 (by first | omega | (have e : w54.drew.heap.size = w54.heap.size := rfl; omega)), two_set fb0 (by first | omega | (have e : w54.drew.heap.size = w54.heap.size := rfl; omega)), two_set fa1 (by first | omega | (have e : w54.drew.heap.size = w54.heap.size := rfl; omega)), two_set fb1 (by first | omega | (have e : w54.drew.heap.size = w54.heap.size := rfl; omega))⟩ | go_keep | (refine ⟨?_, ?_, ?_, ?_⟩ <;> simp [*])) (first | (go_at_call_of 51 cap0; have ZZ := (K0.out.keep B55 (Nat.le_refl _)).drw; refine (toFrame_any n0 x0 _ _ _ _ hl0 ZZ).mono ?_; clear ZZ; rintro e wA57 ⟨vA, rfl, ho, hb⟩; obtain ⟨bA57, cA57, rfl⟩ := ho.form; have yA := Lib.hid (ho.inF hb.size); clear ho; have tA := Lib.hid (below_of_drew hb); have zA := Lib.hid (Zo.no wA57 w54); have sA := tA.out.size; clear hb; obtain ⟨dt0, da0, db0⟩ := Q56f0.out.keep tA.out; obtain ⟨dt1, da1, db1⟩ := Q56f1.out.keep tA.out) | (go_at_call_of 51 cap0; have ZZ := (((K0.out.keep B55 (Nat.le_refl _)).drw).keep (alloc_keep w54.drew (.cells #[.int .i64 0, .slice none 0 0] 30)).1 (Nat.le_refl _)); refine (toFrame_any n0 x0 _ _ _ _ hl0 ZZ).mono ?_; clear ZZ; rintro e wA57 ⟨vA, rfl, ho, hb⟩; obtain ⟨bA57, cA57, rfl⟩ := ho.form; have yA := Lib.hid (ho.inF hb.size); clear ho; have tA := Lib.hid (below_of_drew (below_al (Nat.le_refl _) hb)); have zA := Lib.hid (show Zo wA57 w54 (some w54.heap.size) from Zo.new (W := w54) (w := w54.drew) (Nat.le_refl _) hb); have sA := tA.out.size; have sA2 : w54.heap.size + 1 ≤ wA57.heap.size := (by have q := hb.size; simpa using q); clear hb; obtain ⟨dt0, da0, db0⟩ := Q56f0.out.keep tA.out; obtain ⟨dt1, da1, db1⟩ := Q56f1.out.keep tA.out) | (go_at_call_of 51 cap1; have ZZ := K1.out.keep (B55.trans (tA.out.mono B55.size)) (Nat.le_refl _); refine (toFrame_any n1 x1 _ _ _ _ hl1 ZZ).mono ?_; clear ZZ; rintro e wB57 ⟨vB, rfl, ho, hb⟩; obtain ⟨bB57, cB57, rfl⟩ := ho.form; have yB := Lib.hid (ho.inF hb.size); clear ho; have yA2 := Lib.hid (yA.out.below hb yA.out.hi); have tB := Lib.hid (tA.out.trans (Below.mono hb tA.out.size)); have zB := Lib.hid (zA.out.keep hb); have sB := (Below.size hb); clear hb; obtain ⟨et0, ea0, eb0⟩ := Q56f0.out.keep tB.out; obtain ⟨et1, ea1, eb1⟩ := Q56f1.out.keep tB.out) | (go_at_call_of 51 cap1; have ZZ := (K1.out.keep (B55.trans (tA.out.mono B55.size)) (Nat.le_refl _)).keep (alloc_keep wA57 (.cells #[.int .i64 0, .slice none 0 0] 30)).1 (Nat.le_refl _); refine (toFrame_any n1 x1 _ _ _ _ hl1 ZZ).mono ?_; clear ZZ; rintro e wB57 ⟨vB, rfl, ho, hb⟩; obtain ⟨bB57, cB57, rfl⟩ := ho.form; have yB := Lib.hid (ho.inF hb.size); clear ho; have yA2 := Lib.hid (yA.out.below (below_al (Nat.le_refl _) hb) yA.out.hi); have tB := Lib.hid (tA.out.trans (Below.mono (below_al (Nat.le_refl _) hb) tA.out.size)); have zB := Lib.hid (Zo.new (W := w54) (w := wA57) tA.out.size hb); have sB := (Below.size (below_al (Nat.le_refl _) hb)); have sB2 : wA57.heap.size + 1 ≤ wB57.heap.size := (by have q := hb.size; simpa using q); clear hb; obtain ⟨et0, ea0, eb0⟩ := Q56f0.out.keep tB.out; obtain ⟨et1, ea1, eb1⟩ := Q56f1.out.keep tB.out) | (go_at_call 52; refine (implSumFrames_v n0 x0 n1 x1 _ _ _ _ _ _ _ hl0 hl1 yA2.out yB.out).mono ?_; rw [← Rn.out, ← Rl.out, ← R1.out]; rintro e wC57 ⟨vh, rfl, ho, hb⟩; obtain ⟨bh, ch, rfl⟩ := ho.form; have oo := Lib.hid (ho.inF hb.size); clear ho; have tC := Lib.hid (tB.out.trans (Below.mono hb tB.out.size)); have zC := Lib.hid (zB.out.keep hb); have sC := (Below.size hb); clear hb; (try (obtain ⟨zl, z0, z1, z2, z3⟩ := (zC.out _ rfl).1)); obtain ⟨ft0, fa0, fb0⟩ := Q56f0.out.keep tC.out; obtain ⟨ft1, fa1, fb1⟩ := Q56f1.out.keep tC.out) | (go_at_call 52; refine (implSumFrames_v n0 x0 n1 x1 _ _ _ _ _ _ _ hl0 hl1 (yA2.out.below (alloc_keep wB57 (.cells #[.int .i64 0, .slice none 0 0] 30)).1 yA2.out.hi) (yB.out.below (alloc_keep wB57 (.cells #[.int .i64 0, .slice none 0 0] 30)).1 yB.out.hi)).mono ?_; rw [← Rn.out, ← Rl.out, ← R1.out]; rintro e wC57 ⟨vh, rfl, ho, hb⟩; obtain ⟨bh, ch, rfl⟩ := ho.form; have oo := Lib.hid (ho.inF hb.size); clear ho; have tC := Lib.hid (tB.out.trans (Below.mono (below_al (Nat.le_refl _) hb) tB.out.size)); have zC := Lib.hid (Zo.new (W := w54) (w := wB57) tB.out.size hb); have sC := (Below.size (below_al (Nat.le_refl _) hb)); clear hb; (try (obtain ⟨zl, z0, z1, z2, z3⟩ := (zC.out _ rfl).1)); obtain ⟨ft0, fa0, fb0⟩ := Q56f0.out.keep tC.out; obtain ⟨ft1, fa1, fb1⟩ := Q56f1.out.keep tC.out))
    all_goals (try go_wp2_with fail)
    all_goals go_meet
    all_goals first | exact ⟨_, _, _, wB57.heap.size, _, rfl, rfl, (by first | omega | (have e : w54.drew.heap.size = w54.heap.size := rfl; omega) | (simp; omega) | simp), (by first | omega | (have e : w54.drew.heap.size = w54.heap.size := rfl; omega) | (simp; omega) | simp), Lib.hid (Pr.late (by first | omega | (have e : w54.drew.heap.size = w54.heap.size := rfl; omega) | (simp; omega) | simp) tC.out oo.out)⟩ | exact ⟨_, _, _, _, _, rfl, rfl, (zC.out _ rfl).2, (by first | omega | (have e : w54.drew.heap.size = w54.heap.size := rfl; omega) | (simp; omega) | simp), Lib.hid (Pr.early (zC.out _ rfl).2 (by first | omega | (have e : w54.drew.heap.size = w54.heap.size := rfl; omega) | (simp; omega) | simp) tC.out (zC.out _ rfl).1 oo.out)⟩
  case rest =>
  rename World => wz57
  obtain ⟨bh, ah, ch, loh, hih, rfl, rfl, qb57, ql57, hpr⟩ := hcut
  have hb := hpr.out.1
  have hq := Lib.hid hpr.out.2.1
  have oo := Lib.hid hpr.out.2.2
  have qh57 := hpr.out.2.2.hi
  have qx57 := hpr.out.2.1.1
  clear hpr ca0 cb0 ca1 cb1 lt0 lt1
  have z58 : w54.heap.size ≤ wz57.heap.size := hb.size
  have B58 : Below W0.heap.size W0 wz57 := B55.trans (hb.mono B55.size)
  have O59w := Lib.hid (O56w.out.below hb O56w.out.hi)
  have O59g := Lib.hid (O56g.out.below hb O56g.out.hi)
  have Q59f0 := Lib.hid (Q56f0.out.keep hb)
  have Q59f1 := Lib.hid (Q56f1.out.keep hb)
  have Q59w := Lib.hid (Q56w.out.keep hb)
  have Q59g := Lib.hid (Q56g.out.keep hb)
  clear O56w O56g Q56f0 Q56f1 Q56w Q56g
  clear hb
  have Q57bh := Lib.hid hq.out
  clear hq
  have O57ph := Lib.hid oo.out
  clear oo
  obtain ⟨lt0, ca0, cb0⟩ := Q59w.out
  obtain ⟨lt1, ca1, cb1⟩ := Q57bh.out
  go_wp2_with fail
  clear lt0 ca0 cb0 lt1 ca1 cb1
  refine (eqF_in rn rl _ _ _ _ _ _ _ hly O57ph.out O59w.out).mono ?_
  rintro e w60 ⟨rfl, hb⟩
  have z61 : wz57.heap.size ≤ w60.heap.size := hb.size
  have B61 : Below W0.heap.size W0 w60 := B58.trans (hb.mono B58.size)
  have O62w := Lib.hid (O59w.out.below hb O59w.out.hi)
  have O62g := Lib.hid (O59g.out.below hb O59g.out.hi)
  have O62h := Lib.hid (O57ph.out.below hb O57ph.out.hi)
  have Q62f0 := Lib.hid (Q59f0.out.keep hb)
  have Q62f1 := Lib.hid (Q59f1.out.keep hb)
  have Q62w := Lib.hid (Q59w.out.keep hb)
  have Q62g := Lib.hid (Q59g.out.keep hb)
  have Q62h := Lib.hid (Q57bh.out.keep hb)
  clear O59w O59g O57ph Q59f0 Q59f1 Q59w Q59g Q57bh
  clear hb
  clear O62h
  clear O62w
  obtain ⟨lt0, ca0, cb0⟩ := Q62g.out
  go_wp2_with fail
  clear lt0 ca0 cb0
  refine (heldF_in rl.length _ _ _ _ _ hly (by omega) (by omega) O62g.out).mono ?_
  rintro e w63 ⟨rfl, hb⟩
  have z64 : w60.heap.size ≤ w63.heap.size := hb.size
  have B64 : Below W0.heap.size W0 w63 := B61.trans (hb.mono B61.size)
  have O65g := Lib.hid (O62g.out.below hb O62g.out.hi)
  have Q65f0 := Lib.hid (Q62f0.out.keep hb)
  have Q65f1 := Lib.hid (Q62f1.out.keep hb)
  have Q65w := Lib.hid (Q62w.out.keep hb)
  have Q65g := Lib.hid (Q62g.out.keep hb)
  have Q65h := Lib.hid (Q62h.out.keep hb)
  clear O62g Q62f0 Q62f1 Q62w Q62g Q62h
  clear hb
  go_wp2
  go_ret
  exact ⟨rfl, B0.trans (B64.mono B0.size)⟩

end Go.Proofs.Ythopleeehbkjaaa
