/- The walk of the law FnExactSumModels. Conditions: those in the theorems. -/
import Derived.Test.YthopleeehbkjaaaSmI
import Derived.Test.YthopleeehbkjaaaJn03
namespace Go.Proofs.Ythopleeehbkjaaa
open Go.RowKit

set_option maxHeartbeats 40000000 in
set_option maxRecDepth 100000 in
theorem lawSumModels (n0 : Int) (x0 y0 : List Int) (n1 : Int) (x1 y1 : List Int) (a0 : Option Addr) (len0 cap0 : Nat) (b0 : Option Addr) (m0 d0 : Nat) (a1 : Option Addr) (len1 cap1 : Nat) (b1 : Option Addr) (m1 d1 : Nat) (w : World) (h0 : IsMod w a0 len0 x0 b0 m0 y0) (h1 : IsMod w a1 len1 x1 b1 m1 y1) :
    Calls Try.prog 10 #[.agg #[.int .i64 n0, .slice a0 len0 cap0, .slice b0 m0 d0], .agg #[.int .i64 n1, .slice a1 len1 cap1, .slice b1 m1 d1]] w fun e w' => e = .returned (.bool true) ∧ Below w.heap.size w w' := by
  obtain rfl := h0.1.1.1
  obtain rfl := h0.2.1.1
  obtain rfl := h1.1.1.1
  obtain rfl := h1.2.1.1
  have ma0 := h0.1.2
  have mb0 := h0.2.2
  have HA0 := Lib.hid h0.1.1
  have HB0 := Lib.hid h0.2.1
  clear h0
  have ma1 := h1.1.2
  have mb1 := h1.2.2
  have HA1 := Lib.hid h1.1.1
  have HB1 := Lib.hid h1.2.1
  clear h1
  obtain ⟨rn, hrn⟩ : ∃ r, r = ((sdL n0 x0 y0 n1 x1 y1).length : Int) := ⟨_, rfl⟩
  obtain ⟨rl, hrl⟩ : ∃ r, r = sdL n0 x0 y0 n1 x1 y1 := ⟨_, rfl⟩
  obtain ⟨rm, hrm⟩ : ∃ r, r = sdV n0 x0 y0 n1 x1 y1 := ⟨_, rfl⟩
  obtain ⟨r1, hr1⟩ : ∃ r, r = sdC n0 x0 y0 n1 x1 y1 := ⟨_, rfl⟩
  have hly : rl.length ≤ 1048576 := by rw [hrl]; exact (SumModels_len n0 x0 y0 n1 x1 y1).1
  have hlz : rm.length ≤ 1048576 := by rw [hrm]; exact (SumModels_len n0 x0 y0 n1 x1 y1).2
  have Rn := Lib.hid hrn
  clear hrn
  have Rl := Lib.hid hrl
  clear hrl
  have Rm := Lib.hid hrm
  clear hrm
  have R1 := Lib.hid hr1
  clear hr1
  obtain ⟨W0, hW0⟩ : ∃ W0, W0 = ((w.alloc (.cells #[.int .i64 n0, .slice a0 x0.length cap0, .slice b0 y0.length d0] 26)).alloc (.cells #[.int .i64 n1, .slice a1 x1.length cap1, .slice b1 y1.length d1] 26)) := ⟨_, rfl⟩
  have B0 : Below w.heap.size w W0 := by rw [hW0]; exact (((Below.refl w.heap.size w).alloc (by simp) _).alloc (by simp) _)
  have Q0f0 := Lib.hid (show Bm W0 (w.heap.size) n0 a0 x0.length cap0 b0 y0.length d0 by rw [hW0]; exact ((Bm.new _ _ _ _ _ _ _ _ _).keep (alloc_keep _ _).1))
  have Q0f1 := Lib.hid (show Bm W0 (w.heap.size + 1) n1 a1 x1.length cap1 b1 y1.length d1 by rw [hW0]; have := Bm.new (w.alloc (.cells #[.int .i64 n0, .slice a0 x0.length cap0, .slice b0 y0.length d0] 26)) n1 a1 x1.length cap1 b1 y1.length d1 26; simpa using this)
  have zz : w.heap.size + 1 + 1 ≤ W0.heap.size := by rw [hW0]; simp
  have KA0 := Lib.hid (HA0.out.keep B0 (Nat.le_refl _))
  clear HA0
  have KB0 := Lib.hid (HB0.out.keep B0 (Nat.le_refl _))
  clear HB0
  have KA1 := Lib.hid (HA1.out.keep B0 (Nat.le_refl _))
  clear HA1
  have KB1 := Lib.hid (HB1.out.keep B0 (Nat.le_refl _))
  clear HB1
  have hWW := Lib.hid hW0
  clear hW0
  go_enter Try.func10, Try.ntmps10
  go_wp2_with fail
  refine (szModel_any n0 _ _ _ _ _ _ (1048576 : Int) _ ma0 mb0 (by omega) (by omega)).mono ?_
  obtain ⟨s0, hs0⟩ : ∃ s, s = szM (1048576 : Int) x0.length y0.length := ⟨_, rfl⟩
  have hz0 := szM_or (1048576 : Int) x0.length y0.length
  rw [← hs0] at hz0 ⊢
  clear hs0
  rintro e w1 ⟨rfl, hb⟩
  rw [← hWW.out] at hb
  have z2 : W0.heap.size ≤ w1.heap.size := hb.size
  have B2 : Below W0.heap.size W0 w1 := (Below.refl W0.heap.size W0).trans (hb.mono (Below.refl W0.heap.size W0).size)
  have Q3f0 := Lib.hid (Q0f0.out.keep hb)
  have Q3f1 := Lib.hid (Q0f1.out.keep hb)
  clear Q0f0 Q0f1
  clear hb
  rcases hz0 with hz0 | ⟨hy0, hz0⟩
  · subst hz0
    go_wp2
    go_ret
    exact ⟨rfl, B0.trans (B2.mono B0.size)⟩
  have hl0 : x0.length ≤ 1048576 := by omega
  have hm0 : y0.length ≤ 1048576 := by omega
  have s00 : 0 ≤ s0 := by omega
  have s10 : s0 ≤ 1048576 := by omega
  clear hz0 hy0
  obtain ⟨lt0, ca0, cb0, cc0⟩ := Q3f1.out
  go_wp2_with fail
  clear lt0 ca0 cb0 cc0
  refine (szModel_any n1 _ _ _ _ _ _ s0 _ ma1 mb1 (by omega) (by omega)).mono ?_
  obtain ⟨s1, hs1⟩ : ∃ s, s = szM s0 x1.length y1.length := ⟨_, rfl⟩
  have hz1 := szM_or s0 x1.length y1.length
  rw [← hs1] at hz1 ⊢
  clear hs1
  rintro e w4 ⟨rfl, hb⟩
  have z5 : w1.heap.size ≤ w4.heap.size := hb.size
  have B5 : Below W0.heap.size W0 w4 := B2.trans (hb.mono B2.size)
  have Q6f0 := Lib.hid (Q3f0.out.keep hb)
  have Q6f1 := Lib.hid (Q3f1.out.keep hb)
  clear Q3f0 Q3f1
  clear hb
  rcases hz1 with hz1 | ⟨hy1, hz1⟩
  · subst hz1
    go_wp2
    go_ret
    exact ⟨rfl, B0.trans (B5.mono B0.size)⟩
  have hl1 : x1.length ≤ 1048576 := by omega
  have hm1 : y1.length ≤ 1048576 := by omega
  have s01 : 0 ≤ s1 := by omega
  have s11 : s1 ≤ 1048576 := by omega
  clear hz1 hy1
  obtain ⟨lt0, ca0, cb0, cc0⟩ := Q6f0.out
  obtain ⟨lt1, ca1, cb1, cc1⟩ := Q6f1.out
  have zw := B5.size
  go_wp2
  go_cut [6, 7] (fun s1 s2 wx => ∃ (b : Nat) (a : Option Addr) (c : Nat) (a' : Option Addr) (c' lo hi : Nat), s1 = .pointer (some ⟨b, 0, none⟩) ∧ s2 = .int .i64 r1 ∧ w4.heap.size ≤ b ∧ w4.heap.size ≤ lo ∧ Hid (PrM w4 wx b lo hi rn a rl.length c a' rm.length c' rl rm))
  case first =>
    go_region_held3 (fun w' => w'.cell? ⟨w.heap.size, 0, none⟩ = some (.int .i64 n0) ∧ w'.cell? ⟨w.heap.size, 1, none⟩ = some (.slice a0 x0.length cap0) ∧ w'.cell? ⟨w.heap.size, 2, none⟩ = some (.slice b0 y0.length d0) ∧ w'.cell? ⟨w.heap.size + 1, 0, none⟩ = some (.int .i64 n1) ∧ w'.cell? ⟨w.heap.size + 1, 1, none⟩ = some (.slice a1 x1.length cap1) ∧ w'.cell? ⟨w.heap.size + 1, 2, none⟩ = some (.slice b1 y1.length d1)) (first | exact ⟨fa0, fb0, fc0, fa1, fb1, fc1⟩ | exact ⟨ea0, eb0, ec0, ea1, eb1, ec1⟩ | exact ⟨da0, db0, dc0, da1, db1, dc1⟩ | exact ⟨ca0, cb0, cc0, ca1, cb1, cc1⟩ | exact ⟨three_set fa0 (by first | omega | (have e : w4.drew.heap.size = w4.heap.size := rfl; omega)), three_set fb0 (by first | omega | (have e : w4.drew.heap.size = w4.heap.size := rfl; omega)), three_set fc0 (by first | omega | (have e : w4.drew.heap.size = w4.heap.size := rfl; omega)), three_set fa1 (by first | omega | (have e : w4.drew.heap.size = w4.heap.size := rfl; omega)), three_set fb1 (by first | omega | (have e : w4.drew.heap.size = w4.heap.size := rfl; omega)), three_set fc1 (by first | omega | (have e : w4.drew.heap.size = w4.heap.size := rfl; omega))⟩ | go_keep | (refine ⟨?_, ?_, ?_, ?_, ?_, ?_⟩ <;> simp [*])) (first | (go_at_call_of 17 cap0; have Z1 := (KA0.out.keep B5 (Nat.le_refl _)).drw; have Z2 := (KB0.out.keep B5 (Nat.le_refl _)).drw; refine (toModel_any n0 x0 y0 _ _ _ _ _ _ _ hl0 hm0 Z1 Z2).mono ?_; clear Z1 Z2; rintro e wA7 ⟨vA, rfl, ho, hb⟩; obtain ⟨bA7, cA7, eA7, fA7, rfl⟩ := ho.form; have yA := Lib.hid (ho.inM hb.size); clear ho; have tA := Lib.hid (below_of_drew hb); have zA := Lib.hid (ZoM.no wA7 w4); have sA := tA.out.size; clear hb; obtain ⟨dt0, da0, db0, dc0⟩ := Q6f0.out.keep tA.out; obtain ⟨dt1, da1, db1, dc1⟩ := Q6f1.out.keep tA.out) | (go_at_call_of 17 cap0; have Z1 := (((KA0.out.keep B5 (Nat.le_refl _)).drw).keep (alloc_keep w4.drew (.cells #[.int .i64 0, .slice none 0 0, .slice none 0 0] 32)).1 (Nat.le_refl _)); have Z2 := (((KB0.out.keep B5 (Nat.le_refl _)).drw).keep (alloc_keep w4.drew (.cells #[.int .i64 0, .slice none 0 0, .slice none 0 0] 32)).1 (Nat.le_refl _)); refine (toModel_any n0 x0 y0 _ _ _ _ _ _ _ hl0 hm0 Z1 Z2).mono ?_; clear Z1 Z2; rintro e wA7 ⟨vA, rfl, ho, hb⟩; obtain ⟨bA7, cA7, eA7, fA7, rfl⟩ := ho.form; have yA := Lib.hid (ho.inM hb.size); clear ho; have tA := Lib.hid (below_of_drew (below_al (Nat.le_refl _) hb)); have zA := Lib.hid (show ZoM wA7 w4 (some w4.heap.size) from ZoM.new (W := w4) (w := w4.drew) (Nat.le_refl _) hb); have sA := tA.out.size; have sA2 : w4.heap.size + 1 ≤ wA7.heap.size := (by have q := hb.size; simpa using q); clear hb; obtain ⟨dt0, da0, db0, dc0⟩ := Q6f0.out.keep tA.out; obtain ⟨dt1, da1, db1, dc1⟩ := Q6f1.out.keep tA.out) | (go_at_call_of 17 cap1; have Z1 := KA1.out.keep (B5.trans (tA.out.mono B5.size)) (Nat.le_refl _); have Z2 := KB1.out.keep (B5.trans (tA.out.mono B5.size)) (Nat.le_refl _); refine (toModel_any n1 x1 y1 _ _ _ _ _ _ _ hl1 hm1 Z1 Z2).mono ?_; clear Z1 Z2; rintro e wB7 ⟨vB, rfl, ho, hb⟩; obtain ⟨bB7, cB7, eB7, fB7, rfl⟩ := ho.form; have yB := Lib.hid (ho.inM hb.size); clear ho; have yA2 := Lib.hid (yA.out.below hb yA.out.hi); have tB := Lib.hid (tA.out.trans (Below.mono hb tA.out.size)); have zB := Lib.hid (zA.out.keep hb); have sB := (Below.size hb); clear hb; obtain ⟨et0, ea0, eb0, ec0⟩ := Q6f0.out.keep tB.out; obtain ⟨et1, ea1, eb1, ec1⟩ := Q6f1.out.keep tB.out) | (go_at_call_of 17 cap1; have Z1 := (KA1.out.keep (B5.trans (tA.out.mono B5.size)) (Nat.le_refl _)).keep (alloc_keep wA7 (.cells #[.int .i64 0, .slice none 0 0, .slice none 0 0] 32)).1 (Nat.le_refl _); have Z2 := (KB1.out.keep (B5.trans (tA.out.mono B5.size)) (Nat.le_refl _)).keep (alloc_keep wA7 (.cells #[.int .i64 0, .slice none 0 0, .slice none 0 0] 32)).1 (Nat.le_refl _); refine (toModel_any n1 x1 y1 _ _ _ _ _ _ _ hl1 hm1 Z1 Z2).mono ?_; clear Z1 Z2; rintro e wB7 ⟨vB, rfl, ho, hb⟩; obtain ⟨bB7, cB7, eB7, fB7, rfl⟩ := ho.form; have yB := Lib.hid (ho.inM hb.size); clear ho; have yA2 := Lib.hid (yA.out.below (below_al (Nat.le_refl _) hb) yA.out.hi); have tB := Lib.hid (tA.out.trans (Below.mono (below_al (Nat.le_refl _) hb) tA.out.size)); have zB := Lib.hid (ZoM.new (W := w4) (w := wA7) tA.out.size hb); have sB := (Below.size (below_al (Nat.le_refl _) hb)); have sB2 : wA7.heap.size + 1 ≤ wB7.heap.size := (by have q := hb.size; simpa using q); clear hb; obtain ⟨et0, ea0, eb0, ec0⟩ := Q6f0.out.keep tB.out; obtain ⟨et1, ea1, eb1, ec1⟩ := Q6f1.out.keep tB.out) | (go_at_call 37; refine (specSumModels_v n0 x0 y0 n1 x1 y1 _ _ _ _ _ _ _ hl0 hm0 hl1 hm1 yA2.out yB.out).mono ?_; rw [← Rn.out, ← Rl.out, ← Rm.out, ← R1.out]; rintro e wC7 ⟨vw, rfl, ho, hb⟩; obtain ⟨bw, cw, ew, fw, rfl⟩ := ho.form; have oo := Lib.hid (ho.inM hb.size); clear ho; have tC := Lib.hid (tB.out.trans (Below.mono hb tB.out.size)); have zC := Lib.hid (zB.out.keep hb); have sC := (Below.size hb); clear hb; (try (obtain ⟨zl, z0, z1, z2, z3, z4, z5⟩ := (zC.out _ rfl).1.all)); obtain ⟨ft0, fa0, fb0, fc0⟩ := Q6f0.out.keep tC.out; obtain ⟨ft1, fa1, fb1, fc1⟩ := Q6f1.out.keep tC.out) | (go_at_call 37; refine (specSumModels_v n0 x0 y0 n1 x1 y1 _ _ _ _ _ _ _ hl0 hm0 hl1 hm1 (yA2.out.below (alloc_keep wB7 (.cells #[.int .i64 0, .slice none 0 0, .slice none 0 0] 32)).1 yA2.out.hi) (yB.out.below (alloc_keep wB7 (.cells #[.int .i64 0, .slice none 0 0, .slice none 0 0] 32)).1 yB.out.hi)).mono ?_; rw [← Rn.out, ← Rl.out, ← Rm.out, ← R1.out]; rintro e wC7 ⟨vw, rfl, ho, hb⟩; obtain ⟨bw, cw, ew, fw, rfl⟩ := ho.form; have oo := Lib.hid (ho.inM hb.size); clear ho; have tC := Lib.hid (tB.out.trans (Below.mono (below_al (Nat.le_refl _) hb) tB.out.size)); have zC := Lib.hid (ZoM.new (W := w4) (w := wB7) tB.out.size hb); have sC := (Below.size (below_al (Nat.le_refl _) hb)); clear hb; (try (obtain ⟨zl, z0, z1, z2, z3, z4, z5⟩ := (zC.out _ rfl).1.all)); obtain ⟨ft0, fa0, fb0, fc0⟩ := Q6f0.out.keep tC.out; obtain ⟨ft1, fa1, fb1, fc1⟩ := Q6f1.out.keep tC.out))
    all_goals (try go_wp2_with fail)
    all_goals go_meet
    all_goals first | exact ⟨_, _, _, _, _, wB7.heap.size, _, rfl, rfl, (by first | omega | (have e : w4.drew.heap.size = w4.heap.size := rfl; omega) | (simp; omega) | simp), (by first | omega | (have e : w4.drew.heap.size = w4.heap.size := rfl; omega) | (simp; omega) | simp), Lib.hid (PrM.late (by first | omega | (have e : w4.drew.heap.size = w4.heap.size := rfl; omega) | (simp; omega) | simp) tC.out oo.out)⟩ | exact ⟨_, _, _, _, _, _, _, rfl, rfl, (zC.out _ rfl).2, (by first | omega | (have e : w4.drew.heap.size = w4.heap.size := rfl; omega) | (simp; omega) | simp), Lib.hid (PrM.early (zC.out _ rfl).2 (by first | omega | (have e : w4.drew.heap.size = w4.heap.size := rfl; omega) | (simp; omega) | simp) tC.out (zC.out _ rfl).1 oo.out)⟩
  case rest =>
  rename World => wz7
  obtain ⟨bw, aw, cw, a'w, c'w, low, hiw, rfl, rfl, qb7, ql7, hpr⟩ := hcut
  have hb := hpr.out.1
  have hq := Lib.hid hpr.out.2.1
  have oo := Lib.hid hpr.out.2.2
  have qh7 := hpr.out.2.2.hi
  have qx7 := hpr.out.2.1.1
  clear hpr ca0 cb0 cc0 ca1 cb1 cc1 lt0 lt1
  have z8 : w4.heap.size ≤ wz7.heap.size := hb.size
  have B8 : Below W0.heap.size W0 wz7 := B5.trans (hb.mono B5.size)
  have Q9f0 := Lib.hid (Q6f0.out.keep hb)
  have Q9f1 := Lib.hid (Q6f1.out.keep hb)
  clear Q6f0 Q6f1
  clear hb
  have Q7bw := Lib.hid hq.out
  clear hq
  have O7pw := Lib.hid oo.out
  clear oo
  obtain ⟨lt0, ca0, cb0, cc0⟩ := Q9f0.out
  go_wp2_with fail
  clear lt0 ca0 cb0 cc0
  have y11 : W0.heap.size ≤ wz7.heap.size := B8.size
  refine (toModel_any n0 x0 y0 _ _ _ _ _ _ _ hl0 hm0 (KA0.out.keep B8 (Nat.le_refl _)) (KB0.out.keep B8 (Nat.le_refl _))).mono ?_
  rintro e w10 ⟨vx0, rfl, ho, hb⟩
  obtain ⟨bx0, cx0, ex0, fx0, rfl⟩ := ho.form
  have oo := Lib.hid (ho.inM hb.size)
  clear ho
  have z12 : wz7.heap.size ≤ w10.heap.size := hb.size
  have B12 : Below W0.heap.size W0 w10 := B8.trans (hb.mono B8.size)
  have O13w := Lib.hid (O7pw.out.below hb O7pw.out.hi)
  have Q13f0 := Lib.hid (Q9f0.out.keep hb)
  have Q13f1 := Lib.hid (Q9f1.out.keep hb)
  have Q13w := Lib.hid (Q7bw.out.keep hb)
  clear O7pw Q9f0 Q9f1 Q7bw
  clear hb
  have O14x0 := Lib.hid oo.out
  clear oo
  obtain ⟨lt0, ca0, cb0, cc0⟩ := Q13f1.out
  go_wp2_with fail
  clear lt0 ca0 cb0 cc0
  obtain ⟨wb16, hwb16⟩ : ∃ W, W = w10.alloc (.cells #[.int .i64 n0, .slice bx0 x0.length cx0, .slice ex0 y0.length fx0] 32) := ⟨_, rfl⟩
  rw [← hwb16]
  have hq := Lib.hid (show Bm wb16 w10.heap.size (n0) bx0 (x0.length) cx0 ex0 (y0.length) fx0 by rw [hwb16]; exact Bm.new _ _ _ _ _ _ _ _ _)
  obtain ⟨hb, hsz⟩ : Below w10.heap.size w10 wb16 ∧ w10.heap.size + 1 ≤ wb16.heap.size := by rw [hwb16]; exact alloc_keep _ _
  clear hwb16
  have z17 : w10.heap.size + 1 ≤ wb16.heap.size := hsz
  have B17 : Below W0.heap.size W0 wb16 := B12.trans (hb.mono B12.size)
  have O18w := Lib.hid (O13w.out.below hb O13w.out.hi)
  have O18x0 := Lib.hid (O14x0.out.below hb O14x0.out.hi)
  have Q18f0 := Lib.hid (Q13f0.out.keep hb)
  have Q18f1 := Lib.hid (Q13f1.out.keep hb)
  have Q18w := Lib.hid (Q13w.out.keep hb)
  clear O13w O14x0 Q13f0 Q13f1 Q13w
  clear hb
  clear hsz
  have Q16bx0 := Lib.hid hq.out
  clear hq
  have y19 : W0.heap.size ≤ wb16.heap.size := B17.size
  refine (toModel_any n1 x1 y1 _ _ _ _ _ _ _ hl1 hm1 (KA1.out.keep B17 (Nat.le_refl _)) (KB1.out.keep B17 (Nat.le_refl _))).mono ?_
  rintro e w15 ⟨vx1, rfl, ho, hb⟩
  obtain ⟨bx1, cx1, ex1, fx1, rfl⟩ := ho.form
  have oo := Lib.hid (ho.inM hb.size)
  clear ho
  have z20 : wb16.heap.size ≤ w15.heap.size := hb.size
  have B20 : Below W0.heap.size W0 w15 := B17.trans (hb.mono B17.size)
  have O21w := Lib.hid (O18w.out.below hb O18w.out.hi)
  have O21x0 := Lib.hid (O18x0.out.below hb O18x0.out.hi)
  have Q21f0 := Lib.hid (Q18f0.out.keep hb)
  have Q21f1 := Lib.hid (Q18f1.out.keep hb)
  have Q21w := Lib.hid (Q18w.out.keep hb)
  have Q21x0 := Lib.hid (Q16bx0.out.keep hb)
  clear O18w O18x0 Q18f0 Q18f1 Q18w Q16bx0
  clear hb
  have O22x1 := Lib.hid oo.out
  clear oo
  obtain ⟨lt0, ca0, cb0, cc0⟩ := Q21x0.out
  go_wp2_with fail
  clear lt0 ca0 cb0 cc0
  obtain ⟨wb24, hwb24⟩ : ∃ W, W = w15.alloc (.cells #[.int .i64 n1, .slice bx1 x1.length cx1, .slice ex1 y1.length fx1] 32) := ⟨_, rfl⟩
  rw [← hwb24]
  have hq := Lib.hid (show Bm wb24 w15.heap.size (n1) bx1 (x1.length) cx1 ex1 (y1.length) fx1 by rw [hwb24]; exact Bm.new _ _ _ _ _ _ _ _ _)
  obtain ⟨hb, hsz⟩ : Below w15.heap.size w15 wb24 ∧ w15.heap.size + 1 ≤ wb24.heap.size := by rw [hwb24]; exact alloc_keep _ _
  clear hwb24
  have z25 : w15.heap.size + 1 ≤ wb24.heap.size := hsz
  have B25 : Below W0.heap.size W0 wb24 := B20.trans (hb.mono B20.size)
  have O26w := Lib.hid (O21w.out.below hb O21w.out.hi)
  have O26x0 := Lib.hid (O21x0.out.below hb O21x0.out.hi)
  have O26x1 := Lib.hid (O22x1.out.below hb O22x1.out.hi)
  have Q26f0 := Lib.hid (Q21f0.out.keep hb)
  have Q26f1 := Lib.hid (Q21f1.out.keep hb)
  have Q26w := Lib.hid (Q21w.out.keep hb)
  have Q26x0 := Lib.hid (Q21x0.out.keep hb)
  clear O21w O21x0 O22x1 Q21f0 Q21f1 Q21w Q21x0
  clear hb
  clear hsz
  have Q24bx1 := Lib.hid hq.out
  clear hq
  have y27 : W0.heap.size ≤ wb24.heap.size := B25.size
  refine (implSumModels_v n0 x0 y0 n1 x1 y1 _ _ _ _ _ _ _ hl0 hm0 hl1 hm1 O26x0.out O26x1.out).mono ?_
  rw [← Rn.out, ← Rl.out, ← Rm.out, ← R1.out]
  rintro e w23 ⟨vg, rfl, ho, hb⟩
  obtain ⟨bg, cg, eg, fg, rfl⟩ := ho.form
  have oo := Lib.hid (ho.inM hb.size)
  clear ho
  have z28 : wb24.heap.size ≤ w23.heap.size := hb.size
  have B28 : Below W0.heap.size W0 w23 := B25.trans (hb.mono B25.size)
  have O29w := Lib.hid (O26w.out.below hb O26w.out.hi)
  have O29x0 := Lib.hid (O26x0.out.below hb O26x0.out.hi)
  have O29x1 := Lib.hid (O26x1.out.below hb O26x1.out.hi)
  have Q29f0 := Lib.hid (Q26f0.out.keep hb)
  have Q29f1 := Lib.hid (Q26f1.out.keep hb)
  have Q29w := Lib.hid (Q26w.out.keep hb)
  have Q29x0 := Lib.hid (Q26x0.out.keep hb)
  have Q29x1 := Lib.hid (Q24bx1.out.keep hb)
  clear O26w O26x0 O26x1 Q26f0 Q26f1 Q26w Q26x0 Q24bx1
  clear hb
  have O30g := Lib.hid oo.out
  clear oo
  obtain ⟨lt0, ca0, cb0, cc0⟩ := Q29w.out
  go_wp2_with fail
  clear lt0 ca0 cb0 cc0
  obtain ⟨wb32, hwb32⟩ : ∃ W, W = w23.alloc (.cells #[.int .i64 rn, .slice bg rl.length cg, .slice eg rm.length fg] 32) := ⟨_, rfl⟩
  rw [← hwb32]
  have hq := Lib.hid (show Bm wb32 w23.heap.size (rn) bg (rl.length) cg eg (rm.length) fg by rw [hwb32]; exact Bm.new _ _ _ _ _ _ _ _ _)
  obtain ⟨hb, hsz⟩ : Below w23.heap.size w23 wb32 ∧ w23.heap.size + 1 ≤ wb32.heap.size := by rw [hwb32]; exact alloc_keep _ _
  clear hwb32
  have z33 : w23.heap.size + 1 ≤ wb32.heap.size := hsz
  have B33 : Below W0.heap.size W0 wb32 := B28.trans (hb.mono B28.size)
  have O34w := Lib.hid (O29w.out.below hb O29w.out.hi)
  have O34x0 := Lib.hid (O29x0.out.below hb O29x0.out.hi)
  have O34x1 := Lib.hid (O29x1.out.below hb O29x1.out.hi)
  have O34g := Lib.hid (O30g.out.below hb O30g.out.hi)
  have Q34f0 := Lib.hid (Q29f0.out.keep hb)
  have Q34f1 := Lib.hid (Q29f1.out.keep hb)
  have Q34w := Lib.hid (Q29w.out.keep hb)
  have Q34x0 := Lib.hid (Q29x0.out.keep hb)
  have Q34x1 := Lib.hid (Q29x1.out.keep hb)
  clear O29w O29x0 O29x1 O30g Q29f0 Q29f1 Q29w Q29x0 Q29x1
  clear hb
  clear hsz
  have Q32bg := Lib.hid hq.out
  clear hq
  refine (eqM_in rn rl rm _ _ _ _ _ _ _ hly hlz O34g.out O34w.out).mono ?_
  rintro e w31 ⟨rfl, hb⟩
  have z35 : wb32.heap.size ≤ w31.heap.size := hb.size
  have B35 : Below W0.heap.size W0 w31 := B33.trans (hb.mono B33.size)
  have O36w := Lib.hid (O34w.out.below hb O34w.out.hi)
  have O36x0 := Lib.hid (O34x0.out.below hb O34x0.out.hi)
  have O36x1 := Lib.hid (O34x1.out.below hb O34x1.out.hi)
  have O36g := Lib.hid (O34g.out.below hb O34g.out.hi)
  have Q36f0 := Lib.hid (Q34f0.out.keep hb)
  have Q36f1 := Lib.hid (Q34f1.out.keep hb)
  have Q36w := Lib.hid (Q34w.out.keep hb)
  have Q36x0 := Lib.hid (Q34x0.out.keep hb)
  have Q36x1 := Lib.hid (Q34x1.out.keep hb)
  have Q36g := Lib.hid (Q32bg.out.keep hb)
  clear O34w O34x0 O34x1 O34g Q34f0 Q34f1 Q34w Q34x0 Q34x1 Q32bg
  clear hb
  obtain ⟨lt0, ca0, cb0, cc0⟩ := Q36f0.out
  obtain ⟨lt1, ca1, cb1, cc1⟩ := Q36x0.out
  go_wp2
  go_region_held3 (fun w' => w'.cell? ⟨w.heap.size, 0, none⟩ = some (.int .i64 n0) ∧ w'.cell? ⟨w.heap.size, 1, none⟩ = some (.slice a0 x0.length cap0) ∧ w'.cell? ⟨w.heap.size, 2, none⟩ = some (.slice b0 y0.length d0) ∧ w'.cell? ⟨w10.heap.size, 0, none⟩ = some (.int .i64 (n0)) ∧ w'.cell? ⟨w10.heap.size, 1, none⟩ = some (.slice bx0 (x0.length) cx0) ∧ w'.cell? ⟨w10.heap.size, 2, none⟩ = some (.slice ex0 (y0.length) fx0)) (first | exact ⟨ca0, cb0, cc0, ca1, cb1, cc1⟩ | exact ⟨da0, db0, dc0, da1, db1, dc1⟩ | exact ⟨ea0, eb0, ec0, ea1, eb1, ec1⟩ | go_keep) (first | (go_at_call 17; refine (toModel_any n0 x0 y0 _ _ _ _ _ _ _ hl0 hm0 (KA0.out.keep B35 (Nat.le_refl _)).drw (KB0.out.keep B35 (Nat.le_refl _)).drw).mono ?_; rintro e w37 ⟨vy, rfl, ho, hb⟩; obtain ⟨by37, cy37, ey37, fy37, rfl⟩ := ho.form; have yy := Lib.hid (ho.inM hb.size); clear ho; have tt := Lib.hid (below_of_drew hb); clear hb; obtain ⟨mt0, da0, db0, dc0⟩ := Q36f0.out.keep tt.out; obtain ⟨mt1, da1, db1, dc1⟩ := Q36x0.out.keep tt.out) | (go_at_call 20; refine (eqM_in n0 x0 y0 _ _ _ _ _ _ _ hl0 hm0 (O36x0.out.below tt.out O36x0.out.hi) yy.out).mono ?_; rintro e w37' ⟨rfl, hb⟩; have uu := Lib.hid (tt.out.trans (hb.mono tt.out.size)); clear hb; obtain ⟨nt0, ea0, eb0, ec0⟩ := Q36f0.out.keep uu.out; obtain ⟨nt1, ea1, eb1, ec1⟩ := Q36x0.out.keep uu.out))
  clear lt0 lt1 mt0 mt1 nt0 nt1 yy tt ca0 cb0 cc0 da0 db0 dc0 ea0 eb0 ec0 ca1 cb1 cc1 da1 db1 dc1 ea1 eb1 ec1
  have hb := uu.out
  clear uu
  have z38 : w31.heap.size ≤ w37'.heap.size := hb.size
  have B38 : Below W0.heap.size W0 w37' := B35.trans (hb.mono B35.size)
  have O39w := Lib.hid (O36w.out.below hb O36w.out.hi)
  have O39x0 := Lib.hid (O36x0.out.below hb O36x0.out.hi)
  have O39x1 := Lib.hid (O36x1.out.below hb O36x1.out.hi)
  have O39g := Lib.hid (O36g.out.below hb O36g.out.hi)
  have Q39f0 := Lib.hid (Q36f0.out.keep hb)
  have Q39f1 := Lib.hid (Q36f1.out.keep hb)
  have Q39w := Lib.hid (Q36w.out.keep hb)
  have Q39x0 := Lib.hid (Q36x0.out.keep hb)
  have Q39x1 := Lib.hid (Q36x1.out.keep hb)
  have Q39g := Lib.hid (Q36g.out.keep hb)
  clear O36w O36x0 O36x1 O36g Q36f0 Q36f1 Q36w Q36x0 Q36x1 Q36g
  clear hb
  obtain ⟨lt0, ca0, cb0, cc0⟩ := Q39f1.out
  obtain ⟨lt1, ca1, cb1, cc1⟩ := Q39x1.out
  go_wp2
  go_region_held3 (fun w' => w'.cell? ⟨w.heap.size + 1, 0, none⟩ = some (.int .i64 n1) ∧ w'.cell? ⟨w.heap.size + 1, 1, none⟩ = some (.slice a1 x1.length cap1) ∧ w'.cell? ⟨w.heap.size + 1, 2, none⟩ = some (.slice b1 y1.length d1) ∧ w'.cell? ⟨w15.heap.size, 0, none⟩ = some (.int .i64 (n1)) ∧ w'.cell? ⟨w15.heap.size, 1, none⟩ = some (.slice bx1 (x1.length) cx1) ∧ w'.cell? ⟨w15.heap.size, 2, none⟩ = some (.slice ex1 (y1.length) fx1)) (first | exact ⟨ca0, cb0, cc0, ca1, cb1, cc1⟩ | exact ⟨da0, db0, dc0, da1, db1, dc1⟩ | exact ⟨ea0, eb0, ec0, ea1, eb1, ec1⟩ | go_keep) (first | (go_at_call 17; refine (toModel_any n1 x1 y1 _ _ _ _ _ _ _ hl1 hm1 (KA1.out.keep B38 (Nat.le_refl _)).drw (KB1.out.keep B38 (Nat.le_refl _)).drw).mono ?_; rintro e w40 ⟨vy, rfl, ho, hb⟩; obtain ⟨by40, cy40, ey40, fy40, rfl⟩ := ho.form; have yy := Lib.hid (ho.inM hb.size); clear ho; have tt := Lib.hid (below_of_drew hb); clear hb; obtain ⟨mt0, da0, db0, dc0⟩ := Q39f1.out.keep tt.out; obtain ⟨mt1, da1, db1, dc1⟩ := Q39x1.out.keep tt.out) | (go_at_call 20; refine (eqM_in n1 x1 y1 _ _ _ _ _ _ _ hl1 hm1 (O39x1.out.below tt.out O39x1.out.hi) yy.out).mono ?_; rintro e w40' ⟨rfl, hb⟩; have uu := Lib.hid (tt.out.trans (hb.mono tt.out.size)); clear hb; obtain ⟨nt0, ea0, eb0, ec0⟩ := Q39f1.out.keep uu.out; obtain ⟨nt1, ea1, eb1, ec1⟩ := Q39x1.out.keep uu.out))
  clear lt0 lt1 mt0 mt1 nt0 nt1 yy tt ca0 cb0 cc0 da0 db0 dc0 ea0 eb0 ec0 ca1 cb1 cc1 da1 db1 dc1 ea1 eb1 ec1
  have hb := uu.out
  clear uu
  have z41 : w37'.heap.size ≤ w40'.heap.size := hb.size
  have B41 : Below W0.heap.size W0 w40' := B38.trans (hb.mono B38.size)
  have O42w := Lib.hid (O39w.out.below hb O39w.out.hi)
  have O42x0 := Lib.hid (O39x0.out.below hb O39x0.out.hi)
  have O42x1 := Lib.hid (O39x1.out.below hb O39x1.out.hi)
  have O42g := Lib.hid (O39g.out.below hb O39g.out.hi)
  have Q42f0 := Lib.hid (Q39f0.out.keep hb)
  have Q42f1 := Lib.hid (Q39f1.out.keep hb)
  have Q42w := Lib.hid (Q39w.out.keep hb)
  have Q42x0 := Lib.hid (Q39x0.out.keep hb)
  have Q42x1 := Lib.hid (Q39x1.out.keep hb)
  have Q42g := Lib.hid (Q39g.out.keep hb)
  clear O39w O39x0 O39x1 O39g Q39f0 Q39f1 Q39w Q39x0 Q39x1 Q39g
  clear hb
  obtain ⟨lt0, ca0, cb0, cc0⟩ := Q42x0.out
  go_wp2_with fail
  clear lt0 ca0 cb0 cc0
  refine (markM_in n0 x0 y0 _ _ _ _ _ hl0 hm0 (by omega) (by omega) O42x0.out).mono ?_
  rintro e w43 ⟨rfl, om, hb, hg⟩
  have z43 := hb.size
  have B43 : Below W0.heap.size W0 w43 := B41.trans (hb.mono y11)
  have hh43 := O42x0.out.hi
  have O44w := Lib.hid (O42w.out.othG hg (by omega))
  have O44x1 := Lib.hid (O42x1.out.othG hg (by omega))
  have O44g := Lib.hid (O42g.out.othG hg (by omega))
  have Q44f0 := Lib.hid (Q42f0.out.othG hg (by omega))
  have Q44f1 := Lib.hid (Q42f1.out.othG hg (by omega))
  have Q44w := Lib.hid (Q42w.out.othG hg (by omega))
  have Q44x0 := Lib.hid (Q42x0.out.othG hg (by omega))
  have Q44x1 := Lib.hid (Q42x1.out.othG hg (by omega))
  have Q44g := Lib.hid (Q42g.out.othG hg (by omega))
  clear O42w O42x1 O42g Q42f0 Q42f1 Q42w Q42x0 Q42x1 Q42g
  have O43x0 := Lib.hid om
  clear hb hg om hh43 O42x0
  obtain ⟨lt0, ca0, cb0, cc0⟩ := Q44x1.out
  go_wp2_with fail
  clear lt0 ca0 cb0 cc0
  refine (markM_in n1 x1 y1 _ _ _ _ _ hl1 hm1 (by omega) (by omega) O44x1.out).mono ?_
  rintro e w45 ⟨rfl, om, hb, hg⟩
  have z45 := hb.size
  have B45 : Below W0.heap.size W0 w45 := B43.trans (hb.mono y19)
  have hh45 := O44x1.out.hi
  have O46w := Lib.hid (O44w.out.othG hg (by omega))
  have O46g := Lib.hid (O44g.out.othG hg (by omega))
  have O46x0 := Lib.hid (O43x0.out.othG hg (by omega))
  have Q46f0 := Lib.hid (Q44f0.out.othG hg (by omega))
  have Q46f1 := Lib.hid (Q44f1.out.othG hg (by omega))
  have Q46w := Lib.hid (Q44w.out.othG hg (by omega))
  have Q46x0 := Lib.hid (Q44x0.out.othG hg (by omega))
  have Q46x1 := Lib.hid (Q44x1.out.othG hg (by omega))
  have Q46g := Lib.hid (Q44g.out.othG hg (by omega))
  clear O44w O44g O43x0 Q44f0 Q44f1 Q44w Q44x0 Q44x1 Q44g
  have O45x1 := Lib.hid om
  clear hb hg om hh45 O44x1
  clear O46x0
  clear Q46x0
  clear O45x1
  clear Q46x1
  obtain ⟨lt0, ca0, cb0, cc0⟩ := Q46w.out
  obtain ⟨lt1, ca1, cb1, cc1⟩ := Q46g.out
  go_wp2_with fail
  clear lt0 ca0 cb0 cc0 lt1 ca1 cb1 cc1
  refine (eqM_in rn rl rm _ _ _ _ _ _ _ hly hlz O46g.out O46w.out).mono ?_
  rintro e w47 ⟨rfl, hb⟩
  have z48 : w45.heap.size ≤ w47.heap.size := hb.size
  have B48 : Below W0.heap.size W0 w47 := B45.trans (hb.mono B45.size)
  have O49w := Lib.hid (O46w.out.below hb O46w.out.hi)
  have O49g := Lib.hid (O46g.out.below hb O46g.out.hi)
  have Q49f0 := Lib.hid (Q46f0.out.keep hb)
  have Q49f1 := Lib.hid (Q46f1.out.keep hb)
  have Q49w := Lib.hid (Q46w.out.keep hb)
  have Q49g := Lib.hid (Q46g.out.keep hb)
  clear O46w O46g Q46f0 Q46f1 Q46w Q46g
  clear hb
  obtain ⟨lt0, ca0, cb0, cc0⟩ := Q49g.out
  go_wp2_with fail
  clear lt0 ca0 cb0 cc0
  refine (markM_in rn rl rm _ _ _ _ _ hly hlz (by omega) (by omega) O49g.out).mono ?_
  rintro e w50 ⟨rfl, om, hb, hg⟩
  have z50 := hb.size
  have B50 : Below W0.heap.size W0 w50 := B48.trans (hb.mono y27)
  have hh50 := O49g.out.hi
  have O51w := Lib.hid (O49w.out.othG hg (by omega))
  have Q51f0 := Lib.hid (Q49f0.out.othG hg (by omega))
  have Q51f1 := Lib.hid (Q49f1.out.othG hg (by omega))
  have Q51w := Lib.hid (Q49w.out.othG hg (by omega))
  have Q51g := Lib.hid (Q49g.out.othG hg (by omega))
  clear O49w Q49f0 Q49f1 Q49w Q49g
  have O50g := Lib.hid om
  clear hb hg om hh50 O49g
  obtain ⟨lt0, ca0, cb0, cc0⟩ := Q51g.out
  go_wp2_with fail
  clear lt0 ca0 cb0 cc0
  refine (heldM_in rl.length rm.length _ _ _ _ _ hly hlz (by omega) (by omega) O50g.out).mono ?_
  rintro e w52 ⟨rfl, hb⟩
  have z53 : w50.heap.size ≤ w52.heap.size := hb.size
  have B53 : Below W0.heap.size W0 w52 := B50.trans (hb.mono B50.size)
  have O54w := Lib.hid (O51w.out.below hb O51w.out.hi)
  have O54g := Lib.hid (O50g.out.below hb O50g.out.hi)
  have Q54f0 := Lib.hid (Q51f0.out.keep hb)
  have Q54f1 := Lib.hid (Q51f1.out.keep hb)
  have Q54w := Lib.hid (Q51w.out.keep hb)
  have Q54g := Lib.hid (Q51g.out.keep hb)
  clear O51w O50g Q51f0 Q51f1 Q51w Q51g
  clear hb
  obtain ⟨lt0, ca0, cb0, cc0⟩ := Q54f0.out
  obtain ⟨lt1, ca1, cb1, cc1⟩ := Q54f1.out
  have zw := B53.size
  go_wp2
  go_cut [15, 16] (fun s1 s2 wx => ∃ (b : Nat) (a : Option Addr) (c : Nat) (a' : Option Addr) (c' lo hi : Nat), s1 = .pointer (some ⟨b, 0, none⟩) ∧ s2 = .int .i64 r1 ∧ w52.heap.size ≤ b ∧ w52.heap.size ≤ lo ∧ Hid (PrM w52 wx b lo hi rn a rl.length c a' rm.length c' rl rm))
  case first =>
    go_region_held3 (fun w' => w'.cell? ⟨w.heap.size, 0, none⟩ = some (.int .i64 n0) ∧ w'.cell? ⟨w.heap.size, 1, none⟩ = some (.slice a0 x0.length cap0) ∧ w'.cell? ⟨w.heap.size, 2, none⟩ = some (.slice b0 y0.length d0) ∧ w'.cell? ⟨w.heap.size + 1, 0, none⟩ = some (.int .i64 n1) ∧ w'.cell? ⟨w.heap.size + 1, 1, none⟩ = some (.slice a1 x1.length cap1) ∧ w'.cell? ⟨w.heap.size + 1, 2, none⟩ = some (.slice b1 y1.length d1)) (first | exact ⟨fa0, fb0, fc0, fa1, fb1, fc1⟩ | exact ⟨ea0, eb0, ec0, ea1, eb1, ec1⟩ | exact ⟨da0, db0, dc0, da1, db1, dc1⟩ | exact ⟨ca0, cb0, cc0, ca1, cb1, cc1⟩ | exact ⟨three_set fa0 (by first | omega | (have e : w52.drew.heap.size = w52.heap.size := rfl; omega)), three_set fb0 (by first | omega | (have e : w52.drew.heap.size = w52.heap.size := rfl; omega)), three_set fc0 (by first | omega | (have e : w52.drew.heap.size = w52.heap.size := rfl; omega)), three_set fa1 (by first | omega | (have e : w52.drew.heap.size = w52.heap.size := rfl; omega)), three_set fb1 (by first | omega | (have e : w52.drew.heap.size = w52.heap.size := rfl; omega)), three_set fc1 (by first | omega | (have e : w52.drew.heap.size = w52.heap.size := rfl; omega))⟩ | go_keep | (refine ⟨?_, ?_, ?_, ?_, ?_, ?_⟩ <;> simp [*])) (first | (go_at_call_of 17 cap0; have Z1 := (KA0.out.keep B53 (Nat.le_refl _)).drw; have Z2 := (KB0.out.keep B53 (Nat.le_refl _)).drw; refine (toModel_any n0 x0 y0 _ _ _ _ _ _ _ hl0 hm0 Z1 Z2).mono ?_; clear Z1 Z2; rintro e wA55 ⟨vA, rfl, ho, hb⟩; obtain ⟨bA55, cA55, eA55, fA55, rfl⟩ := ho.form; have yA := Lib.hid (ho.inM hb.size); clear ho; have tA := Lib.hid (below_of_drew hb); have zA := Lib.hid (ZoM.no wA55 w52); have sA := tA.out.size; clear hb; obtain ⟨dt0, da0, db0, dc0⟩ := Q54f0.out.keep tA.out; obtain ⟨dt1, da1, db1, dc1⟩ := Q54f1.out.keep tA.out) | (go_at_call_of 17 cap0; have Z1 := (((KA0.out.keep B53 (Nat.le_refl _)).drw).keep (alloc_keep w52.drew (.cells #[.int .i64 0, .slice none 0 0, .slice none 0 0] 32)).1 (Nat.le_refl _)); have Z2 := (((KB0.out.keep B53 (Nat.le_refl _)).drw).keep (alloc_keep w52.drew (.cells #[.int .i64 0, .slice none 0 0, .slice none 0 0] 32)).1 (Nat.le_refl _)); refine (toModel_any n0 x0 y0 _ _ _ _ _ _ _ hl0 hm0 Z1 Z2).mono ?_; clear Z1 Z2; rintro e wA55 ⟨vA, rfl, ho, hb⟩; obtain ⟨bA55, cA55, eA55, fA55, rfl⟩ := ho.form; have yA := Lib.hid (ho.inM hb.size); clear ho; have tA := Lib.hid (below_of_drew (below_al (Nat.le_refl _) hb)); have zA := Lib.hid (show ZoM wA55 w52 (some w52.heap.size) from ZoM.new (W := w52) (w := w52.drew) (Nat.le_refl _) hb); have sA := tA.out.size; have sA2 : w52.heap.size + 1 ≤ wA55.heap.size := (by have q := hb.size; simpa using q); clear hb; obtain ⟨dt0, da0, db0, dc0⟩ := Q54f0.out.keep tA.out; obtain ⟨dt1, da1, db1, dc1⟩ := Q54f1.out.keep tA.out) | (go_at_call_of 17 cap1; have Z1 := KA1.out.keep (B53.trans (tA.out.mono B53.size)) (Nat.le_refl _); have Z2 := KB1.out.keep (B53.trans (tA.out.mono B53.size)) (Nat.le_refl _); refine (toModel_any n1 x1 y1 _ _ _ _ _ _ _ hl1 hm1 Z1 Z2).mono ?_; clear Z1 Z2; rintro e wB55 ⟨vB, rfl, ho, hb⟩; obtain ⟨bB55, cB55, eB55, fB55, rfl⟩ := ho.form; have yB := Lib.hid (ho.inM hb.size); clear ho; have yA2 := Lib.hid (yA.out.below hb yA.out.hi); have tB := Lib.hid (tA.out.trans (Below.mono hb tA.out.size)); have zB := Lib.hid (zA.out.keep hb); have sB := (Below.size hb); clear hb; obtain ⟨et0, ea0, eb0, ec0⟩ := Q54f0.out.keep tB.out; obtain ⟨et1, ea1, eb1, ec1⟩ := Q54f1.out.keep tB.out) | (go_at_call_of 17 cap1; have Z1 := (KA1.out.keep (B53.trans (tA.out.mono B53.size)) (Nat.le_refl _)).keep (alloc_keep wA55 (.cells #[.int .i64 0, .slice none 0 0, .slice none 0 0] 32)).1 (Nat.le_refl _); have Z2 := (KB1.out.keep (B53.trans (tA.out.mono B53.size)) (Nat.le_refl _)).keep (alloc_keep wA55 (.cells #[.int .i64 0, .slice none 0 0, .slice none 0 0] 32)).1 (Nat.le_refl _); refine (toModel_any n1 x1 y1 _ _ _ _ _ _ _ hl1 hm1 Z1 Z2).mono ?_; clear Z1 Z2; rintro e wB55 ⟨vB, rfl, ho, hb⟩; obtain ⟨bB55, cB55, eB55, fB55, rfl⟩ := ho.form; have yB := Lib.hid (ho.inM hb.size); clear ho; have yA2 := Lib.hid (yA.out.below (below_al (Nat.le_refl _) hb) yA.out.hi); have tB := Lib.hid (tA.out.trans (Below.mono (below_al (Nat.le_refl _) hb) tA.out.size)); have zB := Lib.hid (ZoM.new (W := w52) (w := wA55) tA.out.size hb); have sB := (Below.size (below_al (Nat.le_refl _) hb)); have sB2 : wA55.heap.size + 1 ≤ wB55.heap.size := (by have q := hb.size; simpa using q); clear hb; obtain ⟨et0, ea0, eb0, ec0⟩ := Q54f0.out.keep tB.out; obtain ⟨et1, ea1, eb1, ec1⟩ := Q54f1.out.keep tB.out) | (go_at_call 38; refine (implSumModels_v n0 x0 y0 n1 x1 y1 _ _ _ _ _ _ _ hl0 hm0 hl1 hm1 yA2.out yB.out).mono ?_; rw [← Rn.out, ← Rl.out, ← Rm.out, ← R1.out]; rintro e wC55 ⟨vh, rfl, ho, hb⟩; obtain ⟨bh, ch, eh, fh, rfl⟩ := ho.form; have oo := Lib.hid (ho.inM hb.size); clear ho; have tC := Lib.hid (tB.out.trans (Below.mono hb tB.out.size)); have zC := Lib.hid (zB.out.keep hb); have sC := (Below.size hb); clear hb; (try (obtain ⟨zl, z0, z1, z2, z3, z4, z5⟩ := (zC.out _ rfl).1.all)); obtain ⟨ft0, fa0, fb0, fc0⟩ := Q54f0.out.keep tC.out; obtain ⟨ft1, fa1, fb1, fc1⟩ := Q54f1.out.keep tC.out) | (go_at_call 38; refine (implSumModels_v n0 x0 y0 n1 x1 y1 _ _ _ _ _ _ _ hl0 hm0 hl1 hm1 (yA2.out.below (alloc_keep wB55 (.cells #[.int .i64 0, .slice none 0 0, .slice none 0 0] 32)).1 yA2.out.hi) (yB.out.below (alloc_keep wB55 (.cells #[.int .i64 0, .slice none 0 0, .slice none 0 0] 32)).1 yB.out.hi)).mono ?_; rw [← Rn.out, ← Rl.out, ← Rm.out, ← R1.out]; rintro e wC55 ⟨vh, rfl, ho, hb⟩; obtain ⟨bh, ch, eh, fh, rfl⟩ := ho.form; have oo := Lib.hid (ho.inM hb.size); clear ho; have tC := Lib.hid (tB.out.trans (Below.mono (below_al (Nat.le_refl _) hb) tB.out.size)); have zC := Lib.hid (ZoM.new (W := w52) (w := wB55) tB.out.size hb); have sC := (Below.size (below_al (Nat.le_refl _) hb)); clear hb; (try (obtain ⟨zl, z0, z1, z2, z3, z4, z5⟩ := (zC.out _ rfl).1.all)); obtain ⟨ft0, fa0, fb0, fc0⟩ := Q54f0.out.keep tC.out; obtain ⟨ft1, fa1, fb1, fc1⟩ := Q54f1.out.keep tC.out))
    all_goals (try go_wp2_with fail)
    all_goals go_meet
    all_goals first | exact ⟨_, _, _, _, _, wB55.heap.size, _, rfl, rfl, (by first | omega | (have e : w52.drew.heap.size = w52.heap.size := rfl; omega) | (simp; omega) | simp), (by first | omega | (have e : w52.drew.heap.size = w52.heap.size := rfl; omega) | (simp; omega) | simp), Lib.hid (PrM.late (by first | omega | (have e : w52.drew.heap.size = w52.heap.size := rfl; omega) | (simp; omega) | simp) tC.out oo.out)⟩ | exact ⟨_, _, _, _, _, _, _, rfl, rfl, (zC.out _ rfl).2, (by first | omega | (have e : w52.drew.heap.size = w52.heap.size := rfl; omega) | (simp; omega) | simp), Lib.hid (PrM.early (zC.out _ rfl).2 (by first | omega | (have e : w52.drew.heap.size = w52.heap.size := rfl; omega) | (simp; omega) | simp) tC.out (zC.out _ rfl).1 oo.out)⟩
  case rest =>
  rename World => wz55
  obtain ⟨bh, ah, ch, a'h, c'h, loh, hih, rfl, rfl, qb55, ql55, hpr⟩ := hcut
  have hb := hpr.out.1
  have hq := Lib.hid hpr.out.2.1
  have oo := Lib.hid hpr.out.2.2
  have qh55 := hpr.out.2.2.hi
  have qx55 := hpr.out.2.1.1
  clear hpr ca0 cb0 cc0 ca1 cb1 cc1 lt0 lt1
  have z56 : w52.heap.size ≤ wz55.heap.size := hb.size
  have B56 : Below W0.heap.size W0 wz55 := B53.trans (hb.mono B53.size)
  have O57w := Lib.hid (O54w.out.below hb O54w.out.hi)
  have O57g := Lib.hid (O54g.out.below hb O54g.out.hi)
  have Q57f0 := Lib.hid (Q54f0.out.keep hb)
  have Q57f1 := Lib.hid (Q54f1.out.keep hb)
  have Q57w := Lib.hid (Q54w.out.keep hb)
  have Q57g := Lib.hid (Q54g.out.keep hb)
  clear O54w O54g Q54f0 Q54f1 Q54w Q54g
  clear hb
  have Q55bh := Lib.hid hq.out
  clear hq
  have O55ph := Lib.hid oo.out
  clear oo
  obtain ⟨lt0, ca0, cb0, cc0⟩ := Q57w.out
  obtain ⟨lt1, ca1, cb1, cc1⟩ := Q55bh.out
  go_wp2_with fail
  clear lt0 ca0 cb0 cc0 lt1 ca1 cb1 cc1
  refine (eqM_in rn rl rm _ _ _ _ _ _ _ hly hlz O55ph.out O57w.out).mono ?_
  rintro e w58 ⟨rfl, hb⟩
  have z59 : wz55.heap.size ≤ w58.heap.size := hb.size
  have B59 : Below W0.heap.size W0 w58 := B56.trans (hb.mono B56.size)
  have O60w := Lib.hid (O57w.out.below hb O57w.out.hi)
  have O60g := Lib.hid (O57g.out.below hb O57g.out.hi)
  have O60h := Lib.hid (O55ph.out.below hb O55ph.out.hi)
  have Q60f0 := Lib.hid (Q57f0.out.keep hb)
  have Q60f1 := Lib.hid (Q57f1.out.keep hb)
  have Q60w := Lib.hid (Q57w.out.keep hb)
  have Q60g := Lib.hid (Q57g.out.keep hb)
  have Q60h := Lib.hid (Q55bh.out.keep hb)
  clear O57w O57g O55ph Q57f0 Q57f1 Q57w Q57g Q55bh
  clear hb
  clear O60h
  clear O60w
  obtain ⟨lt0, ca0, cb0, cc0⟩ := Q60g.out
  go_wp2_with fail
  clear lt0 ca0 cb0 cc0
  refine (heldM_in rl.length rm.length _ _ _ _ _ hly hlz (by omega) (by omega) O60g.out).mono ?_
  rintro e w61 ⟨rfl, hb⟩
  have z62 : w58.heap.size ≤ w61.heap.size := hb.size
  have B62 : Below W0.heap.size W0 w61 := B59.trans (hb.mono B59.size)
  have O63g := Lib.hid (O60g.out.below hb O60g.out.hi)
  have Q63f0 := Lib.hid (Q60f0.out.keep hb)
  have Q63f1 := Lib.hid (Q60f1.out.keep hb)
  have Q63w := Lib.hid (Q60w.out.keep hb)
  have Q63g := Lib.hid (Q60g.out.keep hb)
  have Q63h := Lib.hid (Q60h.out.keep hb)
  clear O60g Q60f0 Q60f1 Q60w Q60g Q60h
  clear hb
  go_wp2
  go_ret
  exact ⟨rfl, B0.trans (B62.mono B0.size)⟩

end Go.Proofs.Ythopleeehbkjaaa
