/- The walk of the law FnExactBisimulationClasses. Conditions: those in the theorems. -/
import Derived.Test.YtecjmibnoldpgabCtV
namespace Go.Proofs.Ytecjmibnoldpgab
open Go.RowKit

set_option maxHeartbeats 4000000 in
set_option maxRecDepth 100000 in
theorem lawBisimulationClasses (n0 : Int) (x0 y0 : List Int) (a0 : Option Addr) (len0 cap0 : Nat) (b0 : Option Addr) (m0 d0 : Nat) (w : World) (h0 : IsMod w a0 len0 x0 b0 m0 y0) :
    Calls Try.prog 3 #[.agg #[.int .i64 n0, .slice a0 len0 cap0, .slice b0 m0 d0]] w fun e w' => e = .returned (.bool true) ∧ Below w.heap.size w w' := by
  obtain rfl := h0.1.1.1
  obtain rfl := h0.2.1.1
  have ma0 := h0.1.2
  have mb0 := h0.2.2
  have HA0 := Lib.hid h0.1.1
  have HB0 := Lib.hid h0.2.1
  clear h0
  obtain ⟨rl, hrl⟩ : ∃ r, r = (bcL n0 x0 y0) := ⟨_, rfl⟩
  obtain ⟨r1, hr1⟩ : ∃ r, r = (bcC n0 x0 y0) := ⟨_, rfl⟩
  have hly : rl.length ≤ 1048576 := by rw [hrl]; exact BisimulationClasses_len n0 x0 y0
  have Rl := Lib.hid hrl
  clear hrl
  have R1 := Lib.hid hr1
  clear hr1
  obtain ⟨W0, hW0⟩ : ∃ W0, W0 = (w.alloc (.cells #[.int .i64 n0, .slice a0 x0.length cap0, .slice b0 y0.length d0] 26)) := ⟨_, rfl⟩
  have B0 : Below w.heap.size w W0 := by rw [hW0]; exact ((Below.refl w.heap.size w).alloc (by simp) _)
  have Q0f0 := Lib.hid (show Bm W0 (w.heap.size) n0 a0 x0.length cap0 b0 y0.length d0 by rw [hW0]; exact (Bm.new _ _ _ _ _ _ _ _ _))
  have zz : w.heap.size + 1 ≤ W0.heap.size := by rw [hW0]; simp
  have KA0 := Lib.hid (HA0.out.keep B0 (Nat.le_refl _))
  clear HA0
  have KB0 := Lib.hid (HB0.out.keep B0 (Nat.le_refl _))
  clear HB0
  have hWW := Lib.hid hW0
  clear hW0
  go_enter Try.func3, Try.ntmps3
  go_wp2_with fail
  refine (szModel_any n0 _ _ _ _ _ _ (1048576 : Int) _ ma0 mb0 (by omega) (by omega)).mono ?_
  obtain ⟨s0, hs0⟩ : ∃ s, s = szM (1048576 : Int) x0.length y0.length := ⟨_, rfl⟩
  have hz0 := szM_or (1048576 : Int) x0.length y0.length
  rw [← hs0] at hz0 ⊢
  clear hs0
  rintro e w1 ⟨rfl, hb⟩
  rw [← hWW.out] at hb
  have z2 : W0.heap.size ≤ w1.heap.size := hb.size
  have B2 : Below W0.heap.size W0 w1 := (Below.refl W0.heap.size W0).trans (hb.mono (Below.refl W0.heap.size W0).size)
  have Q3f0 := Lib.hid (Q0f0.out.keep hb)
  clear Q0f0
  clear hb
  rcases hz0 with hz0 | ⟨hy0, hz0⟩
  · subst hz0
    go_wp2
    go_ret
    exact ⟨rfl, B0.trans (B2.mono B0.size)⟩
  have hl0 : x0.length ≤ 1048576 := by omega
  have hm0 : y0.length ≤ 1048576 := by omega
  have s00 : 0 ≤ s0 := by omega
  have s10 : s0 ≤ 1048576 := by omega
  clear hz0 hy0
  obtain ⟨lt0, ca0, cb0, cc0⟩ := Q3f0.out
  go_wp2_with fail
  clear lt0 ca0 cb0 cc0
  have y5 : W0.heap.size ≤ w1.heap.size := B2.size
  refine (toModel_any n0 x0 y0 _ _ _ _ _ _ _ hl0 hm0 (KA0.out.keep B2 (Nat.le_refl _)) (KB0.out.keep B2 (Nat.le_refl _))).mono ?_
  rintro e w4 ⟨vs0, rfl, ho, hb⟩
  obtain ⟨bs0, cs0, es0, fs0, rfl⟩ := ho.form
  have oo := Lib.hid (ho.inM hb.size)
  clear ho
  have z6 : w1.heap.size ≤ w4.heap.size := hb.size
  have B6 : Below W0.heap.size W0 w4 := B2.trans (hb.mono B2.size)
  have Q7f0 := Lib.hid (Q3f0.out.keep hb)
  clear Q3f0
  clear hb
  have O8s0 := Lib.hid oo.out
  clear oo
  go_wp2_with fail
  have y10 : W0.heap.size ≤ w4.heap.size := B6.size
  refine (specBisimulationClasses_v n0 x0 y0 _ _ _ _ hl0 hm0 O8s0.out).mono ?_
  rw [← Rl.out, ← R1.out]
  rintro e w9 ⟨vw, rfl, ho, hb⟩
  have oo := Lib.hid ho.inn
  clear ho
  have z11 : w4.heap.size ≤ w9.heap.size := hb.size
  have B11 : Below W0.heap.size W0 w9 := B6.trans (hb.mono B6.size)
  have O12s0 := Lib.hid (O8s0.out.below hb O8s0.out.hi)
  have Q12f0 := Lib.hid (Q7f0.out.keep hb)
  clear O8s0 Q7f0
  clear hb
  have O13w := Lib.hid oo.out
  clear oo
  clear O12s0
  obtain ⟨lt0, ca0, cb0, cc0⟩ := Q12f0.out
  go_wp2_with fail
  clear lt0 ca0 cb0 cc0
  have y15 : W0.heap.size ≤ w9.heap.size := B11.size
  refine (toModel_any n0 x0 y0 _ _ _ _ _ _ _ hl0 hm0 (KA0.out.keep B11 (Nat.le_refl _)) (KB0.out.keep B11 (Nat.le_refl _))).mono ?_
  rintro e w14 ⟨vx0, rfl, ho, hb⟩
  obtain ⟨bx0, cx0, ex0, fx0, rfl⟩ := ho.form
  have oo := Lib.hid (ho.inM hb.size)
  clear ho
  have z16 : w9.heap.size ≤ w14.heap.size := hb.size
  have B16 : Below W0.heap.size W0 w14 := B11.trans (hb.mono B11.size)
  have O17w := Lib.hid (O13w.out.below hb O13w.out.hi)
  have Q17f0 := Lib.hid (Q12f0.out.keep hb)
  clear O13w Q12f0
  clear hb
  have O18x0 := Lib.hid oo.out
  clear oo
  go_wp2_with fail
  obtain ⟨wb20, hwb20⟩ : ∃ W, W = w14.alloc (.cells #[.int .i64 n0, .slice bx0 x0.length cx0, .slice ex0 y0.length fx0] 32) := ⟨_, rfl⟩
  rw [← hwb20]
  have hq := Lib.hid (show Bm wb20 w14.heap.size (n0) bx0 (x0.length) cx0 ex0 (y0.length) fx0 by rw [hwb20]; exact Bm.new _ _ _ _ _ _ _ _ _)
  obtain ⟨hb, hsz⟩ : Below w14.heap.size w14 wb20 ∧ w14.heap.size + 1 ≤ wb20.heap.size := by rw [hwb20]; exact alloc_keep _ _
  clear hwb20
  have z21 : w14.heap.size + 1 ≤ wb20.heap.size := hsz
  have B21 : Below W0.heap.size W0 wb20 := B16.trans (hb.mono B16.size)
  have O22w := Lib.hid (O17w.out.below hb O17w.out.hi)
  have O22x0 := Lib.hid (O18x0.out.below hb O18x0.out.hi)
  have Q22f0 := Lib.hid (Q17f0.out.keep hb)
  clear O17w O18x0 Q17f0
  clear hb
  clear hsz
  have Q20bx0 := Lib.hid hq.out
  clear hq
  have y23 : W0.heap.size ≤ wb20.heap.size := B21.size
  refine (implBisimulationClasses_v n0 x0 y0 _ _ _ _ hl0 hm0 O22x0.out).mono ?_
  rw [← Rl.out, ← R1.out]
  rintro e w19 ⟨vg, rfl, ho, hb⟩
  have oo := Lib.hid ho.inn
  clear ho
  have z24 : wb20.heap.size ≤ w19.heap.size := hb.size
  have B24 : Below W0.heap.size W0 w19 := B21.trans (hb.mono B21.size)
  have O25w := Lib.hid (O22w.out.below hb O22w.out.hi)
  have O25x0 := Lib.hid (O22x0.out.below hb O22x0.out.hi)
  have Q25f0 := Lib.hid (Q22f0.out.keep hb)
  have Q25x0 := Lib.hid (Q20bx0.out.keep hb)
  clear O22w O22x0 Q22f0 Q20bx0
  clear hb
  have O26g := Lib.hid oo.out
  clear oo
  go_wp2_with fail
  refine (eqL_own rl _ _ _ _ _ _ _ hly O26g.out O25w.out).mono ?_
  rintro e w27 ⟨rfl, hb⟩
  have z28 : w19.heap.size ≤ w27.heap.size := hb.size
  have B28 : Below W0.heap.size W0 w27 := B24.trans (hb.mono B24.size)
  have O29w := Lib.hid (O25w.out.below hb O25w.out.hi)
  have O29x0 := Lib.hid (O25x0.out.below hb O25x0.out.hi)
  have O29g := Lib.hid (O26g.out.below hb O26g.out.hi)
  have Q29f0 := Lib.hid (Q25f0.out.keep hb)
  have Q29x0 := Lib.hid (Q25x0.out.keep hb)
  clear O25w O25x0 O26g Q25f0 Q25x0
  clear hb
  obtain ⟨lt0, ca0, cb0, cc0⟩ := Q29f0.out
  obtain ⟨lt1, ca1, cb1, cc1⟩ := Q29x0.out
  go_wp2
  go_region_held3 (fun w' => w'.cell? ⟨w.heap.size, 0, none⟩ = some (.int .i64 n0) ∧ w'.cell? ⟨w.heap.size, 1, none⟩ = some (.slice a0 x0.length cap0) ∧ w'.cell? ⟨w.heap.size, 2, none⟩ = some (.slice b0 y0.length d0) ∧ w'.cell? ⟨w14.heap.size, 0, none⟩ = some (.int .i64 (n0)) ∧ w'.cell? ⟨w14.heap.size, 1, none⟩ = some (.slice bx0 (x0.length) cx0) ∧ w'.cell? ⟨w14.heap.size, 2, none⟩ = some (.slice ex0 (y0.length) fx0)) (first | exact ⟨ca0, cb0, cc0, ca1, cb1, cc1⟩ | exact ⟨da0, db0, dc0, da1, db1, dc1⟩ | exact ⟨ea0, eb0, ec0, ea1, eb1, ec1⟩ | go_keep) (first | (go_at_call 11; refine (toModel_any n0 x0 y0 _ _ _ _ _ _ _ hl0 hm0 (KA0.out.keep B28 (Nat.le_refl _)).drw (KB0.out.keep B28 (Nat.le_refl _)).drw).mono ?_; rintro e w30 ⟨vy, rfl, ho, hb⟩; obtain ⟨by30, cy30, ey30, fy30, rfl⟩ := ho.form; have yy := Lib.hid (ho.inM hb.size); clear ho; have tt := Lib.hid (below_of_drew hb); clear hb; obtain ⟨mt0, da0, db0, dc0⟩ := Q29f0.out.keep tt.out; obtain ⟨mt1, da1, db1, dc1⟩ := Q29x0.out.keep tt.out) | (go_at_call 14; refine (eqM_in n0 x0 y0 _ _ _ _ _ _ _ hl0 hm0 (O29x0.out.below tt.out O29x0.out.hi) yy.out).mono ?_; rintro e w30' ⟨rfl, hb⟩; have uu := Lib.hid (tt.out.trans (hb.mono tt.out.size)); clear hb; obtain ⟨nt0, ea0, eb0, ec0⟩ := Q29f0.out.keep uu.out; obtain ⟨nt1, ea1, eb1, ec1⟩ := Q29x0.out.keep uu.out))
  clear lt0 lt1 mt0 mt1 nt0 nt1 yy tt ca0 cb0 cc0 da0 db0 dc0 ea0 eb0 ec0 ca1 cb1 cc1 da1 db1 dc1 ea1 eb1 ec1
  have hb := uu.out
  clear uu
  have z31 : w27.heap.size ≤ w30'.heap.size := hb.size
  have B31 : Below W0.heap.size W0 w30' := B28.trans (hb.mono B28.size)
  have O32w := Lib.hid (O29w.out.below hb O29w.out.hi)
  have O32x0 := Lib.hid (O29x0.out.below hb O29x0.out.hi)
  have O32g := Lib.hid (O29g.out.below hb O29g.out.hi)
  have Q32f0 := Lib.hid (Q29f0.out.keep hb)
  have Q32x0 := Lib.hid (Q29x0.out.keep hb)
  clear O29w O29x0 O29g Q29f0 Q29x0
  clear hb
  obtain ⟨lt0, ca0, cb0, cc0⟩ := Q32x0.out
  go_wp2_with fail
  clear lt0 ca0 cb0 cc0
  refine (markM_in n0 x0 y0 _ _ _ _ _ hl0 hm0 (by omega) (by omega) O32x0.out).mono ?_
  rintro e w33 ⟨rfl, om, hb, hg⟩
  have z33 := hb.size
  have B33 : Below W0.heap.size W0 w33 := B31.trans (hb.mono y15)
  have hh33 := O32x0.out.hi
  have O34w := Lib.hid (O32w.out.othG hg (by omega))
  have O34g := Lib.hid (O32g.out.othG hg (by omega))
  have Q34f0 := Lib.hid (Q32f0.out.othG hg (by omega))
  have Q34x0 := Lib.hid (Q32x0.out.othG hg (by omega))
  clear O32w O32g Q32f0 Q32x0
  have O33x0 := Lib.hid om
  clear hb hg om hh33 O32x0
  clear O33x0
  clear Q34x0
  go_wp2_with fail
  refine (eqL_own rl _ _ _ _ _ _ _ hly O34g.out O34w.out).mono ?_
  rintro e w35 ⟨rfl, hb⟩
  have z36 : w33.heap.size ≤ w35.heap.size := hb.size
  have B36 : Below W0.heap.size W0 w35 := B33.trans (hb.mono B33.size)
  have O37w := Lib.hid (O34w.out.below hb O34w.out.hi)
  have O37g := Lib.hid (O34g.out.below hb O34g.out.hi)
  have Q37f0 := Lib.hid (Q34f0.out.keep hb)
  clear O34w O34g Q34f0
  clear hb
  go_wp2_with fail
  refine (markL_own rl _ _ _ _ _ hly (by omega) (by omega) O37g.out).mono ?_
  rintro e w38 ⟨rfl, om, hb, hg⟩
  have z38 := hb.size
  have B38 : Below W0.heap.size W0 w38 := B36.trans (hb.mono y23)
  have hh38 := O37g.out.hi
  have O39w := Lib.hid (O37w.out.oth O37g.out.blk hg (by omega))
  have Q39f0 := Lib.hid (Q37f0.out.oth O37g.out.blk hg (by omega))
  clear O37w Q37f0
  have O38g := Lib.hid om
  clear hb hg om hh38 O37g
  go_wp2_with fail
  refine (heldL_own rl.length _ _ _ _ _ hly (by omega) (by omega) O38g.out).mono ?_
  rintro e w40 ⟨rfl, hb⟩
  have z41 : w38.heap.size ≤ w40.heap.size := hb.size
  have B41 : Below W0.heap.size W0 w40 := B38.trans (hb.mono B38.size)
  have O42w := Lib.hid (O39w.out.below hb O39w.out.hi)
  have O42g := Lib.hid (O38g.out.below hb O38g.out.hi)
  have Q42f0 := Lib.hid (Q39f0.out.keep hb)
  clear O39w O38g Q39f0
  clear hb
  obtain ⟨lt0, ca0, cb0, cc0⟩ := Q42f0.out
  go_wp2_with fail
  clear lt0 ca0 cb0 cc0
  have y44 : W0.heap.size ≤ w40.heap.size := B41.size
  refine (toModel_any n0 x0 y0 _ _ _ _ _ _ _ hl0 hm0 (KA0.out.keep B41 (Nat.le_refl _)) (KB0.out.keep B41 (Nat.le_refl _))).mono ?_
  rintro e w43 ⟨vt0, rfl, ho, hb⟩
  obtain ⟨bt0, ct0, et0, ft0, rfl⟩ := ho.form
  have oo := Lib.hid (ho.inM hb.size)
  clear ho
  have z45 : w40.heap.size ≤ w43.heap.size := hb.size
  have B45 : Below W0.heap.size W0 w43 := B41.trans (hb.mono B41.size)
  have O46w := Lib.hid (O42w.out.below hb O42w.out.hi)
  have O46g := Lib.hid (O42g.out.below hb O42g.out.hi)
  have Q46f0 := Lib.hid (Q42f0.out.keep hb)
  clear O42w O42g Q42f0
  clear hb
  have O47t0 := Lib.hid oo.out
  clear oo
  go_wp2_with fail
  have y49 : W0.heap.size ≤ w43.heap.size := B45.size
  refine (implBisimulationClasses_v n0 x0 y0 _ _ _ _ hl0 hm0 O47t0.out).mono ?_
  rw [← Rl.out, ← R1.out]
  rintro e w48 ⟨vh, rfl, ho, hb⟩
  have oo := Lib.hid ho.inn
  clear ho
  have z50 : w43.heap.size ≤ w48.heap.size := hb.size
  have B50 : Below W0.heap.size W0 w48 := B45.trans (hb.mono B45.size)
  have O51w := Lib.hid (O46w.out.below hb O46w.out.hi)
  have O51g := Lib.hid (O46g.out.below hb O46g.out.hi)
  have O51t0 := Lib.hid (O47t0.out.below hb O47t0.out.hi)
  have Q51f0 := Lib.hid (Q46f0.out.keep hb)
  clear O46w O46g O47t0 Q46f0
  clear hb
  have O52h := Lib.hid oo.out
  clear oo
  clear O51t0
  go_wp2_with fail
  refine (eqL_own rl _ _ _ _ _ _ _ hly O52h.out O51w.out).mono ?_
  rintro e w53 ⟨rfl, hb⟩
  have z54 : w48.heap.size ≤ w53.heap.size := hb.size
  have B54 : Below W0.heap.size W0 w53 := B50.trans (hb.mono B50.size)
  have O55w := Lib.hid (O51w.out.below hb O51w.out.hi)
  have O55g := Lib.hid (O51g.out.below hb O51g.out.hi)
  have O55h := Lib.hid (O52h.out.below hb O52h.out.hi)
  have Q55f0 := Lib.hid (Q51f0.out.keep hb)
  clear O51w O51g O52h Q51f0
  clear hb
  clear O55h
  clear O55w
  go_wp2_with fail
  refine (heldL_own rl.length _ _ _ _ _ hly (by omega) (by omega) O55g.out).mono ?_
  rintro e w56 ⟨rfl, hb⟩
  have z57 : w53.heap.size ≤ w56.heap.size := hb.size
  have B57 : Below W0.heap.size W0 w56 := B54.trans (hb.mono B54.size)
  have O58g := Lib.hid (O55g.out.below hb O55g.out.hi)
  have Q58f0 := Lib.hid (Q55f0.out.keep hb)
  clear O55g Q55f0
  clear hb
  go_wp2
  go_ret
  exact ⟨rfl, B0.trans (B57.mono B0.size)⟩

end Go.Proofs.Ytecjmibnoldpgab
