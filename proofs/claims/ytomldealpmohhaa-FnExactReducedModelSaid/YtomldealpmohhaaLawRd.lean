/- The walk of the law FnExactReducedModel. Conditions: those in the theorems. -/
import Derived.Test.YtomldealpmohhaaJn25
namespace Go.Proofs.Ytomldealpmohhaa
open Go.RowKit

set_option maxHeartbeats 4000000 in
set_option maxRecDepth 100000 in
theorem lawReducedModel (n0 : Int) (x0 y0 : List Int) (x1 : Int) (a0 : Option Addr) (len0 cap0 : Nat) (b0 : Option Addr) (m0 d0 : Nat) (w : World) (h0 : IsMod w a0 len0 x0 b0 m0 y0) :
    Calls Try.prog 7 #[.agg #[.int .i64 n0, .slice a0 len0 cap0, .slice b0 m0 d0], .int .i64 x1] w fun e w' => e = .returned (.bool true) ∧ Below w.heap.size w w' := by
  obtain rfl := h0.1.1.1
  obtain rfl := h0.2.1.1
  have ma0 := h0.1.2
  have mb0 := h0.2.2
  have HA0 := Lib.hid h0.1.1
  have HB0 := Lib.hid h0.2.1
  clear h0
  obtain ⟨rn, hrn⟩ : ∃ r, r = ((rdL n0 x0 y0 x1).length : Int) := ⟨_, rfl⟩
  obtain ⟨rl, hrl⟩ : ∃ r, r = (rdL n0 x0 y0 x1) := ⟨_, rfl⟩
  obtain ⟨rm, hrm⟩ : ∃ r, r = (rdV n0 x0 y0 x1) := ⟨_, rfl⟩
  obtain ⟨r1, hr1⟩ : ∃ r, r = (rdA n0 x0 y0 x1) := ⟨_, rfl⟩
  obtain ⟨r2, hr2⟩ : ∃ r, r = (rdC n0 x0 y0 x1) := ⟨_, rfl⟩
  have hly : rl.length ≤ 1048576 := by rw [hrl]; exact (ReducedModel_len n0 x0 y0 x1).1
  have hlz : rm.length ≤ 1048576 := by rw [hrm]; exact (ReducedModel_len n0 x0 y0 x1).2
  have Rn := Lib.hid hrn
  clear hrn
  have Rl := Lib.hid hrl
  clear hrl
  have Rm := Lib.hid hrm
  clear hrm
  have R1 := Lib.hid hr1
  clear hr1
  have R2 := Lib.hid hr2
  clear hr2
  obtain ⟨W0, hW0⟩ : ∃ W0, W0 = (w.alloc (.cells #[.int .i64 n0, .slice a0 x0.length cap0, .slice b0 y0.length d0] 26)) := ⟨_, rfl⟩
  have B0 : Below w.heap.size w W0 := by rw [hW0]; exact ((Below.refl w.heap.size w).alloc (by simp) _)
  have Q0f0 := Lib.hid (show Bm W0 (w.heap.size) n0 a0 x0.length cap0 b0 y0.length d0 by rw [hW0]; exact (Bm.new _ _ _ _ _ _ _ _ _))
  have zz : w.heap.size + 1 ≤ W0.heap.size := by rw [hW0]; simp
  have KA0 := Lib.hid (HA0.out.keep B0 (Nat.le_refl _))
  clear HA0
  have KB0 := Lib.hid (HB0.out.keep B0 (Nat.le_refl _))
  clear HB0
  have hWW := Lib.hid hW0
  clear hW0
  go_enter Try.func7, Try.ntmps7
  go_wp2_with fail
  refine (szModel_any n0 _ _ _ _ _ _ (1048576 : Int) _ ma0 mb0 (by omega) (by omega)).mono ?_
  obtain ⟨s0, hs0⟩ : ∃ s, s = szM (1048576 : Int) x0.length y0.length := ⟨_, rfl⟩
  have hz0 := szM_or (1048576 : Int) x0.length y0.length
  rw [← hs0] at hz0 ⊢
  clear hs0
  rintro e w1 ⟨rfl, hb⟩
  rw [← hWW.out] at hb
  have z2 : W0.heap.size ≤ w1.heap.size := hb.size
  have B2 : Below W0.heap.size W0 w1 := (Below.refl W0.heap.size W0).trans (hb.mono (Below.refl W0.heap.size W0).size)
  have Q3f0 := Lib.hid (Q0f0.out.keep hb)
  clear Q0f0
  clear hb
  rcases hz0 with hz0 | ⟨hy0, hz0⟩
  · subst hz0
    go_wp2
    go_ret
    exact ⟨rfl, B0.trans (B2.mono B0.size)⟩
  have hl0 : x0.length ≤ 1048576 := by omega
  have hm0 : y0.length ≤ 1048576 := by omega
  have s00 : 0 ≤ s0 := by omega
  have s10 : s0 ≤ 1048576 := by omega
  clear hz0 hy0
  obtain ⟨lt0, ca0, cb0, cc0⟩ := Q3f0.out
  go_wp2_with fail
  clear lt0 ca0 cb0 cc0
  have y5 : W0.heap.size ≤ w1.heap.size := B2.size
  refine (toModel_any n0 x0 y0 _ _ _ _ _ _ _ hl0 hm0 (KA0.out.keep B2 (Nat.le_refl _)) (KB0.out.keep B2 (Nat.le_refl _))).mono ?_
  rintro e w4 ⟨vs0, rfl, ho, hb⟩
  obtain ⟨bs0, cs0, es0, fs0, rfl⟩ := ho.form
  have oo := Lib.hid (ho.inM hb.size)
  clear ho
  have z6 : w1.heap.size ≤ w4.heap.size := hb.size
  have B6 : Below W0.heap.size W0 w4 := B2.trans (hb.mono B2.size)
  have Q7f0 := Lib.hid (Q3f0.out.keep hb)
  clear Q3f0
  clear hb
  have O8s0 := Lib.hid oo.out
  clear oo
  go_wp2_with fail
  have y10 : W0.heap.size ≤ w4.heap.size := B6.size
  refine (specReducedModel_v n0 x0 y0 x1 _ _ _ _ hl0 hm0 O8s0.out).mono ?_
  rw [← Rn.out, ← Rl.out, ← Rm.out, ← R1.out, ← R2.out]
  rintro e w9 ⟨vw, rfl, ho, hb⟩
  obtain ⟨bw, cw, ew, fw, rfl⟩ := ho.form
  have oo := Lib.hid (ho.inM hb.size)
  clear ho
  have z11 : w4.heap.size ≤ w9.heap.size := hb.size
  have B11 : Below W0.heap.size W0 w9 := B6.trans (hb.mono B6.size)
  have O12s0 := Lib.hid (O8s0.out.below hb O8s0.out.hi)
  have Q12f0 := Lib.hid (Q7f0.out.keep hb)
  clear O8s0 Q7f0
  clear hb
  have O13w := Lib.hid oo.out
  clear oo
  clear O12s0
  obtain ⟨lt0, ca0, cb0, cc0⟩ := Q12f0.out
  go_wp2_with fail
  clear lt0 ca0 cb0 cc0
  obtain ⟨wb15, hwb15⟩ : ∃ W, W = w9.alloc (.cells #[.int .i64 rn, .slice bw rl.length cw, .slice ew rm.length fw] 34) := ⟨_, rfl⟩
  rw [← hwb15]
  have hq := Lib.hid (show Bm wb15 w9.heap.size (rn) bw (rl.length) cw ew (rm.length) fw by rw [hwb15]; exact Bm.new _ _ _ _ _ _ _ _ _)
  obtain ⟨hb, hsz⟩ : Below w9.heap.size w9 wb15 ∧ w9.heap.size + 1 ≤ wb15.heap.size := by rw [hwb15]; exact alloc_keep _ _
  clear hwb15
  have z16 : w9.heap.size + 1 ≤ wb15.heap.size := hsz
  have B16 : Below W0.heap.size W0 wb15 := B11.trans (hb.mono B11.size)
  have O17w := Lib.hid (O13w.out.below hb O13w.out.hi)
  have Q17f0 := Lib.hid (Q12f0.out.keep hb)
  clear O13w Q12f0
  clear hb
  clear hsz
  have Q15bw := Lib.hid hq.out
  clear hq
  have y18 : W0.heap.size ≤ wb15.heap.size := B16.size
  refine (toModel_any n0 x0 y0 _ _ _ _ _ _ _ hl0 hm0 (KA0.out.keep B16 (Nat.le_refl _)) (KB0.out.keep B16 (Nat.le_refl _))).mono ?_
  rintro e w14 ⟨vx0, rfl, ho, hb⟩
  obtain ⟨bx0, cx0, ex0, fx0, rfl⟩ := ho.form
  have oo := Lib.hid (ho.inM hb.size)
  clear ho
  have z19 : wb15.heap.size ≤ w14.heap.size := hb.size
  have B19 : Below W0.heap.size W0 w14 := B16.trans (hb.mono B16.size)
  have O20w := Lib.hid (O17w.out.below hb O17w.out.hi)
  have Q20f0 := Lib.hid (Q17f0.out.keep hb)
  have Q20w := Lib.hid (Q15bw.out.keep hb)
  clear O17w Q17f0 Q15bw
  clear hb
  have O21x0 := Lib.hid oo.out
  clear oo
  go_wp2_with fail
  obtain ⟨wb23, hwb23⟩ : ∃ W, W = w14.alloc (.cells #[.int .i64 n0, .slice bx0 x0.length cx0, .slice ex0 y0.length fx0] 34) := ⟨_, rfl⟩
  rw [← hwb23]
  have hq := Lib.hid (show Bm wb23 w14.heap.size (n0) bx0 (x0.length) cx0 ex0 (y0.length) fx0 by rw [hwb23]; exact Bm.new _ _ _ _ _ _ _ _ _)
  obtain ⟨hb, hsz⟩ : Below w14.heap.size w14 wb23 ∧ w14.heap.size + 1 ≤ wb23.heap.size := by rw [hwb23]; exact alloc_keep _ _
  clear hwb23
  have z24 : w14.heap.size + 1 ≤ wb23.heap.size := hsz
  have B24 : Below W0.heap.size W0 wb23 := B19.trans (hb.mono B19.size)
  have O25w := Lib.hid (O20w.out.below hb O20w.out.hi)
  have O25x0 := Lib.hid (O21x0.out.below hb O21x0.out.hi)
  have Q25f0 := Lib.hid (Q20f0.out.keep hb)
  have Q25w := Lib.hid (Q20w.out.keep hb)
  clear O20w O21x0 Q20f0 Q20w
  clear hb
  clear hsz
  have Q23bx0 := Lib.hid hq.out
  clear hq
  have y26 : W0.heap.size ≤ wb23.heap.size := B24.size
  refine (implReducedModel_v n0 x0 y0 x1 _ _ _ _ hl0 hm0 O25x0.out).mono ?_
  rw [← Rn.out, ← Rl.out, ← Rm.out, ← R1.out, ← R2.out]
  rintro e w22 ⟨vg, rfl, ho, hb⟩
  obtain ⟨bg, cg, eg, fg, rfl⟩ := ho.form
  have oo := Lib.hid (ho.inM hb.size)
  clear ho
  have z27 : wb23.heap.size ≤ w22.heap.size := hb.size
  have B27 : Below W0.heap.size W0 w22 := B24.trans (hb.mono B24.size)
  have O28w := Lib.hid (O25w.out.below hb O25w.out.hi)
  have O28x0 := Lib.hid (O25x0.out.below hb O25x0.out.hi)
  have Q28f0 := Lib.hid (Q25f0.out.keep hb)
  have Q28w := Lib.hid (Q25w.out.keep hb)
  have Q28x0 := Lib.hid (Q23bx0.out.keep hb)
  clear O25w O25x0 Q25f0 Q25w Q23bx0
  clear hb
  have O29g := Lib.hid oo.out
  clear oo
  obtain ⟨lt0, ca0, cb0, cc0⟩ := Q28w.out
  go_wp2_with fail
  clear lt0 ca0 cb0 cc0
  obtain ⟨wb31, hwb31⟩ : ∃ W, W = w22.alloc (.cells #[.int .i64 rn, .slice bg rl.length cg, .slice eg rm.length fg] 34) := ⟨_, rfl⟩
  rw [← hwb31]
  have hq := Lib.hid (show Bm wb31 w22.heap.size (rn) bg (rl.length) cg eg (rm.length) fg by rw [hwb31]; exact Bm.new _ _ _ _ _ _ _ _ _)
  obtain ⟨hb, hsz⟩ : Below w22.heap.size w22 wb31 ∧ w22.heap.size + 1 ≤ wb31.heap.size := by rw [hwb31]; exact alloc_keep _ _
  clear hwb31
  have z32 : w22.heap.size + 1 ≤ wb31.heap.size := hsz
  have B32 : Below W0.heap.size W0 wb31 := B27.trans (hb.mono B27.size)
  have O33w := Lib.hid (O28w.out.below hb O28w.out.hi)
  have O33x0 := Lib.hid (O28x0.out.below hb O28x0.out.hi)
  have O33g := Lib.hid (O29g.out.below hb O29g.out.hi)
  have Q33f0 := Lib.hid (Q28f0.out.keep hb)
  have Q33w := Lib.hid (Q28w.out.keep hb)
  have Q33x0 := Lib.hid (Q28x0.out.keep hb)
  clear O28w O28x0 O29g Q28f0 Q28w Q28x0
  clear hb
  clear hsz
  have Q31bg := Lib.hid hq.out
  clear hq
  refine (eqM_in rn rl rm _ _ _ _ _ _ _ hly hlz O33g.out O33w.out).mono ?_
  rintro e w30 ⟨rfl, hb⟩
  have z34 : wb31.heap.size ≤ w30.heap.size := hb.size
  have B34 : Below W0.heap.size W0 w30 := B32.trans (hb.mono B32.size)
  have O35w := Lib.hid (O33w.out.below hb O33w.out.hi)
  have O35x0 := Lib.hid (O33x0.out.below hb O33x0.out.hi)
  have O35g := Lib.hid (O33g.out.below hb O33g.out.hi)
  have Q35f0 := Lib.hid (Q33f0.out.keep hb)
  have Q35w := Lib.hid (Q33w.out.keep hb)
  have Q35x0 := Lib.hid (Q33x0.out.keep hb)
  have Q35g := Lib.hid (Q31bg.out.keep hb)
  clear O33w O33x0 O33g Q33f0 Q33w Q33x0 Q31bg
  clear hb
  obtain ⟨lt0, ca0, cb0, cc0⟩ := Q35f0.out
  obtain ⟨lt1, ca1, cb1, cc1⟩ := Q35x0.out
  go_wp2
  go_region_held3 (fun w' => w'.cell? ⟨w.heap.size, 0, none⟩ = some (.int .i64 n0) ∧ w'.cell? ⟨w.heap.size, 1, none⟩ = some (.slice a0 x0.length cap0) ∧ w'.cell? ⟨w.heap.size, 2, none⟩ = some (.slice b0 y0.length d0) ∧ w'.cell? ⟨w14.heap.size, 0, none⟩ = some (.int .i64 (n0)) ∧ w'.cell? ⟨w14.heap.size, 1, none⟩ = some (.slice bx0 (x0.length) cx0) ∧ w'.cell? ⟨w14.heap.size, 2, none⟩ = some (.slice ex0 (y0.length) fx0)) (first | exact ⟨ca0, cb0, cc0, ca1, cb1, cc1⟩ | exact ⟨da0, db0, dc0, da1, db1, dc1⟩ | exact ⟨ea0, eb0, ec0, ea1, eb1, ec1⟩ | go_keep) (first | (go_at_call 14; refine (toModel_any n0 x0 y0 _ _ _ _ _ _ _ hl0 hm0 (KA0.out.keep B34 (Nat.le_refl _)).drw (KB0.out.keep B34 (Nat.le_refl _)).drw).mono ?_; rintro e w36 ⟨vy, rfl, ho, hb⟩; obtain ⟨by36, cy36, ey36, fy36, rfl⟩ := ho.form; have yy := Lib.hid (ho.inM hb.size); clear ho; have tt := Lib.hid (below_of_drew hb); clear hb; obtain ⟨mt0, da0, db0, dc0⟩ := Q35f0.out.keep tt.out; obtain ⟨mt1, da1, db1, dc1⟩ := Q35x0.out.keep tt.out) | (go_at_call 17; refine (eqM_in n0 x0 y0 _ _ _ _ _ _ _ hl0 hm0 (O35x0.out.below tt.out O35x0.out.hi) yy.out).mono ?_; rintro e w36' ⟨rfl, hb⟩; have uu := Lib.hid (tt.out.trans (hb.mono tt.out.size)); clear hb; obtain ⟨nt0, ea0, eb0, ec0⟩ := Q35f0.out.keep uu.out; obtain ⟨nt1, ea1, eb1, ec1⟩ := Q35x0.out.keep uu.out))
  clear lt0 lt1 mt0 mt1 nt0 nt1 yy tt ca0 cb0 cc0 da0 db0 dc0 ea0 eb0 ec0 ca1 cb1 cc1 da1 db1 dc1 ea1 eb1 ec1
  have hb := uu.out
  clear uu
  have z37 : w30.heap.size ≤ w36'.heap.size := hb.size
  have B37 : Below W0.heap.size W0 w36' := B34.trans (hb.mono B34.size)
  have O38w := Lib.hid (O35w.out.below hb O35w.out.hi)
  have O38x0 := Lib.hid (O35x0.out.below hb O35x0.out.hi)
  have O38g := Lib.hid (O35g.out.below hb O35g.out.hi)
  have Q38f0 := Lib.hid (Q35f0.out.keep hb)
  have Q38w := Lib.hid (Q35w.out.keep hb)
  have Q38x0 := Lib.hid (Q35x0.out.keep hb)
  have Q38g := Lib.hid (Q35g.out.keep hb)
  clear O35w O35x0 O35g Q35f0 Q35w Q35x0 Q35g
  clear hb
  obtain ⟨lt0, ca0, cb0, cc0⟩ := Q38x0.out
  go_wp2_with fail
  clear lt0 ca0 cb0 cc0
  refine (markM_in n0 x0 y0 _ _ _ _ _ hl0 hm0 (by omega) (by omega) O38x0.out).mono ?_
  rintro e w39 ⟨rfl, om, hb, hg⟩
  have z39 := hb.size
  have B39 : Below W0.heap.size W0 w39 := B37.trans (hb.mono y18)
  have hh39 := O38x0.out.hi
  have O40w := Lib.hid (O38w.out.othG hg (by omega))
  have O40g := Lib.hid (O38g.out.othG hg (by omega))
  have Q40f0 := Lib.hid (Q38f0.out.othG hg (by omega))
  have Q40w := Lib.hid (Q38w.out.othG hg (by omega))
  have Q40x0 := Lib.hid (Q38x0.out.othG hg (by omega))
  have Q40g := Lib.hid (Q38g.out.othG hg (by omega))
  clear O38w O38g Q38f0 Q38w Q38x0 Q38g
  have O39x0 := Lib.hid om
  clear hb hg om hh39 O38x0
  clear O39x0
  clear Q40x0
  obtain ⟨lt0, ca0, cb0, cc0⟩ := Q40w.out
  obtain ⟨lt1, ca1, cb1, cc1⟩ := Q40g.out
  go_wp2_with fail
  clear lt0 ca0 cb0 cc0 lt1 ca1 cb1 cc1
  refine (eqM_in rn rl rm _ _ _ _ _ _ _ hly hlz O40g.out O40w.out).mono ?_
  rintro e w41 ⟨rfl, hb⟩
  have z42 : w39.heap.size ≤ w41.heap.size := hb.size
  have B42 : Below W0.heap.size W0 w41 := B39.trans (hb.mono B39.size)
  have O43w := Lib.hid (O40w.out.below hb O40w.out.hi)
  have O43g := Lib.hid (O40g.out.below hb O40g.out.hi)
  have Q43f0 := Lib.hid (Q40f0.out.keep hb)
  have Q43w := Lib.hid (Q40w.out.keep hb)
  have Q43g := Lib.hid (Q40g.out.keep hb)
  clear O40w O40g Q40f0 Q40w Q40g
  clear hb
  obtain ⟨lt0, ca0, cb0, cc0⟩ := Q43g.out
  go_wp2_with fail
  clear lt0 ca0 cb0 cc0
  refine (markM_in rn rl rm _ _ _ _ _ hly hlz (by omega) (by omega) O43g.out).mono ?_
  rintro e w44 ⟨rfl, om, hb, hg⟩
  have z44 := hb.size
  have B44 : Below W0.heap.size W0 w44 := B42.trans (hb.mono y26)
  have hh44 := O43g.out.hi
  have O45w := Lib.hid (O43w.out.othG hg (by omega))
  have Q45f0 := Lib.hid (Q43f0.out.othG hg (by omega))
  have Q45w := Lib.hid (Q43w.out.othG hg (by omega))
  have Q45g := Lib.hid (Q43g.out.othG hg (by omega))
  clear O43w Q43f0 Q43w Q43g
  have O44g := Lib.hid om
  clear hb hg om hh44 O43g
  obtain ⟨lt0, ca0, cb0, cc0⟩ := Q45g.out
  go_wp2_with fail
  clear lt0 ca0 cb0 cc0
  refine (heldM_in rl.length rm.length _ _ _ _ _ hly hlz (by omega) (by omega) O44g.out).mono ?_
  rintro e w46 ⟨rfl, hb⟩
  have z47 : w44.heap.size ≤ w46.heap.size := hb.size
  have B47 : Below W0.heap.size W0 w46 := B44.trans (hb.mono B44.size)
  have O48w := Lib.hid (O45w.out.below hb O45w.out.hi)
  have O48g := Lib.hid (O44g.out.below hb O44g.out.hi)
  have Q48f0 := Lib.hid (Q45f0.out.keep hb)
  have Q48w := Lib.hid (Q45w.out.keep hb)
  have Q48g := Lib.hid (Q45g.out.keep hb)
  clear O45w O44g Q45f0 Q45w Q45g
  clear hb
  obtain ⟨lt0, ca0, cb0, cc0⟩ := Q48f0.out
  go_wp2_with fail
  clear lt0 ca0 cb0 cc0
  have y50 : W0.heap.size ≤ w46.heap.size := B47.size
  refine (toModel_any n0 x0 y0 _ _ _ _ _ _ _ hl0 hm0 (KA0.out.keep B47 (Nat.le_refl _)) (KB0.out.keep B47 (Nat.le_refl _))).mono ?_
  rintro e w49 ⟨vt0, rfl, ho, hb⟩
  obtain ⟨bt0, ct0, et0, ft0, rfl⟩ := ho.form
  have oo := Lib.hid (ho.inM hb.size)
  clear ho
  have z51 : w46.heap.size ≤ w49.heap.size := hb.size
  have B51 : Below W0.heap.size W0 w49 := B47.trans (hb.mono B47.size)
  have O52w := Lib.hid (O48w.out.below hb O48w.out.hi)
  have O52g := Lib.hid (O48g.out.below hb O48g.out.hi)
  have Q52f0 := Lib.hid (Q48f0.out.keep hb)
  have Q52w := Lib.hid (Q48w.out.keep hb)
  have Q52g := Lib.hid (Q48g.out.keep hb)
  clear O48w O48g Q48f0 Q48w Q48g
  clear hb
  have O53t0 := Lib.hid oo.out
  clear oo
  go_wp2_with fail
  have y55 : W0.heap.size ≤ w49.heap.size := B51.size
  refine (implReducedModel_v n0 x0 y0 x1 _ _ _ _ hl0 hm0 O53t0.out).mono ?_
  rw [← Rn.out, ← Rl.out, ← Rm.out, ← R1.out, ← R2.out]
  rintro e w54 ⟨vh, rfl, ho, hb⟩
  obtain ⟨bh, ch, eh, fh, rfl⟩ := ho.form
  have oo := Lib.hid (ho.inM hb.size)
  clear ho
  have z56 : w49.heap.size ≤ w54.heap.size := hb.size
  have B56 : Below W0.heap.size W0 w54 := B51.trans (hb.mono B51.size)
  have O57w := Lib.hid (O52w.out.below hb O52w.out.hi)
  have O57g := Lib.hid (O52g.out.below hb O52g.out.hi)
  have O57t0 := Lib.hid (O53t0.out.below hb O53t0.out.hi)
  have Q57f0 := Lib.hid (Q52f0.out.keep hb)
  have Q57w := Lib.hid (Q52w.out.keep hb)
  have Q57g := Lib.hid (Q52g.out.keep hb)
  clear O52w O52g O53t0 Q52f0 Q52w Q52g
  clear hb
  have O58h := Lib.hid oo.out
  clear oo
  clear O57t0
  obtain ⟨lt0, ca0, cb0, cc0⟩ := Q57w.out
  go_wp2_with fail
  clear lt0 ca0 cb0 cc0
  obtain ⟨wb60, hwb60⟩ : ∃ W, W = w54.alloc (.cells #[.int .i64 rn, .slice bh rl.length ch, .slice eh rm.length fh] 34) := ⟨_, rfl⟩
  rw [← hwb60]
  have hq := Lib.hid (show Bm wb60 w54.heap.size (rn) bh (rl.length) ch eh (rm.length) fh by rw [hwb60]; exact Bm.new _ _ _ _ _ _ _ _ _)
  obtain ⟨hb, hsz⟩ : Below w54.heap.size w54 wb60 ∧ w54.heap.size + 1 ≤ wb60.heap.size := by rw [hwb60]; exact alloc_keep _ _
  clear hwb60
  have z61 : w54.heap.size + 1 ≤ wb60.heap.size := hsz
  have B61 : Below W0.heap.size W0 wb60 := B56.trans (hb.mono B56.size)
  have O62w := Lib.hid (O57w.out.below hb O57w.out.hi)
  have O62g := Lib.hid (O57g.out.below hb O57g.out.hi)
  have O62h := Lib.hid (O58h.out.below hb O58h.out.hi)
  have Q62f0 := Lib.hid (Q57f0.out.keep hb)
  have Q62w := Lib.hid (Q57w.out.keep hb)
  have Q62g := Lib.hid (Q57g.out.keep hb)
  clear O57w O57g O58h Q57f0 Q57w Q57g
  clear hb
  clear hsz
  have Q60bh := Lib.hid hq.out
  clear hq
  refine (eqM_in rn rl rm _ _ _ _ _ _ _ hly hlz O62h.out O62w.out).mono ?_
  rintro e w59 ⟨rfl, hb⟩
  have z63 : wb60.heap.size ≤ w59.heap.size := hb.size
  have B63 : Below W0.heap.size W0 w59 := B61.trans (hb.mono B61.size)
  have O64w := Lib.hid (O62w.out.below hb O62w.out.hi)
  have O64g := Lib.hid (O62g.out.below hb O62g.out.hi)
  have O64h := Lib.hid (O62h.out.below hb O62h.out.hi)
  have Q64f0 := Lib.hid (Q62f0.out.keep hb)
  have Q64w := Lib.hid (Q62w.out.keep hb)
  have Q64g := Lib.hid (Q62g.out.keep hb)
  have Q64h := Lib.hid (Q60bh.out.keep hb)
  clear O62w O62g O62h Q62f0 Q62w Q62g Q60bh
  clear hb
  clear O64h
  clear O64w
  obtain ⟨lt0, ca0, cb0, cc0⟩ := Q64g.out
  go_wp2_with fail
  clear lt0 ca0 cb0 cc0
  refine (heldM_in rl.length rm.length _ _ _ _ _ hly hlz (by omega) (by omega) O64g.out).mono ?_
  rintro e w65 ⟨rfl, hb⟩
  have z66 : w59.heap.size ≤ w65.heap.size := hb.size
  have B66 : Below W0.heap.size W0 w65 := B63.trans (hb.mono B63.size)
  have O67g := Lib.hid (O64g.out.below hb O64g.out.hi)
  have Q67f0 := Lib.hid (Q64f0.out.keep hb)
  have Q67w := Lib.hid (Q64w.out.keep hb)
  have Q67g := Lib.hid (Q64g.out.keep hb)
  have Q67h := Lib.hid (Q64h.out.keep hb)
  clear O64g Q64f0 Q64w Q64g Q64h
  clear hb
  go_wp2
  go_ret
  exact ⟨rfl, B0.trans (B66.mono B0.size)⟩

end Go.Proofs.Ytomldealpmohhaa
