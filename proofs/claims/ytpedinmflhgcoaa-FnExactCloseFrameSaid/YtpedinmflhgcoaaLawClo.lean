/- The walk of the law FnExactCloseFrame. Conditions: those in the theorems. -/
import Derived.Test.YtpedinmflhgcoaaClF
namespace Go.Proofs.Ytpedinmflhgcoaa
open Go.RowKit

set_option maxHeartbeats 4000000 in
set_option maxRecDepth 100000 in
theorem lawCloseFrame (n0 : Int) (x0 : List Int) (x1 : Int) (a0 : Option Addr) (len0 cap0 : Nat) (w : World) (h0 : IsArr w a0 len0 x0) :
    Calls Try.prog 6 #[.agg #[.int .i64 n0, .slice a0 len0 cap0], .int .i64 x1] w fun e w' => e = .returned (.bool true) ∧ Below w.heap.size w w' := by
  obtain rfl := h0.1.1
  have m0 := h0.2
  have H0 := Lib.hid h0.1
  clear h0
  obtain ⟨rn, hrn⟩ : ∃ r, r = ((clL n0 x0 (Classical.epsilon (EuSpec x0)) x1).length : Int) := ⟨_, rfl⟩
  obtain ⟨rl, hrl⟩ : ∃ r, r = clL n0 x0 (Classical.epsilon (EuSpec x0)) x1 := ⟨_, rfl⟩
  obtain ⟨r1, hr1⟩ : ∃ r, r = clC n0 x0 x1 := ⟨_, rfl⟩
  have hly : rl.length ≤ 1048576 := by rw [hrl]; exact CloseFrame_len n0 x0 x1
  have Rn := Lib.hid hrn
  clear hrn
  have Rl := Lib.hid hrl
  clear hrl
  have R1 := Lib.hid hr1
  clear hr1
  obtain ⟨W0, hW0⟩ : ∃ W0, W0 = (w.alloc (.cells #[.int .i64 n0, .slice a0 x0.length cap0] 37)) := ⟨_, rfl⟩
  have B0 : Below w.heap.size w W0 := by rw [hW0]; exact ((Below.refl w.heap.size w).alloc (by simp) _)
  have Q0f0 := Lib.hid (show Bx W0 (w.heap.size) n0 a0 x0.length cap0 by rw [hW0]; exact (Bx.new _ _ _ _ _ _))
  have zz : w.heap.size + 1 ≤ W0.heap.size := by rw [hW0]; simp
  have K0 := Lib.hid (H0.out.keep B0 (Nat.le_refl _))
  clear H0
  have hWW := Lib.hid hW0
  clear hW0
  go_enter Try.func6, Try.ntmps6
  go_wp2_with fail
  refine (szFrame_any n0 _ _ _ (1048576 : Int) _ m0 (by omega) (by omega)).mono ?_
  obtain ⟨s0, hs0⟩ : ∃ s, s = szG (1048576 : Int) x0.length := ⟨_, rfl⟩
  rw [← hs0]
  rintro e w1 ⟨rfl, hb⟩
  rw [← hWW.out] at hb
  have z2 : W0.heap.size ≤ w1.heap.size := hb.size
  have B2 : Below W0.heap.size W0 w1 := (Below.refl W0.heap.size W0).trans (hb.mono (Below.refl W0.heap.size W0).size)
  have Q3f0 := Lib.hid (Q0f0.out.keep hb)
  clear Q0f0
  clear hb
  by_cases hb0 : (1048576 : Int) < (x0.length : Int)
  · rw [szG_no hb0] at hs0
    subst hs0
    go_wp2
    go_ret
    exact ⟨rfl, B0.trans (B2.mono B0.size)⟩
  rw [szG_yes hb0] at hs0
  have hl0 : x0.length ≤ 1048576 := by omega
  have s00 : 0 ≤ s0 := by omega
  have s10 : s0 ≤ 1048576 := by omega
  clear hs0
  have y5 : W0.heap.size ≤ w1.heap.size := B2.size
  obtain ⟨lt0, ca0, cb0⟩ := Q3f0.out
  go_wp2_with fail
  clear lt0 ca0 cb0
  have y6 : W0.heap.size ≤ w1.heap.size := B2.size
  refine (toFrame_any n0 x0 _ _ _ _ hl0 (K0.out.keep B2 (Nat.le_refl _))).mono ?_
  rintro e w4 ⟨vs0, rfl, ho, hb⟩
  obtain ⟨bs0, cs0, rfl⟩ := ho.form
  have oo := Lib.hid (ho.inF hb.size)
  clear ho
  have z7 : w1.heap.size ≤ w4.heap.size := hb.size
  have B7 : Below W0.heap.size W0 w4 := B2.trans (hb.mono B2.size)
  have Q8f0 := Lib.hid (Q3f0.out.keep hb)
  clear Q3f0
  clear hb
  have O9s0 := Lib.hid oo.out
  clear oo
  go_wp2_with fail
  have y11 : W0.heap.size ≤ w4.heap.size := B7.size
  refine (specCloseFrame_v n0 x0 x1 _ _ _ _ hl0 O9s0.out).mono ?_
  rw [← Rn.out, ← Rl.out, ← R1.out]
  rintro e w10 ⟨vw, rfl, ho, hb⟩
  obtain ⟨bw, cw, rfl⟩ := ho.form
  have oo := Lib.hid (ho.inF hb.size)
  clear ho
  have z12 : w4.heap.size ≤ w10.heap.size := hb.size
  have B12 : Below W0.heap.size W0 w10 := B7.trans (hb.mono B7.size)
  have O13s0 := Lib.hid (O9s0.out.below hb O9s0.out.hi)
  have Q13f0 := Lib.hid (Q8f0.out.keep hb)
  clear O9s0 Q8f0
  clear hb
  have O14w := Lib.hid oo.out
  clear oo
  clear O13s0
  have y16 : W0.heap.size ≤ w10.heap.size := B12.size
  obtain ⟨lt0, ca0, cb0⟩ := Q13f0.out
  go_wp2_with fail
  clear lt0 ca0 cb0
  obtain ⟨wb17, hwb17⟩ : ∃ W, W = w10.alloc (.cells #[.int .i64 rn, .slice bw rl.length cw] 40) := ⟨_, rfl⟩
  rw [← hwb17]
  have hq := Lib.hid (show Bx wb17 w10.heap.size (rn) bw (rl.length) cw by rw [hwb17]; exact Bx.new _ _ _ _ _ _)
  obtain ⟨hb, hsz⟩ : Below w10.heap.size w10 wb17 ∧ w10.heap.size + 1 ≤ wb17.heap.size := by rw [hwb17]; exact alloc_keep _ _
  clear hwb17
  have z18 : w10.heap.size + 1 ≤ wb17.heap.size := hsz
  have B18 : Below W0.heap.size W0 wb17 := B12.trans (hb.mono B12.size)
  have O19w := Lib.hid (O14w.out.below hb O14w.out.hi)
  have Q19f0 := Lib.hid (Q13f0.out.keep hb)
  clear O14w Q13f0
  clear hb
  clear hsz
  have Q17bw := Lib.hid hq.out
  clear hq
  have y20 : W0.heap.size ≤ wb17.heap.size := B18.size
  refine (toFrame_any n0 x0 _ _ _ _ hl0 (K0.out.keep B18 (Nat.le_refl _))).mono ?_
  rintro e w15 ⟨vx0, rfl, ho, hb⟩
  obtain ⟨bx0, cx0, rfl⟩ := ho.form
  have oo := Lib.hid (ho.inF hb.size)
  clear ho
  have z21 : wb17.heap.size ≤ w15.heap.size := hb.size
  have B21 : Below W0.heap.size W0 w15 := B18.trans (hb.mono B18.size)
  have O22w := Lib.hid (O19w.out.below hb O19w.out.hi)
  have Q22f0 := Lib.hid (Q19f0.out.keep hb)
  have Q22w := Lib.hid (Q17bw.out.keep hb)
  clear O19w Q19f0 Q17bw
  clear hb
  have O23x0 := Lib.hid oo.out
  clear oo
  go_wp2_with fail
  obtain ⟨wb25, hwb25⟩ : ∃ W, W = w15.alloc (.cells #[.int .i64 n0, .slice bx0 x0.length cx0] 40) := ⟨_, rfl⟩
  rw [← hwb25]
  have hq := Lib.hid (show Bx wb25 w15.heap.size (n0) bx0 (x0.length) cx0 by rw [hwb25]; exact Bx.new _ _ _ _ _ _)
  obtain ⟨hb, hsz⟩ : Below w15.heap.size w15 wb25 ∧ w15.heap.size + 1 ≤ wb25.heap.size := by rw [hwb25]; exact alloc_keep _ _
  clear hwb25
  have z26 : w15.heap.size + 1 ≤ wb25.heap.size := hsz
  have B26 : Below W0.heap.size W0 wb25 := B21.trans (hb.mono B21.size)
  have O27w := Lib.hid (O22w.out.below hb O22w.out.hi)
  have O27x0 := Lib.hid (O23x0.out.below hb O23x0.out.hi)
  have Q27f0 := Lib.hid (Q22f0.out.keep hb)
  have Q27w := Lib.hid (Q22w.out.keep hb)
  clear O22w O23x0 Q22f0 Q22w
  clear hb
  clear hsz
  have Q25bx0 := Lib.hid hq.out
  clear hq
  have y28 : W0.heap.size ≤ wb25.heap.size := B26.size
  refine (implCloseFrame_v n0 x0 x1 _ _ _ _ hl0 O27x0.out).mono ?_
  rw [← Rn.out, ← Rl.out, ← R1.out]
  rintro e w24 ⟨vg, rfl, ho, hb⟩
  obtain ⟨bg, cg, rfl⟩ := ho.form
  have oo := Lib.hid (ho.inF hb.size)
  clear ho
  have z29 : wb25.heap.size ≤ w24.heap.size := hb.size
  have B29 : Below W0.heap.size W0 w24 := B26.trans (hb.mono B26.size)
  have O30w := Lib.hid (O27w.out.below hb O27w.out.hi)
  have O30x0 := Lib.hid (O27x0.out.below hb O27x0.out.hi)
  have Q30f0 := Lib.hid (Q27f0.out.keep hb)
  have Q30w := Lib.hid (Q27w.out.keep hb)
  have Q30x0 := Lib.hid (Q25bx0.out.keep hb)
  clear O27w O27x0 Q27f0 Q27w Q25bx0
  clear hb
  have O31g := Lib.hid oo.out
  clear oo
  obtain ⟨lt0, ca0, cb0⟩ := Q30w.out
  go_wp2_with fail
  clear lt0 ca0 cb0
  obtain ⟨wb33, hwb33⟩ : ∃ W, W = w24.alloc (.cells #[.int .i64 rn, .slice bg rl.length cg] 40) := ⟨_, rfl⟩
  rw [← hwb33]
  have hq := Lib.hid (show Bx wb33 w24.heap.size (rn) bg (rl.length) cg by rw [hwb33]; exact Bx.new _ _ _ _ _ _)
  obtain ⟨hb, hsz⟩ : Below w24.heap.size w24 wb33 ∧ w24.heap.size + 1 ≤ wb33.heap.size := by rw [hwb33]; exact alloc_keep _ _
  clear hwb33
  have z34 : w24.heap.size + 1 ≤ wb33.heap.size := hsz
  have B34 : Below W0.heap.size W0 wb33 := B29.trans (hb.mono B29.size)
  have O35w := Lib.hid (O30w.out.below hb O30w.out.hi)
  have O35x0 := Lib.hid (O30x0.out.below hb O30x0.out.hi)
  have O35g := Lib.hid (O31g.out.below hb O31g.out.hi)
  have Q35f0 := Lib.hid (Q30f0.out.keep hb)
  have Q35w := Lib.hid (Q30w.out.keep hb)
  have Q35x0 := Lib.hid (Q30x0.out.keep hb)
  clear O30w O30x0 O31g Q30f0 Q30w Q30x0
  clear hb
  clear hsz
  have Q33bg := Lib.hid hq.out
  clear hq
  refine (eqF_in rn rl _ _ _ _ _ _ _ hly O35g.out O35w.out).mono ?_
  rintro e w32 ⟨rfl, hb⟩
  have z36 : wb33.heap.size ≤ w32.heap.size := hb.size
  have B36 : Below W0.heap.size W0 w32 := B34.trans (hb.mono B34.size)
  have O37w := Lib.hid (O35w.out.below hb O35w.out.hi)
  have O37x0 := Lib.hid (O35x0.out.below hb O35x0.out.hi)
  have O37g := Lib.hid (O35g.out.below hb O35g.out.hi)
  have Q37f0 := Lib.hid (Q35f0.out.keep hb)
  have Q37w := Lib.hid (Q35w.out.keep hb)
  have Q37x0 := Lib.hid (Q35x0.out.keep hb)
  have Q37g := Lib.hid (Q33bg.out.keep hb)
  clear O35w O35x0 O35g Q35f0 Q35w Q35x0 Q33bg
  clear hb
  obtain ⟨lt0, ca0, cb0⟩ := Q37f0.out
  obtain ⟨lt1, ca1, cb1⟩ := Q37x0.out
  go_wp2
  go_region_held3 (fun w' => w'.cell? ⟨w.heap.size, 0, none⟩ = some (.int .i64 n0) ∧ w'.cell? ⟨w.heap.size, 1, none⟩ = some (.slice a0 x0.length cap0) ∧ w'.cell? ⟨w15.heap.size, 0, none⟩ = some (.int .i64 (n0)) ∧ w'.cell? ⟨w15.heap.size, 1, none⟩ = some (.slice bx0 (x0.length) cx0)) (first | exact ⟨ca0, cb0, ca1, cb1⟩ | exact ⟨da0, db0, da1, db1⟩ | exact ⟨ea0, eb0, ea1, eb1⟩ | go_keep) (first | (go_at_call 27; refine (toFrame_any n0 x0 _ _ _ _ hl0 (K0.out.keep B36 (Nat.le_refl _)).drw).mono ?_; rintro e w38 ⟨vy, rfl, ho, hb⟩; obtain ⟨by38, cy38, rfl⟩ := ho.form; have yy := Lib.hid (ho.inF hb.size); clear ho; have tt := Lib.hid (below_of_drew hb); clear hb; obtain ⟨mt0, da0, db0⟩ := Q37f0.out.keep tt.out; obtain ⟨mt1, da1, db1⟩ := Q37x0.out.keep tt.out) | (go_at_call 29; refine (eqF_in n0 x0 _ _ _ _ _ _ _ hl0 (O37x0.out.below tt.out O37x0.out.hi) yy.out).mono ?_; rintro e w38' ⟨rfl, hb⟩; have uu := Lib.hid (tt.out.trans (hb.mono tt.out.size)); clear hb; obtain ⟨nt0, ea0, eb0⟩ := Q37f0.out.keep uu.out; obtain ⟨nt1, ea1, eb1⟩ := Q37x0.out.keep uu.out))
  clear lt0 ca0 cb0 lt1 ca1 cb1 mt0 da0 db0 mt1 da1 db1 nt0 ea0 eb0 nt1 ea1 eb1 yy tt
  have hb := uu.out
  clear uu
  have z39 : w32.heap.size ≤ w38'.heap.size := hb.size
  have B39 : Below W0.heap.size W0 w38' := B36.trans (hb.mono B36.size)
  have O40w := Lib.hid (O37w.out.below hb O37w.out.hi)
  have O40x0 := Lib.hid (O37x0.out.below hb O37x0.out.hi)
  have O40g := Lib.hid (O37g.out.below hb O37g.out.hi)
  have Q40f0 := Lib.hid (Q37f0.out.keep hb)
  have Q40w := Lib.hid (Q37w.out.keep hb)
  have Q40x0 := Lib.hid (Q37x0.out.keep hb)
  have Q40g := Lib.hid (Q37g.out.keep hb)
  clear O37w O37x0 O37g Q37f0 Q37w Q37x0 Q37g
  clear hb
  obtain ⟨lt0, ca0, cb0⟩ := Q40x0.out
  go_wp2_with fail
  clear lt0 ca0 cb0
  refine (markF_in n0 x0 _ _ _ _ _ hl0 (by omega) (by omega) O40x0.out).mono ?_
  rintro e w41 ⟨rfl, om, hb, hg⟩
  have z41 := hb.size
  have B41 : Below W0.heap.size W0 w41 := B39.trans (hb.mono y20)
  have O42w := Lib.hid (O40w.out.oth O40x0.out.blk hg (by omega))
  have O42g := Lib.hid (O40g.out.oth O40x0.out.blk hg (by omega))
  have Q42f0 := Lib.hid (Q40f0.out.oth O40x0.out.blk hg (by omega))
  have Q42w := Lib.hid (Q40w.out.oth O40x0.out.blk hg (by omega))
  have Q42x0 := Lib.hid (Q40x0.out.oth O40x0.out.blk hg (by omega))
  have Q42g := Lib.hid (Q40g.out.oth O40x0.out.blk hg (by omega))
  clear O40w O40g Q40f0 Q40w Q40x0 Q40g
  have O41x0 := Lib.hid om
  clear hb hg om O40x0
  clear O41x0
  clear Q42x0
  obtain ⟨lt0, ca0, cb0⟩ := Q42w.out
  obtain ⟨lt1, ca1, cb1⟩ := Q42g.out
  go_wp2_with fail
  clear lt0 ca0 cb0 lt1 ca1 cb1
  refine (eqF_in rn rl _ _ _ _ _ _ _ hly O42g.out O42w.out).mono ?_
  rintro e w43 ⟨rfl, hb⟩
  have z44 : w41.heap.size ≤ w43.heap.size := hb.size
  have B44 : Below W0.heap.size W0 w43 := B41.trans (hb.mono B41.size)
  have O45w := Lib.hid (O42w.out.below hb O42w.out.hi)
  have O45g := Lib.hid (O42g.out.below hb O42g.out.hi)
  have Q45f0 := Lib.hid (Q42f0.out.keep hb)
  have Q45w := Lib.hid (Q42w.out.keep hb)
  have Q45g := Lib.hid (Q42g.out.keep hb)
  clear O42w O42g Q42f0 Q42w Q42g
  clear hb
  obtain ⟨lt0, ca0, cb0⟩ := Q45g.out
  go_wp2_with fail
  clear lt0 ca0 cb0
  refine (markF_in rn rl _ _ _ _ _ hly (by omega) (by omega) O45g.out).mono ?_
  rintro e w46 ⟨rfl, om, hb, hg⟩
  have z46 := hb.size
  have B46 : Below W0.heap.size W0 w46 := B44.trans (hb.mono y28)
  have O47w := Lib.hid (O45w.out.oth O45g.out.blk hg (by omega))
  have Q47f0 := Lib.hid (Q45f0.out.oth O45g.out.blk hg (by omega))
  have Q47w := Lib.hid (Q45w.out.oth O45g.out.blk hg (by omega))
  have Q47g := Lib.hid (Q45g.out.oth O45g.out.blk hg (by omega))
  clear O45w Q45f0 Q45w Q45g
  have O46g := Lib.hid om
  clear hb hg om O45g
  obtain ⟨lt0, ca0, cb0⟩ := Q47g.out
  go_wp2_with fail
  clear lt0 ca0 cb0
  refine (heldF_in rl.length _ _ _ _ _ hly (by omega) (by omega) O46g.out).mono ?_
  rintro e w48 ⟨rfl, hb⟩
  have z49 : w46.heap.size ≤ w48.heap.size := hb.size
  have B49 : Below W0.heap.size W0 w48 := B46.trans (hb.mono B46.size)
  have O50w := Lib.hid (O47w.out.below hb O47w.out.hi)
  have O50g := Lib.hid (O46g.out.below hb O46g.out.hi)
  have Q50f0 := Lib.hid (Q47f0.out.keep hb)
  have Q50w := Lib.hid (Q47w.out.keep hb)
  have Q50g := Lib.hid (Q47g.out.keep hb)
  clear O47w O46g Q47f0 Q47w Q47g
  clear hb
  have y52 : W0.heap.size ≤ w48.heap.size := B49.size
  obtain ⟨lt0, ca0, cb0⟩ := Q50f0.out
  go_wp2_with fail
  clear lt0 ca0 cb0
  have y53 : W0.heap.size ≤ w48.heap.size := B49.size
  refine (toFrame_any n0 x0 _ _ _ _ hl0 (K0.out.keep B49 (Nat.le_refl _))).mono ?_
  rintro e w51 ⟨vt0, rfl, ho, hb⟩
  obtain ⟨bt0, ct0, rfl⟩ := ho.form
  have oo := Lib.hid (ho.inF hb.size)
  clear ho
  have z54 : w48.heap.size ≤ w51.heap.size := hb.size
  have B54 : Below W0.heap.size W0 w51 := B49.trans (hb.mono B49.size)
  have O55w := Lib.hid (O50w.out.below hb O50w.out.hi)
  have O55g := Lib.hid (O50g.out.below hb O50g.out.hi)
  have Q55f0 := Lib.hid (Q50f0.out.keep hb)
  have Q55w := Lib.hid (Q50w.out.keep hb)
  have Q55g := Lib.hid (Q50g.out.keep hb)
  clear O50w O50g Q50f0 Q50w Q50g
  clear hb
  have O56t0 := Lib.hid oo.out
  clear oo
  go_wp2_with fail
  have y58 : W0.heap.size ≤ w51.heap.size := B54.size
  refine (implCloseFrame_v n0 x0 x1 _ _ _ _ hl0 O56t0.out).mono ?_
  rw [← Rn.out, ← Rl.out, ← R1.out]
  rintro e w57 ⟨vh, rfl, ho, hb⟩
  obtain ⟨bh, ch, rfl⟩ := ho.form
  have oo := Lib.hid (ho.inF hb.size)
  clear ho
  have z59 : w51.heap.size ≤ w57.heap.size := hb.size
  have B59 : Below W0.heap.size W0 w57 := B54.trans (hb.mono B54.size)
  have O60w := Lib.hid (O55w.out.below hb O55w.out.hi)
  have O60g := Lib.hid (O55g.out.below hb O55g.out.hi)
  have O60t0 := Lib.hid (O56t0.out.below hb O56t0.out.hi)
  have Q60f0 := Lib.hid (Q55f0.out.keep hb)
  have Q60w := Lib.hid (Q55w.out.keep hb)
  have Q60g := Lib.hid (Q55g.out.keep hb)
  clear O55w O55g O56t0 Q55f0 Q55w Q55g
  clear hb
  have O61h := Lib.hid oo.out
  clear oo
  clear O60t0
  obtain ⟨lt0, ca0, cb0⟩ := Q60w.out
  go_wp2_with fail
  clear lt0 ca0 cb0
  obtain ⟨wb63, hwb63⟩ : ∃ W, W = w57.alloc (.cells #[.int .i64 rn, .slice bh rl.length ch] 40) := ⟨_, rfl⟩
  rw [← hwb63]
  have hq := Lib.hid (show Bx wb63 w57.heap.size (rn) bh (rl.length) ch by rw [hwb63]; exact Bx.new _ _ _ _ _ _)
  obtain ⟨hb, hsz⟩ : Below w57.heap.size w57 wb63 ∧ w57.heap.size + 1 ≤ wb63.heap.size := by rw [hwb63]; exact alloc_keep _ _
  clear hwb63
  have z64 : w57.heap.size + 1 ≤ wb63.heap.size := hsz
  have B64 : Below W0.heap.size W0 wb63 := B59.trans (hb.mono B59.size)
  have O65w := Lib.hid (O60w.out.below hb O60w.out.hi)
  have O65g := Lib.hid (O60g.out.below hb O60g.out.hi)
  have O65h := Lib.hid (O61h.out.below hb O61h.out.hi)
  have Q65f0 := Lib.hid (Q60f0.out.keep hb)
  have Q65w := Lib.hid (Q60w.out.keep hb)
  have Q65g := Lib.hid (Q60g.out.keep hb)
  clear O60w O60g O61h Q60f0 Q60w Q60g
  clear hb
  clear hsz
  have Q63bh := Lib.hid hq.out
  clear hq
  refine (eqF_in rn rl _ _ _ _ _ _ _ hly O65h.out O65w.out).mono ?_
  rintro e w62 ⟨rfl, hb⟩
  have z66 : wb63.heap.size ≤ w62.heap.size := hb.size
  have B66 : Below W0.heap.size W0 w62 := B64.trans (hb.mono B64.size)
  have O67w := Lib.hid (O65w.out.below hb O65w.out.hi)
  have O67g := Lib.hid (O65g.out.below hb O65g.out.hi)
  have O67h := Lib.hid (O65h.out.below hb O65h.out.hi)
  have Q67f0 := Lib.hid (Q65f0.out.keep hb)
  have Q67w := Lib.hid (Q65w.out.keep hb)
  have Q67g := Lib.hid (Q65g.out.keep hb)
  have Q67h := Lib.hid (Q63bh.out.keep hb)
  clear O65w O65g O65h Q65f0 Q65w Q65g Q63bh
  clear hb
  clear O67h
  clear O67w
  obtain ⟨lt0, ca0, cb0⟩ := Q67g.out
  go_wp2_with fail
  clear lt0 ca0 cb0
  refine (heldF_in rl.length _ _ _ _ _ hly (by omega) (by omega) O67g.out).mono ?_
  rintro e w68 ⟨rfl, hb⟩
  have z69 : w62.heap.size ≤ w68.heap.size := hb.size
  have B69 : Below W0.heap.size W0 w68 := B66.trans (hb.mono B66.size)
  have O70g := Lib.hid (O67g.out.below hb O67g.out.hi)
  have Q70f0 := Lib.hid (Q67f0.out.keep hb)
  have Q70w := Lib.hid (Q67w.out.keep hb)
  have Q70g := Lib.hid (Q67g.out.keep hb)
  have Q70h := Lib.hid (Q67h.out.keep hb)
  clear O67g Q67f0 Q67w Q67g Q67h
  clear hb
  go_wp2
  go_ret
  exact ⟨rfl, B0.trans (B69.mono B0.size)⟩

end Go.Proofs.Ytpedinmflhgcoaa
