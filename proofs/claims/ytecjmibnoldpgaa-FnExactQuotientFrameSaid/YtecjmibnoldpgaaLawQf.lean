/- The walk of the law FnExactQuotientFrame. Conditions: those in the theorems. -/
import Derived.Test.YtecjmibnoldpgaaQfV
import Derived.Test.YtecjmibnoldpgaaSameI
namespace Go.Proofs.Ytecjmibnoldpgaa
open Go.RowKit

set_option maxHeartbeats 4000000 in
set_option maxRecDepth 100000 in
theorem lawQuotientFrame (n0 : Int) (x0 : List Int) (x1 : List Int) (a0 : Option Addr) (len0 cap0 : Nat) (a1 : Option Addr) (len1 cap1 : Nat) (w : World) (h0 : IsArr w a0 len0 x0) (h1 : At w a1 len1 x1) (hwf1 : WfL x1) :
    Calls Try.prog 8 #[.agg #[.int .i64 n0, .slice a0 len0 cap0], .slice a1 len1 cap1] w fun e w' => e = .returned (.bool true) ∧ Below w.heap.size w w' := by
  obtain rfl := h0.1.1
  obtain rfl := h1.1
  have m0 := h0.2
  have H0 := Lib.hid h0.1
  clear h0
  have H1 := Lib.hid h1
  clear h1
  obtain ⟨rn, hrn⟩ : ∃ r, r = ((qfL n0 x0 x1).length : Int) := ⟨_, rfl⟩
  obtain ⟨rl, hrl⟩ : ∃ r, r = (qfL n0 x0 x1) := ⟨_, rfl⟩
  obtain ⟨r1, hr1⟩ : ∃ r, r = (qfC n0 x0 x1) := ⟨_, rfl⟩
  have hly : rl.length ≤ 1048576 := by rw [hrl]; exact QuotientFrame_len n0 x0 x1
  have Rn := Lib.hid hrn
  clear hrn
  have Rl := Lib.hid hrl
  clear hrl
  have R1 := Lib.hid hr1
  clear hr1
  obtain ⟨W0, hW0⟩ : ∃ W0, W0 = (w.alloc (.cells #[.int .i64 n0, .slice a0 x0.length cap0] 24)) := ⟨_, rfl⟩
  have B0 : Below w.heap.size w W0 := by rw [hW0]; exact ((Below.refl w.heap.size w).alloc (by simp) _)
  have WF1 := Lib.hid hwf1
  clear hwf1
  have Q0f0 := Lib.hid (show Bx W0 (w.heap.size) n0 a0 x0.length cap0 by rw [hW0]; exact (Bx.new _ _ _ _ _ _))
  have zz : w.heap.size + 1 ≤ W0.heap.size := by rw [hW0]; simp
  have K0 := Lib.hid (H0.out.keep B0 (Nat.le_refl _))
  clear H0
  have K1 := Lib.hid (H1.out.keep B0 (Nat.le_refl _))
  clear H1
  have hWW := Lib.hid hW0
  clear hW0
  by_cases hbig1 : 1048576 < x1.length
  · go_enter Try.func8, Try.ntmps8
    go_wp2
    go_ret
    exact ⟨rfl, by rw [← hWW.out]; exact B0⟩
  have hl1 : x1.length ≤ 1048576 := by omega
  clear hbig1
  go_enter Try.func8, Try.ntmps8
  go_wp2_with fail
  refine (szFrame_any n0 _ _ _ (1048576 : Int) _ m0 (by omega) (by omega)).mono ?_
  obtain ⟨s0, hs0⟩ : ∃ s, s = szG (1048576 : Int) x0.length := ⟨_, rfl⟩
  rw [← hs0]
  rintro e w1 ⟨rfl, hb⟩
  rw [← hWW.out] at hb
  have z2 : W0.heap.size ≤ w1.heap.size := hb.size
  have B2 : Below W0.heap.size W0 w1 := (Below.refl W0.heap.size W0).trans (hb.mono (Below.refl W0.heap.size W0).size)
  have Q3f0 := Lib.hid (Q0f0.out.keep hb)
  clear Q0f0
  clear hb
  by_cases hb0 : (1048576 : Int) < (x0.length : Int)
  · rw [szG_no hb0] at hs0
    subst hs0
    go_wp2
    go_ret
    exact ⟨rfl, B0.trans (B2.mono B0.size)⟩
  rw [szG_yes hb0] at hs0
  have hl0 : x0.length ≤ 1048576 := by omega
  have s00 : 0 ≤ s0 := by omega
  have s10 : s0 ≤ 1048576 := by omega
  clear hs0
  obtain ⟨lt0, ca0, cb0⟩ := Q3f0.out
  go_wp2_with fail
  clear lt0 ca0 cb0
  have y5 : W0.heap.size ≤ w1.heap.size := B2.size
  refine (toFrame_any n0 x0 _ _ _ _ hl0 (K0.out.keep B2 (Nat.le_refl _))).mono ?_
  rintro e w4 ⟨vs0, rfl, ho, hb⟩
  obtain ⟨bs0, cs0, rfl⟩ := ho.form
  have oo := Lib.hid (ho.inF hb.size)
  clear ho
  have z6 : w1.heap.size ≤ w4.heap.size := hb.size
  have B6 : Below W0.heap.size W0 w4 := B2.trans (hb.mono B2.size)
  have Q7f0 := Lib.hid (Q3f0.out.keep hb)
  clear Q3f0
  clear hb
  have O8s0 := Lib.hid oo.out
  clear oo
  go_wp2_with fail
  have y10 : W0.heap.size ≤ w4.heap.size := B6.size
  refine (toInt64S_any x1 _ _ _ _ hl1 (K1.out.keep B6 (Nat.le_refl _))).mono ?_
  rintro e w9 ⟨vs1, rfl, ho, hb⟩
  have oo := Lib.hid ho.inn
  clear ho
  have z11 : w4.heap.size ≤ w9.heap.size := hb.size
  have B11 : Below W0.heap.size W0 w9 := B6.trans (hb.mono B6.size)
  have O12s0 := Lib.hid (O8s0.out.below hb O8s0.out.hi)
  have Q12f0 := Lib.hid (Q7f0.out.keep hb)
  clear O8s0 Q7f0
  clear hb
  have O13s1 := Lib.hid oo.out
  clear oo
  go_wp2_with fail
  have y15 : W0.heap.size ≤ w9.heap.size := B11.size
  refine (specQuotientFrame_v n0 x0 x1 _ _ _ _ _ _ _ hl0 hl1 O12s0.out O13s1.out).mono ?_
  rw [← Rn.out, ← Rl.out, ← R1.out]
  rintro e w14 ⟨vw, rfl, ho, hb⟩
  obtain ⟨bw, cw, rfl⟩ := ho.form
  have oo := Lib.hid (ho.inF hb.size)
  clear ho
  have z16 : w9.heap.size ≤ w14.heap.size := hb.size
  have B16 : Below W0.heap.size W0 w14 := B11.trans (hb.mono B11.size)
  have O17s0 := Lib.hid (O12s0.out.below hb O12s0.out.hi)
  have O17s1 := Lib.hid (O13s1.out.below hb O13s1.out.hi)
  have Q17f0 := Lib.hid (Q12f0.out.keep hb)
  clear O12s0 O13s1 Q12f0
  clear hb
  have O18w := Lib.hid oo.out
  clear oo
  clear O17s0
  clear O17s1
  obtain ⟨lt0, ca0, cb0⟩ := Q17f0.out
  go_wp2_with fail
  clear lt0 ca0 cb0
  obtain ⟨wb20, hwb20⟩ : ∃ W, W = w14.alloc (.cells #[.int .i64 rn, .slice bw rl.length cw] 28) := ⟨_, rfl⟩
  rw [← hwb20]
  have hq := Lib.hid (show Bx wb20 w14.heap.size (rn) bw (rl.length) cw by rw [hwb20]; exact Bx.new _ _ _ _ _ _)
  obtain ⟨hb, hsz⟩ : Below w14.heap.size w14 wb20 ∧ w14.heap.size + 1 ≤ wb20.heap.size := by rw [hwb20]; exact alloc_keep _ _
  clear hwb20
  have z21 : w14.heap.size + 1 ≤ wb20.heap.size := hsz
  have B21 : Below W0.heap.size W0 wb20 := B16.trans (hb.mono B16.size)
  have O22w := Lib.hid (O18w.out.below hb O18w.out.hi)
  have Q22f0 := Lib.hid (Q17f0.out.keep hb)
  clear O18w Q17f0
  clear hb
  clear hsz
  have Q20bw := Lib.hid hq.out
  clear hq
  have y23 : W0.heap.size ≤ wb20.heap.size := B21.size
  refine (toFrame_any n0 x0 _ _ _ _ hl0 (K0.out.keep B21 (Nat.le_refl _))).mono ?_
  rintro e w19 ⟨vx0, rfl, ho, hb⟩
  obtain ⟨bx0, cx0, rfl⟩ := ho.form
  have oo := Lib.hid (ho.inF hb.size)
  clear ho
  have z24 : wb20.heap.size ≤ w19.heap.size := hb.size
  have B24 : Below W0.heap.size W0 w19 := B21.trans (hb.mono B21.size)
  have O25w := Lib.hid (O22w.out.below hb O22w.out.hi)
  have Q25f0 := Lib.hid (Q22f0.out.keep hb)
  have Q25w := Lib.hid (Q20bw.out.keep hb)
  clear O22w Q22f0 Q20bw
  clear hb
  have O26x0 := Lib.hid oo.out
  clear oo
  go_wp2_with fail
  obtain ⟨wb28, hwb28⟩ : ∃ W, W = w19.alloc (.cells #[.int .i64 n0, .slice bx0 x0.length cx0] 28) := ⟨_, rfl⟩
  rw [← hwb28]
  have hq := Lib.hid (show Bx wb28 w19.heap.size (n0) bx0 (x0.length) cx0 by rw [hwb28]; exact Bx.new _ _ _ _ _ _)
  obtain ⟨hb, hsz⟩ : Below w19.heap.size w19 wb28 ∧ w19.heap.size + 1 ≤ wb28.heap.size := by rw [hwb28]; exact alloc_keep _ _
  clear hwb28
  have z29 : w19.heap.size + 1 ≤ wb28.heap.size := hsz
  have B29 : Below W0.heap.size W0 wb28 := B24.trans (hb.mono B24.size)
  have O30w := Lib.hid (O25w.out.below hb O25w.out.hi)
  have O30x0 := Lib.hid (O26x0.out.below hb O26x0.out.hi)
  have Q30f0 := Lib.hid (Q25f0.out.keep hb)
  have Q30w := Lib.hid (Q25w.out.keep hb)
  clear O25w O26x0 Q25f0 Q25w
  clear hb
  clear hsz
  have Q28bx0 := Lib.hid hq.out
  clear hq
  have y31 : W0.heap.size ≤ wb28.heap.size := B29.size
  refine (toInt64S_any x1 _ _ _ _ hl1 (K1.out.keep B29 (Nat.le_refl _))).mono ?_
  rintro e w27 ⟨vx1, rfl, ho, hb⟩
  have oo := Lib.hid ho.inn
  clear ho
  have z32 : wb28.heap.size ≤ w27.heap.size := hb.size
  have B32 : Below W0.heap.size W0 w27 := B29.trans (hb.mono B29.size)
  have O33w := Lib.hid (O30w.out.below hb O30w.out.hi)
  have O33x0 := Lib.hid (O30x0.out.below hb O30x0.out.hi)
  have Q33f0 := Lib.hid (Q30f0.out.keep hb)
  have Q33w := Lib.hid (Q30w.out.keep hb)
  have Q33x0 := Lib.hid (Q28bx0.out.keep hb)
  clear O30w O30x0 Q30f0 Q30w Q28bx0
  clear hb
  have O34x1 := Lib.hid oo.out
  clear oo
  obtain ⟨lt0, ca0, cb0⟩ := Q33x0.out
  go_wp2_with fail
  clear lt0 ca0 cb0
  have y36 : W0.heap.size ≤ w27.heap.size := B32.size
  refine (implQuotientFrame_v n0 x0 x1 _ _ _ _ _ _ _ hl0 hl1 O33x0.out O34x1.out WF1.out).mono ?_
  rw [← Rn.out, ← Rl.out, ← R1.out]
  rintro e w35 ⟨vg, rfl, ho, hb⟩
  obtain ⟨bg, cg, rfl⟩ := ho.form
  have oo := Lib.hid (ho.inF hb.size)
  clear ho
  have z37 : w27.heap.size ≤ w35.heap.size := hb.size
  have B37 : Below W0.heap.size W0 w35 := B32.trans (hb.mono B32.size)
  have O38w := Lib.hid (O33w.out.below hb O33w.out.hi)
  have O38x0 := Lib.hid (O33x0.out.below hb O33x0.out.hi)
  have O38x1 := Lib.hid (O34x1.out.below hb O34x1.out.hi)
  have Q38f0 := Lib.hid (Q33f0.out.keep hb)
  have Q38w := Lib.hid (Q33w.out.keep hb)
  have Q38x0 := Lib.hid (Q33x0.out.keep hb)
  clear O33w O33x0 O34x1 Q33f0 Q33w Q33x0
  clear hb
  have O39g := Lib.hid oo.out
  clear oo
  obtain ⟨lt0, ca0, cb0⟩ := Q38w.out
  go_wp2_with fail
  clear lt0 ca0 cb0
  obtain ⟨wb41, hwb41⟩ : ∃ W, W = w35.alloc (.cells #[.int .i64 rn, .slice bg rl.length cg] 28) := ⟨_, rfl⟩
  rw [← hwb41]
  have hq := Lib.hid (show Bx wb41 w35.heap.size (rn) bg (rl.length) cg by rw [hwb41]; exact Bx.new _ _ _ _ _ _)
  obtain ⟨hb, hsz⟩ : Below w35.heap.size w35 wb41 ∧ w35.heap.size + 1 ≤ wb41.heap.size := by rw [hwb41]; exact alloc_keep _ _
  clear hwb41
  have z42 : w35.heap.size + 1 ≤ wb41.heap.size := hsz
  have B42 : Below W0.heap.size W0 wb41 := B37.trans (hb.mono B37.size)
  have O43w := Lib.hid (O38w.out.below hb O38w.out.hi)
  have O43x0 := Lib.hid (O38x0.out.below hb O38x0.out.hi)
  have O43x1 := Lib.hid (O38x1.out.below hb O38x1.out.hi)
  have O43g := Lib.hid (O39g.out.below hb O39g.out.hi)
  have Q43f0 := Lib.hid (Q38f0.out.keep hb)
  have Q43w := Lib.hid (Q38w.out.keep hb)
  have Q43x0 := Lib.hid (Q38x0.out.keep hb)
  clear O38w O38x0 O38x1 O39g Q38f0 Q38w Q38x0
  clear hb
  clear hsz
  have Q41bg := Lib.hid hq.out
  clear hq
  refine (eqF_in rn rl _ _ _ _ _ _ _ hly O43g.out O43w.out).mono ?_
  rintro e w40 ⟨rfl, hb⟩
  have z44 : wb41.heap.size ≤ w40.heap.size := hb.size
  have B44 : Below W0.heap.size W0 w40 := B42.trans (hb.mono B42.size)
  have O45w := Lib.hid (O43w.out.below hb O43w.out.hi)
  have O45x0 := Lib.hid (O43x0.out.below hb O43x0.out.hi)
  have O45x1 := Lib.hid (O43x1.out.below hb O43x1.out.hi)
  have O45g := Lib.hid (O43g.out.below hb O43g.out.hi)
  have Q45f0 := Lib.hid (Q43f0.out.keep hb)
  have Q45w := Lib.hid (Q43w.out.keep hb)
  have Q45x0 := Lib.hid (Q43x0.out.keep hb)
  have Q45g := Lib.hid (Q41bg.out.keep hb)
  clear O43w O43x0 O43x1 O43g Q43f0 Q43w Q43x0 Q41bg
  clear hb
  obtain ⟨lt0, ca0, cb0⟩ := Q45f0.out
  obtain ⟨lt1, ca1, cb1⟩ := Q45x0.out
  go_wp2
  go_region_held3 (fun w' => w'.cell? ⟨w.heap.size, 0, none⟩ = some (.int .i64 n0) ∧ w'.cell? ⟨w.heap.size, 1, none⟩ = some (.slice a0 x0.length cap0) ∧ w'.cell? ⟨w19.heap.size, 0, none⟩ = some (.int .i64 (n0)) ∧ w'.cell? ⟨w19.heap.size, 1, none⟩ = some (.slice bx0 (x0.length) cx0)) (first | exact ⟨ca0, cb0, ca1, cb1⟩ | exact ⟨da0, db0, da1, db1⟩ | exact ⟨ea0, eb0, ea1, eb1⟩ | go_keep) (first | (go_at_call 13; refine (toFrame_any n0 x0 _ _ _ _ hl0 (K0.out.keep B44 (Nat.le_refl _)).drw).mono ?_; rintro e w46 ⟨vy, rfl, ho, hb⟩; obtain ⟨by46, cy46, rfl⟩ := ho.form; have yy := Lib.hid (ho.inF hb.size); clear ho; have tt := Lib.hid (below_of_drew hb); clear hb; obtain ⟨mt0, da0, db0⟩ := Q45f0.out.keep tt.out; obtain ⟨mt1, da1, db1⟩ := Q45x0.out.keep tt.out) | (go_at_call 16; refine (eqF_in n0 x0 _ _ _ _ _ _ _ hl0 (O45x0.out.below tt.out O45x0.out.hi) yy.out).mono ?_; rintro e w46' ⟨rfl, hb⟩; have uu := Lib.hid (tt.out.trans (hb.mono tt.out.size)); clear hb; obtain ⟨nt0, ea0, eb0⟩ := Q45f0.out.keep uu.out; obtain ⟨nt1, ea1, eb1⟩ := Q45x0.out.keep uu.out))
  clear lt0 lt1 mt0 mt1 nt0 nt1 yy tt ca0 cb0 da0 db0 ea0 eb0 ca1 cb1 da1 db1 ea1 eb1
  have hb := uu.out
  clear uu
  have z47 : w40.heap.size ≤ w46'.heap.size := hb.size
  have B47 : Below W0.heap.size W0 w46' := B44.trans (hb.mono B44.size)
  have O48w := Lib.hid (O45w.out.below hb O45w.out.hi)
  have O48x0 := Lib.hid (O45x0.out.below hb O45x0.out.hi)
  have O48x1 := Lib.hid (O45x1.out.below hb O45x1.out.hi)
  have O48g := Lib.hid (O45g.out.below hb O45g.out.hi)
  have Q48f0 := Lib.hid (Q45f0.out.keep hb)
  have Q48w := Lib.hid (Q45w.out.keep hb)
  have Q48x0 := Lib.hid (Q45x0.out.keep hb)
  have Q48g := Lib.hid (Q45g.out.keep hb)
  clear O45w O45x0 O45x1 O45g Q45f0 Q45w Q45x0 Q45g
  clear hb
  go_wp2_with fail
  have y50 : W0.heap.size ≤ w46'.heap.size := B47.size
  refine (toInt64S_any x1 _ _ _ _ hl1 (K1.out.keep B47 (Nat.le_refl _))).mono ?_
  rintro e w49 ⟨vy1, rfl, ho, hb⟩
  have oo := Lib.hid ho.inn
  clear ho
  have z51 : w46'.heap.size ≤ w49.heap.size := hb.size
  have B51 : Below W0.heap.size W0 w49 := B47.trans (hb.mono B47.size)
  have O52w := Lib.hid (O48w.out.below hb O48w.out.hi)
  have O52x0 := Lib.hid (O48x0.out.below hb O48x0.out.hi)
  have O52x1 := Lib.hid (O48x1.out.below hb O48x1.out.hi)
  have O52g := Lib.hid (O48g.out.below hb O48g.out.hi)
  have Q52f0 := Lib.hid (Q48f0.out.keep hb)
  have Q52w := Lib.hid (Q48w.out.keep hb)
  have Q52x0 := Lib.hid (Q48x0.out.keep hb)
  have Q52g := Lib.hid (Q48g.out.keep hb)
  clear O48w O48x0 O48x1 O48g Q48f0 Q48w Q48x0 Q48g
  clear hb
  have O53y1 := Lib.hid oo.out
  clear oo
  go_wp2_with fail
  refine (eqL_own x1 _ _ _ _ _ _ _ hl1 O52x1.out O53y1.out).mono ?_
  rintro e w54 ⟨rfl, hb⟩
  have z55 : w49.heap.size ≤ w54.heap.size := hb.size
  have B55 : Below W0.heap.size W0 w54 := B51.trans (hb.mono B51.size)
  have O56w := Lib.hid (O52w.out.below hb O52w.out.hi)
  have O56x0 := Lib.hid (O52x0.out.below hb O52x0.out.hi)
  have O56x1 := Lib.hid (O52x1.out.below hb O52x1.out.hi)
  have O56g := Lib.hid (O52g.out.below hb O52g.out.hi)
  have O56y1 := Lib.hid (O53y1.out.below hb O53y1.out.hi)
  have Q56f0 := Lib.hid (Q52f0.out.keep hb)
  have Q56w := Lib.hid (Q52w.out.keep hb)
  have Q56x0 := Lib.hid (Q52x0.out.keep hb)
  have Q56g := Lib.hid (Q52g.out.keep hb)
  clear O52w O52x0 O52x1 O52g O53y1 Q52f0 Q52w Q52x0 Q52g
  clear hb
  clear O56y1
  obtain ⟨lt0, ca0, cb0⟩ := Q56x0.out
  go_wp2_with fail
  clear lt0 ca0 cb0
  refine (markF_in n0 x0 _ _ _ _ _ hl0 (by omega) (by omega) O56x0.out).mono ?_
  rintro e w57 ⟨rfl, om, hb, hg⟩
  have z57 := hb.size
  have B57 : Below W0.heap.size W0 w57 := B55.trans (hb.mono y23)
  have hh57 := O56x0.out.hi
  have O58w := Lib.hid (O56w.out.oth O56x0.out.blk hg (by omega))
  have O58x1 := Lib.hid (O56x1.out.oth O56x0.out.blk hg (by omega))
  have O58g := Lib.hid (O56g.out.oth O56x0.out.blk hg (by omega))
  have Q58f0 := Lib.hid (Q56f0.out.oth O56x0.out.blk hg (by omega))
  have Q58w := Lib.hid (Q56w.out.oth O56x0.out.blk hg (by omega))
  have Q58x0 := Lib.hid (Q56x0.out.oth O56x0.out.blk hg (by omega))
  have Q58g := Lib.hid (Q56g.out.oth O56x0.out.blk hg (by omega))
  clear O56w O56x1 O56g Q56f0 Q56w Q56x0 Q56g
  have O57x0 := Lib.hid om
  clear hb hg om hh57 O56x0
  go_wp2_with fail
  refine (markL_own x1 _ _ _ _ _ hl1 (by omega) (by omega) O58x1.out).mono ?_
  rintro e w59 ⟨rfl, om, hb, hg⟩
  have z59 := hb.size
  have B59 : Below W0.heap.size W0 w59 := B57.trans (hb.mono y31)
  have hh59 := O58x1.out.hi
  have O60w := Lib.hid (O58w.out.oth O58x1.out.blk hg (by omega))
  have O60g := Lib.hid (O58g.out.oth O58x1.out.blk hg (by omega))
  have O60x0 := Lib.hid (O57x0.out.oth O58x1.out.blk hg (by omega))
  have Q60f0 := Lib.hid (Q58f0.out.oth O58x1.out.blk hg (by omega))
  have Q60w := Lib.hid (Q58w.out.oth O58x1.out.blk hg (by omega))
  have Q60x0 := Lib.hid (Q58x0.out.oth O58x1.out.blk hg (by omega))
  have Q60g := Lib.hid (Q58g.out.oth O58x1.out.blk hg (by omega))
  clear O58w O58g O57x0 Q58f0 Q58w Q58x0 Q58g
  have O59x1 := Lib.hid om
  clear hb hg om hh59 O58x1
  clear O60x0
  clear Q60x0
  clear O59x1
  obtain ⟨lt0, ca0, cb0⟩ := Q60w.out
  obtain ⟨lt1, ca1, cb1⟩ := Q60g.out
  go_wp2_with fail
  clear lt0 ca0 cb0 lt1 ca1 cb1
  refine (eqF_in rn rl _ _ _ _ _ _ _ hly O60g.out O60w.out).mono ?_
  rintro e w61 ⟨rfl, hb⟩
  have z62 : w59.heap.size ≤ w61.heap.size := hb.size
  have B62 : Below W0.heap.size W0 w61 := B59.trans (hb.mono B59.size)
  have O63w := Lib.hid (O60w.out.below hb O60w.out.hi)
  have O63g := Lib.hid (O60g.out.below hb O60g.out.hi)
  have Q63f0 := Lib.hid (Q60f0.out.keep hb)
  have Q63w := Lib.hid (Q60w.out.keep hb)
  have Q63g := Lib.hid (Q60g.out.keep hb)
  clear O60w O60g Q60f0 Q60w Q60g
  clear hb
  obtain ⟨lt0, ca0, cb0⟩ := Q63g.out
  go_wp2_with fail
  clear lt0 ca0 cb0
  refine (markF_in rn rl _ _ _ _ _ hly (by omega) (by omega) O63g.out).mono ?_
  rintro e w64 ⟨rfl, om, hb, hg⟩
  have z64 := hb.size
  have B64 : Below W0.heap.size W0 w64 := B62.trans (hb.mono y36)
  have hh64 := O63g.out.hi
  have O65w := Lib.hid (O63w.out.oth O63g.out.blk hg (by omega))
  have Q65f0 := Lib.hid (Q63f0.out.oth O63g.out.blk hg (by omega))
  have Q65w := Lib.hid (Q63w.out.oth O63g.out.blk hg (by omega))
  have Q65g := Lib.hid (Q63g.out.oth O63g.out.blk hg (by omega))
  clear O63w Q63f0 Q63w Q63g
  have O64g := Lib.hid om
  clear hb hg om hh64 O63g
  obtain ⟨lt0, ca0, cb0⟩ := Q65g.out
  go_wp2_with fail
  clear lt0 ca0 cb0
  refine (heldF_in rl.length _ _ _ _ _ hly (by omega) (by omega) O64g.out).mono ?_
  rintro e w66 ⟨rfl, hb⟩
  have z67 : w64.heap.size ≤ w66.heap.size := hb.size
  have B67 : Below W0.heap.size W0 w66 := B64.trans (hb.mono B64.size)
  have O68w := Lib.hid (O65w.out.below hb O65w.out.hi)
  have O68g := Lib.hid (O64g.out.below hb O64g.out.hi)
  have Q68f0 := Lib.hid (Q65f0.out.keep hb)
  have Q68w := Lib.hid (Q65w.out.keep hb)
  have Q68g := Lib.hid (Q65g.out.keep hb)
  clear O65w O64g Q65f0 Q65w Q65g
  clear hb
  obtain ⟨lt0, ca0, cb0⟩ := Q68f0.out
  go_wp2_with fail
  clear lt0 ca0 cb0
  have y70 : W0.heap.size ≤ w66.heap.size := B67.size
  refine (toFrame_any n0 x0 _ _ _ _ hl0 (K0.out.keep B67 (Nat.le_refl _))).mono ?_
  rintro e w69 ⟨vt0, rfl, ho, hb⟩
  obtain ⟨bt0, ct0, rfl⟩ := ho.form
  have oo := Lib.hid (ho.inF hb.size)
  clear ho
  have z71 : w66.heap.size ≤ w69.heap.size := hb.size
  have B71 : Below W0.heap.size W0 w69 := B67.trans (hb.mono B67.size)
  have O72w := Lib.hid (O68w.out.below hb O68w.out.hi)
  have O72g := Lib.hid (O68g.out.below hb O68g.out.hi)
  have Q72f0 := Lib.hid (Q68f0.out.keep hb)
  have Q72w := Lib.hid (Q68w.out.keep hb)
  have Q72g := Lib.hid (Q68g.out.keep hb)
  clear O68w O68g Q68f0 Q68w Q68g
  clear hb
  have O73t0 := Lib.hid oo.out
  clear oo
  go_wp2_with fail
  have y75 : W0.heap.size ≤ w69.heap.size := B71.size
  refine (toInt64S_any x1 _ _ _ _ hl1 (K1.out.keep B71 (Nat.le_refl _))).mono ?_
  rintro e w74 ⟨vt1, rfl, ho, hb⟩
  have oo := Lib.hid ho.inn
  clear ho
  have z76 : w69.heap.size ≤ w74.heap.size := hb.size
  have B76 : Below W0.heap.size W0 w74 := B71.trans (hb.mono B71.size)
  have O77w := Lib.hid (O72w.out.below hb O72w.out.hi)
  have O77g := Lib.hid (O72g.out.below hb O72g.out.hi)
  have O77t0 := Lib.hid (O73t0.out.below hb O73t0.out.hi)
  have Q77f0 := Lib.hid (Q72f0.out.keep hb)
  have Q77w := Lib.hid (Q72w.out.keep hb)
  have Q77g := Lib.hid (Q72g.out.keep hb)
  clear O72w O72g O73t0 Q72f0 Q72w Q72g
  clear hb
  have O78t1 := Lib.hid oo.out
  clear oo
  go_wp2_with fail
  have y80 : W0.heap.size ≤ w74.heap.size := B76.size
  refine (implQuotientFrame_v n0 x0 x1 _ _ _ _ _ _ _ hl0 hl1 O77t0.out O78t1.out WF1.out).mono ?_
  rw [← Rn.out, ← Rl.out, ← R1.out]
  rintro e w79 ⟨vh, rfl, ho, hb⟩
  obtain ⟨bh, ch, rfl⟩ := ho.form
  have oo := Lib.hid (ho.inF hb.size)
  clear ho
  have z81 : w74.heap.size ≤ w79.heap.size := hb.size
  have B81 : Below W0.heap.size W0 w79 := B76.trans (hb.mono B76.size)
  have O82w := Lib.hid (O77w.out.below hb O77w.out.hi)
  have O82g := Lib.hid (O77g.out.below hb O77g.out.hi)
  have O82t0 := Lib.hid (O77t0.out.below hb O77t0.out.hi)
  have O82t1 := Lib.hid (O78t1.out.below hb O78t1.out.hi)
  have Q82f0 := Lib.hid (Q77f0.out.keep hb)
  have Q82w := Lib.hid (Q77w.out.keep hb)
  have Q82g := Lib.hid (Q77g.out.keep hb)
  clear O77w O77g O77t0 O78t1 Q77f0 Q77w Q77g
  clear hb
  have O83h := Lib.hid oo.out
  clear oo
  clear O82t0
  clear O82t1
  obtain ⟨lt0, ca0, cb0⟩ := Q82w.out
  go_wp2_with fail
  clear lt0 ca0 cb0
  obtain ⟨wb85, hwb85⟩ : ∃ W, W = w79.alloc (.cells #[.int .i64 rn, .slice bh rl.length ch] 28) := ⟨_, rfl⟩
  rw [← hwb85]
  have hq := Lib.hid (show Bx wb85 w79.heap.size (rn) bh (rl.length) ch by rw [hwb85]; exact Bx.new _ _ _ _ _ _)
  obtain ⟨hb, hsz⟩ : Below w79.heap.size w79 wb85 ∧ w79.heap.size + 1 ≤ wb85.heap.size := by rw [hwb85]; exact alloc_keep _ _
  clear hwb85
  have z86 : w79.heap.size + 1 ≤ wb85.heap.size := hsz
  have B86 : Below W0.heap.size W0 wb85 := B81.trans (hb.mono B81.size)
  have O87w := Lib.hid (O82w.out.below hb O82w.out.hi)
  have O87g := Lib.hid (O82g.out.below hb O82g.out.hi)
  have O87h := Lib.hid (O83h.out.below hb O83h.out.hi)
  have Q87f0 := Lib.hid (Q82f0.out.keep hb)
  have Q87w := Lib.hid (Q82w.out.keep hb)
  have Q87g := Lib.hid (Q82g.out.keep hb)
  clear O82w O82g O83h Q82f0 Q82w Q82g
  clear hb
  clear hsz
  have Q85bh := Lib.hid hq.out
  clear hq
  refine (eqF_in rn rl _ _ _ _ _ _ _ hly O87h.out O87w.out).mono ?_
  rintro e w84 ⟨rfl, hb⟩
  have z88 : wb85.heap.size ≤ w84.heap.size := hb.size
  have B88 : Below W0.heap.size W0 w84 := B86.trans (hb.mono B86.size)
  have O89w := Lib.hid (O87w.out.below hb O87w.out.hi)
  have O89g := Lib.hid (O87g.out.below hb O87g.out.hi)
  have O89h := Lib.hid (O87h.out.below hb O87h.out.hi)
  have Q89f0 := Lib.hid (Q87f0.out.keep hb)
  have Q89w := Lib.hid (Q87w.out.keep hb)
  have Q89g := Lib.hid (Q87g.out.keep hb)
  have Q89h := Lib.hid (Q85bh.out.keep hb)
  clear O87w O87g O87h Q87f0 Q87w Q87g Q85bh
  clear hb
  clear O89h
  clear O89w
  obtain ⟨lt0, ca0, cb0⟩ := Q89g.out
  go_wp2_with fail
  clear lt0 ca0 cb0
  refine (heldF_in rl.length _ _ _ _ _ hly (by omega) (by omega) O89g.out).mono ?_
  rintro e w90 ⟨rfl, hb⟩
  have z91 : w84.heap.size ≤ w90.heap.size := hb.size
  have B91 : Below W0.heap.size W0 w90 := B88.trans (hb.mono B88.size)
  have O92g := Lib.hid (O89g.out.below hb O89g.out.hi)
  have Q92f0 := Lib.hid (Q89f0.out.keep hb)
  have Q92w := Lib.hid (Q89w.out.keep hb)
  have Q92g := Lib.hid (Q89g.out.keep hb)
  have Q92h := Lib.hid (Q89h.out.keep hb)
  clear O89g Q89f0 Q89w Q89g Q89h
  clear hb
  go_wp2
  go_ret
  exact ⟨rfl, B0.trans (B91.mono B0.size)⟩

end Go.Proofs.Ytecjmibnoldpgaa
