/- The walk of the law FnExactFirstRefutation. Conditions: those in the theorems. -/
import Derived.Test.YtnoaaklkbfbdbaaDoorJn18
namespace Go.Proofs.YtnoaaklkbfbdbaaDoor
open Go.RowKit

set_option maxHeartbeats 4000000 in
set_option maxRecDepth 100000 in
theorem lawFirstRefutation (n0 : Int) (x0 : List Int) (x1 : List Nd) (a0 : Option Addr) (len0 cap0 : Nat) (a1 : Option Addr) (len1 cap1 : Nat) (w : World) (h0 : IsArr w a0 len0 x0) (h1 : IsNodes w a1 len1 x1) (hB : Db w) :
    Calls Tryd.prog 3 #[.agg #[.int .i64 n0, .slice a0 len0 cap0], .slice a1 len1 cap1] w fun e w' => e = .returned (.bool true) ∧ Below w.heap.size w w' := by
  obtain rfl := h0.1.1
  obtain rfl := h1.1.1
  have m0 := h0.2
  have H0 := Lib.hid h0.1
  clear h0
  have m1 := h1.2
  have H1 := Lib.hid h1.1
  clear h1
  obtain ⟨rl, hrl⟩ : ∃ r, r = (fiL n0 x0 x1) := ⟨_, rfl⟩
  obtain ⟨r1, hr1⟩ : ∃ r, r = (fiW n0 x0 x1) := ⟨_, rfl⟩
  obtain ⟨r2, hr2⟩ : ∃ r, r = (fiC n0 x0 x1) := ⟨_, rfl⟩
  have hly : rl.length ≤ 1048576 := by rw [hrl]; exact FirstRefutation_len n0 x0 x1
  have Rl := Lib.hid hrl
  clear hrl
  have R1 := Lib.hid hr1
  clear hr1
  have R2 := Lib.hid hr2
  clear hr2
  obtain ⟨W0, hW0⟩ : ∃ W0, W0 = (w.alloc (.cells #[.int .i64 n0, .slice a0 x0.length cap0] 24)) := ⟨_, rfl⟩
  have B0 : Below w.heap.size w W0 := by rw [hW0]; exact ((Below.refl w.heap.size w).alloc (by simp) _)
  have TB0 := Lib.hid (hB.keep B0 (Nat.le_refl _))
  clear hB
  have Q0f0 := Lib.hid (show Bx W0 (w.heap.size) n0 a0 x0.length cap0 by rw [hW0]; exact (Bx.new _ _ _ _ _ _))
  have zz : w.heap.size + 1 ≤ W0.heap.size := by rw [hW0]; simp
  have K0 := Lib.hid (H0.out.keep B0 (Nat.le_refl _))
  clear H0
  have K1 := Lib.hid (H1.out.keep B0 (Nat.le_refl _))
  clear H1
  have hWW := Lib.hid hW0
  clear hW0
  go_enter Tryd.func3, Tryd.ntmps3
  go_wp2_with fail
  refine (szFrame_any n0 _ _ _ (1048576 : Int) _ m0 (by omega) (by omega)).mono ?_
  obtain ⟨s0, hs0⟩ : ∃ s, s = szG (1048576 : Int) x0.length := ⟨_, rfl⟩
  rw [← hs0]
  rintro e w1 ⟨rfl, hb⟩
  rw [← hWW.out] at hb
  have z2 : W0.heap.size ≤ w1.heap.size := hb.size
  have B2 : Below W0.heap.size W0 w1 := (Below.refl W0.heap.size W0).trans (hb.mono (Below.refl W0.heap.size W0).size)
  have Q3f0 := Lib.hid (Q0f0.out.keep hb)
  clear Q0f0
  clear hb
  by_cases hb0 : (1048576 : Int) < (x0.length : Int)
  · rw [szG_no hb0] at hs0
    subst hs0
    go_wp2
    go_ret
    exact ⟨rfl, B0.trans (B2.mono B0.size)⟩
  rw [szG_yes hb0] at hs0
  have hl0 : x0.length ≤ 1048576 := by omega
  have s00 : 0 ≤ s0 := by omega
  have s10 : s0 ≤ 1048576 := by omega
  clear hs0
  go_wp2_with fail
  refine (szNodeS_any _ _ _ _ _ m1 (by omega) (by omega)).mono ?_
  obtain ⟨s1, hs1⟩ : ∃ s, s = szI s0 x1.length := ⟨_, rfl⟩
  rw [← hs1]
  rintro e w' ⟨rfl, rfl⟩
  by_cases hb1 : s0 < (x1.length : Int)
  · rw [szI_no hb1] at hs1
    subst hs1
    go_wp2
    go_ret
    exact ⟨rfl, B0.trans (B2.mono B0.size)⟩
  rw [szI_yes hb1] at hs1
  have hl1 : x1.length ≤ 1048576 := by omega
  have s01 : 0 ≤ s1 := by omega
  have s11 : s1 ≤ 1048576 := by omega
  clear hs1
  obtain ⟨lt0, ca0, cb0⟩ := Q3f0.out
  go_wp2_with fail
  clear lt0 ca0 cb0
  have y6 : W0.heap.size ≤ w1.heap.size := B2.size
  refine (toFrame_any n0 x0 _ _ _ _ hl0 (K0.out.keep B2 (Nat.le_refl _))).mono ?_
  rintro e w5 ⟨vs0, rfl, ho, hb⟩
  obtain ⟨bs0, cs0, rfl⟩ := ho.form
  have oo := Lib.hid (ho.inF hb.size)
  clear ho
  have z7 : w1.heap.size ≤ w5.heap.size := hb.size
  have B7 : Below W0.heap.size W0 w5 := B2.trans (hb.mono B2.size)
  have Q8f0 := Lib.hid (Q3f0.out.keep hb)
  clear Q3f0
  clear hb
  have O9s0 := Lib.hid oo.out
  clear oo
  go_wp2_with fail
  have y11 : W0.heap.size ≤ w5.heap.size := B7.size
  refine (toNodeS_any x1 _ _ _ _ hl1 (K1.out.keep B7 (Nat.le_refl _))).mono ?_
  rintro e w10 ⟨vs1, rfl, ho, hb⟩
  have oo := Lib.hid ho.inn
  clear ho
  have z12 : w5.heap.size ≤ w10.heap.size := hb.size
  have B12 : Below W0.heap.size W0 w10 := B7.trans (hb.mono B7.size)
  have O13s0 := Lib.hid (O9s0.out.below hb O9s0.out.hi)
  have Q13f0 := Lib.hid (Q8f0.out.keep hb)
  clear O9s0 Q8f0
  clear hb
  have O14s1 := Lib.hid oo.out
  clear oo
  go_wp2_with fail
  have y16 : W0.heap.size ≤ w10.heap.size := B12.size
  refine (specFirstRefutation_v n0 x0 x1 _ _ _ _ _ _ _ hl0 hl1 O13s0.out O14s1.out).mono ?_
  rw [← Rl.out, ← R1.out, ← R2.out]
  rintro e w15 ⟨vw, rfl, ho, hb⟩
  have oo := Lib.hid ho.inn
  clear ho
  have z17 : w10.heap.size ≤ w15.heap.size := hb.size
  have B17 : Below W0.heap.size W0 w15 := B12.trans (hb.mono B12.size)
  have O18s0 := Lib.hid (O13s0.out.below hb O13s0.out.hi)
  have O18s1 := Lib.hid (O14s1.out.below hb O14s1.out.2.1)
  have Q18f0 := Lib.hid (Q13f0.out.keep hb)
  clear O13s0 O14s1 Q13f0
  clear hb
  have O19w := Lib.hid oo.out
  clear oo
  clear O18s0
  clear O18s1
  obtain ⟨lt0, ca0, cb0⟩ := Q18f0.out
  go_wp2_with fail
  clear lt0 ca0 cb0
  have y21 : W0.heap.size ≤ w15.heap.size := B17.size
  refine (toFrame_any n0 x0 _ _ _ _ hl0 (K0.out.keep B17 (Nat.le_refl _))).mono ?_
  rintro e w20 ⟨vx0, rfl, ho, hb⟩
  obtain ⟨bx0, cx0, rfl⟩ := ho.form
  have oo := Lib.hid (ho.inF hb.size)
  clear ho
  have z22 : w15.heap.size ≤ w20.heap.size := hb.size
  have B22 : Below W0.heap.size W0 w20 := B17.trans (hb.mono B17.size)
  have O23w := Lib.hid (O19w.out.below hb O19w.out.hi)
  have Q23f0 := Lib.hid (Q18f0.out.keep hb)
  clear O19w Q18f0
  clear hb
  have O24x0 := Lib.hid oo.out
  clear oo
  go_wp2_with fail
  obtain ⟨wb26, hwb26⟩ : ∃ W, W = w20.alloc (.cells #[.int .i64 n0, .slice bx0 x0.length cx0] 30) := ⟨_, rfl⟩
  rw [← hwb26]
  have hq := Lib.hid (show Bx wb26 w20.heap.size (n0) bx0 (x0.length) cx0 by rw [hwb26]; exact Bx.new _ _ _ _ _ _)
  obtain ⟨hb, hsz⟩ : Below w20.heap.size w20 wb26 ∧ w20.heap.size + 1 ≤ wb26.heap.size := by rw [hwb26]; exact alloc_keep _ _
  clear hwb26
  have z27 : w20.heap.size + 1 ≤ wb26.heap.size := hsz
  have B27 : Below W0.heap.size W0 wb26 := B22.trans (hb.mono B22.size)
  have O28w := Lib.hid (O23w.out.below hb O23w.out.hi)
  have O28x0 := Lib.hid (O24x0.out.below hb O24x0.out.hi)
  have Q28f0 := Lib.hid (Q23f0.out.keep hb)
  clear O23w O24x0 Q23f0
  clear hb
  clear hsz
  have Q26bx0 := Lib.hid hq.out
  clear hq
  have y29 : W0.heap.size ≤ wb26.heap.size := B27.size
  refine (toNodeS_any x1 _ _ _ _ hl1 (K1.out.keep B27 (Nat.le_refl _))).mono ?_
  rintro e w25 ⟨vx1, rfl, ho, hb⟩
  have oo := Lib.hid ho.inn
  clear ho
  have z30 : wb26.heap.size ≤ w25.heap.size := hb.size
  have B30 : Below W0.heap.size W0 w25 := B27.trans (hb.mono B27.size)
  have O31w := Lib.hid (O28w.out.below hb O28w.out.hi)
  have O31x0 := Lib.hid (O28x0.out.below hb O28x0.out.hi)
  have Q31f0 := Lib.hid (Q28f0.out.keep hb)
  have Q31x0 := Lib.hid (Q26bx0.out.keep hb)
  clear O28w O28x0 Q28f0 Q26bx0
  clear hb
  have O32x1 := Lib.hid oo.out
  clear oo
  obtain ⟨lt0, ca0, cb0⟩ := Q31x0.out
  go_wp2_with fail
  clear lt0 ca0 cb0
  have y34 : W0.heap.size ≤ w25.heap.size := B30.size
  refine (implFirstRefutation_v n0 x0 x1 _ _ _ _ _ _ _ hl0 hl1 O31x0.out O32x1.out (TB0.out.keep B30 (Nat.le_refl _))).mono ?_
  rw [← Rl.out, ← R1.out, ← R2.out]
  rintro e w33 ⟨vg, rfl, ho, hb⟩
  have oo := Lib.hid ho.inn
  clear ho
  have z35 : w25.heap.size ≤ w33.heap.size := hb.size
  have B35 : Below W0.heap.size W0 w33 := B30.trans (hb.mono B30.size)
  have O36w := Lib.hid (O31w.out.below hb O31w.out.hi)
  have O36x0 := Lib.hid (O31x0.out.below hb O31x0.out.hi)
  have O36x1 := Lib.hid (O32x1.out.below hb O32x1.out.2.1)
  have Q36f0 := Lib.hid (Q31f0.out.keep hb)
  have Q36x0 := Lib.hid (Q31x0.out.keep hb)
  clear O31w O31x0 O32x1 Q31f0 Q31x0
  clear hb
  have O37g := Lib.hid oo.out
  clear oo
  go_wp2_with fail
  refine (eqL_own rl _ _ _ _ _ _ _ hly O37g.out O36w.out).mono ?_
  rintro e w38 ⟨rfl, hb⟩
  have z39 : w33.heap.size ≤ w38.heap.size := hb.size
  have B39 : Below W0.heap.size W0 w38 := B35.trans (hb.mono B35.size)
  have O40w := Lib.hid (O36w.out.below hb O36w.out.hi)
  have O40x0 := Lib.hid (O36x0.out.below hb O36x0.out.hi)
  have O40x1 := Lib.hid (O36x1.out.below hb O36x1.out.2.1)
  have O40g := Lib.hid (O37g.out.below hb O37g.out.hi)
  have Q40f0 := Lib.hid (Q36f0.out.keep hb)
  have Q40x0 := Lib.hid (Q36x0.out.keep hb)
  clear O36w O36x0 O36x1 O37g Q36f0 Q36x0
  clear hb
  obtain ⟨lt0, ca0, cb0⟩ := Q40f0.out
  obtain ⟨lt1, ca1, cb1⟩ := Q40x0.out
  go_wp2
  go_region_held3 (fun w' => w'.cell? ⟨w.heap.size, 0, none⟩ = some (.int .i64 n0) ∧ w'.cell? ⟨w.heap.size, 1, none⟩ = some (.slice a0 x0.length cap0) ∧ w'.cell? ⟨w20.heap.size, 0, none⟩ = some (.int .i64 (n0)) ∧ w'.cell? ⟨w20.heap.size, 1, none⟩ = some (.slice bx0 (x0.length) cx0)) (first | exact ⟨ca0, cb0, ca1, cb1⟩ | exact ⟨da0, db0, da1, db1⟩ | exact ⟨ea0, eb0, ea1, eb1⟩ | go_keep) (first | (go_at_call 8; refine (toFrame_any n0 x0 _ _ _ _ hl0 (K0.out.keep B39 (Nat.le_refl _)).drw).mono ?_; rintro e w41 ⟨vy, rfl, ho, hb⟩; obtain ⟨by41, cy41, rfl⟩ := ho.form; have yy := Lib.hid (ho.inF hb.size); clear ho; have tt := Lib.hid (below_of_drew hb); clear hb; obtain ⟨mt0, da0, db0⟩ := Q40f0.out.keep tt.out; obtain ⟨mt1, da1, db1⟩ := Q40x0.out.keep tt.out) | (go_at_call 12; refine (eqF_in n0 x0 _ _ _ _ _ _ _ hl0 (O40x0.out.below tt.out O40x0.out.hi) yy.out).mono ?_; rintro e w41' ⟨rfl, hb⟩; have uu := Lib.hid (tt.out.trans (hb.mono tt.out.size)); clear hb; obtain ⟨nt0, ea0, eb0⟩ := Q40f0.out.keep uu.out; obtain ⟨nt1, ea1, eb1⟩ := Q40x0.out.keep uu.out))
  clear lt0 lt1 mt0 mt1 nt0 nt1 yy tt ca0 cb0 da0 db0 ea0 eb0 ca1 cb1 da1 db1 ea1 eb1
  have hb := uu.out
  clear uu
  have z42 : w38.heap.size ≤ w41'.heap.size := hb.size
  have B42 : Below W0.heap.size W0 w41' := B39.trans (hb.mono B39.size)
  have O43w := Lib.hid (O40w.out.below hb O40w.out.hi)
  have O43x0 := Lib.hid (O40x0.out.below hb O40x0.out.hi)
  have O43x1 := Lib.hid (O40x1.out.below hb O40x1.out.2.1)
  have O43g := Lib.hid (O40g.out.below hb O40g.out.hi)
  have Q43f0 := Lib.hid (Q40f0.out.keep hb)
  have Q43x0 := Lib.hid (Q40x0.out.keep hb)
  clear O40w O40x0 O40x1 O40g Q40f0 Q40x0
  clear hb
  go_wp2_with fail
  have y45 : W0.heap.size ≤ w41'.heap.size := B42.size
  refine (toNodeS_any x1 _ _ _ _ hl1 (K1.out.keep B42 (Nat.le_refl _))).mono ?_
  rintro e w44 ⟨vy1, rfl, ho, hb⟩
  have oo := Lib.hid ho.inn
  clear ho
  have z46 : w41'.heap.size ≤ w44.heap.size := hb.size
  have B46 : Below W0.heap.size W0 w44 := B42.trans (hb.mono B42.size)
  have O47w := Lib.hid (O43w.out.below hb O43w.out.hi)
  have O47x0 := Lib.hid (O43x0.out.below hb O43x0.out.hi)
  have O47x1 := Lib.hid (O43x1.out.below hb O43x1.out.2.1)
  have O47g := Lib.hid (O43g.out.below hb O43g.out.hi)
  have Q47f0 := Lib.hid (Q43f0.out.keep hb)
  have Q47x0 := Lib.hid (Q43x0.out.keep hb)
  clear O43w O43x0 O43x1 O43g Q43f0 Q43x0
  clear hb
  have O48y1 := Lib.hid oo.out
  clear oo
  go_wp2_with fail
  refine (eqN_in x1 _ _ _ _ _ _ _ hl1 O47x1.out O48y1.out).mono ?_
  rintro e w49 ⟨rfl, hb⟩
  have z50 : w44.heap.size ≤ w49.heap.size := hb.size
  have B50 : Below W0.heap.size W0 w49 := B46.trans (hb.mono B46.size)
  have O51w := Lib.hid (O47w.out.below hb O47w.out.hi)
  have O51x0 := Lib.hid (O47x0.out.below hb O47x0.out.hi)
  have O51x1 := Lib.hid (O47x1.out.below hb O47x1.out.2.1)
  have O51g := Lib.hid (O47g.out.below hb O47g.out.hi)
  have O51y1 := Lib.hid (O48y1.out.below hb O48y1.out.2.1)
  have Q51f0 := Lib.hid (Q47f0.out.keep hb)
  have Q51x0 := Lib.hid (Q47x0.out.keep hb)
  clear O47w O47x0 O47x1 O47g O48y1 Q47f0 Q47x0
  clear hb
  clear O51y1
  obtain ⟨lt0, ca0, cb0⟩ := Q51x0.out
  go_wp2_with fail
  clear lt0 ca0 cb0
  refine (markF_in n0 x0 _ _ _ _ _ hl0 (by omega) (by omega) O51x0.out).mono ?_
  rintro e w52 ⟨rfl, om, hb, hg⟩
  have z52 := hb.size
  have B52 : Below W0.heap.size W0 w52 := B50.trans (hb.mono y21)
  have hh52 := O51x0.out.hi
  have O53w := Lib.hid (O51w.out.oth O51x0.out.blk hg (by omega))
  have O53x1 := Lib.hid (O51x1.out.oth O51x0.out.blk hg (by omega))
  have O53g := Lib.hid (O51g.out.oth O51x0.out.blk hg (by omega))
  have Q53f0 := Lib.hid (Q51f0.out.oth O51x0.out.blk hg (by omega))
  have Q53x0 := Lib.hid (Q51x0.out.oth O51x0.out.blk hg (by omega))
  clear O51w O51x1 O51g Q51f0 Q51x0
  have O52x0 := Lib.hid om
  clear hb hg om hh52 O51x0
  go_wp2_with fail
  refine (markN_in x1 _ _ _ _ _ hl1 (by omega) (by omega) O53x1.out).mono ?_
  rintro e w54 ⟨rfl, om, hb, hg⟩
  have z54 := hb.size
  have B54 : Below W0.heap.size W0 w54 := B52.trans (hb.mono y29)
  have hh54 := O53x1.out.hi
  have O55w := Lib.hid (O53w.out.oth O53x1.out.blk hg (by omega))
  have O55g := Lib.hid (O53g.out.oth O53x1.out.blk hg (by omega))
  have O55x0 := Lib.hid (O52x0.out.oth O53x1.out.blk hg (by omega))
  have Q55f0 := Lib.hid (Q53f0.out.oth O53x1.out.blk hg (by omega))
  have Q55x0 := Lib.hid (Q53x0.out.oth O53x1.out.blk hg (by omega))
  clear O53w O53g O52x0 Q53f0 Q53x0
  have O54x1 := Lib.hid om
  clear hb hg om hh54 O53x1
  clear O55x0
  clear Q55x0
  clear O54x1
  go_wp2_with fail
  refine (eqL_own rl _ _ _ _ _ _ _ hly O55g.out O55w.out).mono ?_
  rintro e w56 ⟨rfl, hb⟩
  have z57 : w54.heap.size ≤ w56.heap.size := hb.size
  have B57 : Below W0.heap.size W0 w56 := B54.trans (hb.mono B54.size)
  have O58w := Lib.hid (O55w.out.below hb O55w.out.hi)
  have O58g := Lib.hid (O55g.out.below hb O55g.out.hi)
  have Q58f0 := Lib.hid (Q55f0.out.keep hb)
  clear O55w O55g Q55f0
  clear hb
  go_wp2_with fail
  refine (markL_own rl _ _ _ _ _ hly (by omega) (by omega) O58g.out).mono ?_
  rintro e w59 ⟨rfl, om, hb, hg⟩
  have z59 := hb.size
  have B59 : Below W0.heap.size W0 w59 := B57.trans (hb.mono y34)
  have hh59 := O58g.out.hi
  have O60w := Lib.hid (O58w.out.oth O58g.out.blk hg (by omega))
  have Q60f0 := Lib.hid (Q58f0.out.oth O58g.out.blk hg (by omega))
  clear O58w Q58f0
  have O59g := Lib.hid om
  clear hb hg om hh59 O58g
  go_wp2_with fail
  refine (heldL_own rl.length _ _ _ _ _ hly (by omega) (by omega) O59g.out).mono ?_
  rintro e w61 ⟨rfl, hb⟩
  have z62 : w59.heap.size ≤ w61.heap.size := hb.size
  have B62 : Below W0.heap.size W0 w61 := B59.trans (hb.mono B59.size)
  have O63w := Lib.hid (O60w.out.below hb O60w.out.hi)
  have O63g := Lib.hid (O59g.out.below hb O59g.out.hi)
  have Q63f0 := Lib.hid (Q60f0.out.keep hb)
  clear O60w O59g Q60f0
  clear hb
  obtain ⟨lt0, ca0, cb0⟩ := Q63f0.out
  go_wp2_with fail
  clear lt0 ca0 cb0
  have y65 : W0.heap.size ≤ w61.heap.size := B62.size
  refine (toFrame_any n0 x0 _ _ _ _ hl0 (K0.out.keep B62 (Nat.le_refl _))).mono ?_
  rintro e w64 ⟨vt0, rfl, ho, hb⟩
  obtain ⟨bt0, ct0, rfl⟩ := ho.form
  have oo := Lib.hid (ho.inF hb.size)
  clear ho
  have z66 : w61.heap.size ≤ w64.heap.size := hb.size
  have B66 : Below W0.heap.size W0 w64 := B62.trans (hb.mono B62.size)
  have O67w := Lib.hid (O63w.out.below hb O63w.out.hi)
  have O67g := Lib.hid (O63g.out.below hb O63g.out.hi)
  have Q67f0 := Lib.hid (Q63f0.out.keep hb)
  clear O63w O63g Q63f0
  clear hb
  have O68t0 := Lib.hid oo.out
  clear oo
  go_wp2_with fail
  have y70 : W0.heap.size ≤ w64.heap.size := B66.size
  refine (toNodeS_any x1 _ _ _ _ hl1 (K1.out.keep B66 (Nat.le_refl _))).mono ?_
  rintro e w69 ⟨vt1, rfl, ho, hb⟩
  have oo := Lib.hid ho.inn
  clear ho
  have z71 : w64.heap.size ≤ w69.heap.size := hb.size
  have B71 : Below W0.heap.size W0 w69 := B66.trans (hb.mono B66.size)
  have O72w := Lib.hid (O67w.out.below hb O67w.out.hi)
  have O72g := Lib.hid (O67g.out.below hb O67g.out.hi)
  have O72t0 := Lib.hid (O68t0.out.below hb O68t0.out.hi)
  have Q72f0 := Lib.hid (Q67f0.out.keep hb)
  clear O67w O67g O68t0 Q67f0
  clear hb
  have O73t1 := Lib.hid oo.out
  clear oo
  go_wp2_with fail
  have y75 : W0.heap.size ≤ w69.heap.size := B71.size
  refine (implFirstRefutation_v n0 x0 x1 _ _ _ _ _ _ _ hl0 hl1 O72t0.out O73t1.out (TB0.out.keep B71 (Nat.le_refl _))).mono ?_
  rw [← Rl.out, ← R1.out, ← R2.out]
  rintro e w74 ⟨vh, rfl, ho, hb⟩
  have oo := Lib.hid ho.inn
  clear ho
  have z76 : w69.heap.size ≤ w74.heap.size := hb.size
  have B76 : Below W0.heap.size W0 w74 := B71.trans (hb.mono B71.size)
  have O77w := Lib.hid (O72w.out.below hb O72w.out.hi)
  have O77g := Lib.hid (O72g.out.below hb O72g.out.hi)
  have O77t0 := Lib.hid (O72t0.out.below hb O72t0.out.hi)
  have O77t1 := Lib.hid (O73t1.out.below hb O73t1.out.2.1)
  have Q77f0 := Lib.hid (Q72f0.out.keep hb)
  clear O72w O72g O72t0 O73t1 Q72f0
  clear hb
  have O78h := Lib.hid oo.out
  clear oo
  clear O77t0
  clear O77t1
  go_wp2_with fail
  refine (eqL_own rl _ _ _ _ _ _ _ hly O78h.out O77w.out).mono ?_
  rintro e w79 ⟨rfl, hb⟩
  have z80 : w74.heap.size ≤ w79.heap.size := hb.size
  have B80 : Below W0.heap.size W0 w79 := B76.trans (hb.mono B76.size)
  have O81w := Lib.hid (O77w.out.below hb O77w.out.hi)
  have O81g := Lib.hid (O77g.out.below hb O77g.out.hi)
  have O81h := Lib.hid (O78h.out.below hb O78h.out.hi)
  have Q81f0 := Lib.hid (Q77f0.out.keep hb)
  clear O77w O77g O78h Q77f0
  clear hb
  clear O81h
  clear O81w
  go_wp2_with fail
  refine (heldL_own rl.length _ _ _ _ _ hly (by omega) (by omega) O81g.out).mono ?_
  rintro e w82 ⟨rfl, hb⟩
  have z83 : w79.heap.size ≤ w82.heap.size := hb.size
  have B83 : Below W0.heap.size W0 w82 := B80.trans (hb.mono B80.size)
  have O84g := Lib.hid (O81g.out.below hb O81g.out.hi)
  have Q84f0 := Lib.hid (Q81f0.out.keep hb)
  clear O81g Q81f0
  clear hb
  go_wp2
  go_ret
  exact ⟨rfl, B0.trans (B83.mono B0.size)⟩

end Go.Proofs.YtnoaaklkbfbdbaaDoor
