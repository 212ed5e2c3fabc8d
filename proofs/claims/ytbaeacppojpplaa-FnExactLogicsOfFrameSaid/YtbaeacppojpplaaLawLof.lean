/- The walk of the law FnExactLogicsOfFrame. Conditions: those in the theorems. -/
import Derived.Test.YtbaeacppojpplaaAo
namespace Go.Proofs.Ytbaeacppojpplaa
open Go.RowKit

set_option maxHeartbeats 4000000 in
set_option maxRecDepth 100000 in
theorem lawLogicsOfFrame (n0 : Int) (x0 : List Int) (a0 : Option Addr) (len0 cap0 : Nat) (w : World) (h0 : IsArr w a0 len0 x0) :
    Calls Try.prog 8 #[.agg #[.int .i64 n0, .slice a0 len0 cap0]] w fun e w' => e = .returned (.bool true) ∧ Below w.heap.size w w' := by
  obtain rfl := h0.1.1
  have m0 := h0.2
  have H0 := Lib.hid h0.1
  clear h0
  obtain ⟨rl, hrl⟩ : ∃ r, r = loR n0 x0 := ⟨_, rfl⟩
  obtain ⟨r1, hr1⟩ : ∃ r, r = loC n0 x0 := ⟨_, rfl⟩
  have hly : rl.length ≤ 1048576 := by rw [hrl]; exact LogicsOfFrame_len n0 x0
  have Rl := Lib.hid hrl
  clear hrl
  have R1 := Lib.hid hr1
  clear hr1
  obtain ⟨W0, hW0⟩ : ∃ W0, W0 = (w.alloc (.cells #[.int .i64 n0, .slice a0 x0.length cap0] 27)) := ⟨_, rfl⟩
  have B0 : Below w.heap.size w W0 := by rw [hW0]; exact ((Below.refl w.heap.size w).alloc (by simp) _)
  have Q0f0 := Lib.hid (show Bx W0 (w.heap.size) n0 a0 x0.length cap0 by rw [hW0]; exact (Bx.new _ _ _ _ _ _))
  have zz : w.heap.size + 1 ≤ W0.heap.size := by rw [hW0]; simp
  have K0 := Lib.hid (H0.out.keep B0 (Nat.le_refl _))
  clear H0
  have hWW := Lib.hid hW0
  clear hW0
  go_enter Try.func8, Try.ntmps8
  go_wp2_with fail
  refine (szFrame_any n0 _ _ _ (1048576 : Int) _ m0 (by omega) (by omega)).mono ?_
  obtain ⟨s0, hs0⟩ : ∃ s, s = szG (1048576 : Int) x0.length := ⟨_, rfl⟩
  rw [← hs0]
  rintro e w1 ⟨rfl, hb⟩
  rw [← hWW.out] at hb
  have z2 : W0.heap.size ≤ w1.heap.size := hb.size
  have B2 : Below W0.heap.size W0 w1 := (Below.refl W0.heap.size W0).trans (hb.mono (Below.refl W0.heap.size W0).size)
  have Q3f0 := Lib.hid (Q0f0.out.keep hb)
  clear Q0f0
  clear hb
  by_cases hb0 : (1048576 : Int) < (x0.length : Int)
  · rw [szG_no hb0] at hs0
    subst hs0
    go_wp2
    go_ret
    exact ⟨rfl, B0.trans (B2.mono B0.size)⟩
  rw [szG_yes hb0] at hs0
  have hl0 : x0.length ≤ 1048576 := by omega
  have s00 : 0 ≤ s0 := by omega
  have s10 : s0 ≤ 1048576 := by omega
  clear hs0
  have y5 : W0.heap.size ≤ w1.heap.size := B2.size
  obtain ⟨lt0, ca0, cb0⟩ := Q3f0.out
  go_wp2_with fail
  clear lt0 ca0 cb0
  have y6 : W0.heap.size ≤ w1.heap.size := B2.size
  refine (toFrame_any n0 x0 _ _ _ _ hl0 (K0.out.keep B2 (Nat.le_refl _))).mono ?_
  rintro e w4 ⟨vs0, rfl, ho, hb⟩
  obtain ⟨bs0, cs0, rfl⟩ := ho.form
  have oo := Lib.hid (ho.inF hb.size)
  clear ho
  have z7 : w1.heap.size ≤ w4.heap.size := hb.size
  have B7 : Below W0.heap.size W0 w4 := B2.trans (hb.mono B2.size)
  have Q8f0 := Lib.hid (Q3f0.out.keep hb)
  clear Q3f0
  clear hb
  have O9s0 := Lib.hid oo.out
  clear oo
  go_wp2_with fail
  have y11 : W0.heap.size ≤ w4.heap.size := B7.size
  refine (specLogicsOfFrame_v n0 x0 _ _ _ _ hl0 O9s0.out).mono ?_
  rw [← Rl.out, ← R1.out]
  rintro e w10 ⟨vw, rfl, ho, hb⟩
  have oo := Lib.hid ho.inn
  clear ho
  have z12 : w4.heap.size ≤ w10.heap.size := hb.size
  have B12 : Below W0.heap.size W0 w10 := B7.trans (hb.mono B7.size)
  have O13s0 := Lib.hid (O9s0.out.below hb O9s0.out.hi)
  have Q13f0 := Lib.hid (Q8f0.out.keep hb)
  clear O9s0 Q8f0
  clear hb
  have O14w := Lib.hid oo.out
  clear oo
  clear O13s0
  have y16 : W0.heap.size ≤ w10.heap.size := B12.size
  obtain ⟨lt0, ca0, cb0⟩ := Q13f0.out
  go_wp2_with fail
  clear lt0 ca0 cb0
  have y17 : W0.heap.size ≤ w10.heap.size := B12.size
  refine (toFrame_any n0 x0 _ _ _ _ hl0 (K0.out.keep B12 (Nat.le_refl _))).mono ?_
  rintro e w15 ⟨vx0, rfl, ho, hb⟩
  obtain ⟨bx0, cx0, rfl⟩ := ho.form
  have oo := Lib.hid (ho.inF hb.size)
  clear ho
  have z18 : w10.heap.size ≤ w15.heap.size := hb.size
  have B18 : Below W0.heap.size W0 w15 := B12.trans (hb.mono B12.size)
  have O19w := Lib.hid (O14w.out.below hb O14w.out.hi)
  have Q19f0 := Lib.hid (Q13f0.out.keep hb)
  clear O14w Q13f0
  clear hb
  have O20x0 := Lib.hid oo.out
  clear oo
  go_wp2_with fail
  obtain ⟨wb22, hwb22⟩ : ∃ W, W = w15.alloc (.cells #[.int .i64 n0, .slice bx0 x0.length cx0] 31) := ⟨_, rfl⟩
  rw [← hwb22]
  have hq := Lib.hid (show Bx wb22 w15.heap.size (n0) bx0 (x0.length) cx0 by rw [hwb22]; exact Bx.new _ _ _ _ _ _)
  obtain ⟨hb, hsz⟩ : Below w15.heap.size w15 wb22 ∧ w15.heap.size + 1 ≤ wb22.heap.size := by rw [hwb22]; exact alloc_keep _ _
  clear hwb22
  have z23 : w15.heap.size + 1 ≤ wb22.heap.size := hsz
  have B23 : Below W0.heap.size W0 wb22 := B18.trans (hb.mono B18.size)
  have O24w := Lib.hid (O19w.out.below hb O19w.out.hi)
  have O24x0 := Lib.hid (O20x0.out.below hb O20x0.out.hi)
  have Q24f0 := Lib.hid (Q19f0.out.keep hb)
  clear O19w O20x0 Q19f0
  clear hb
  clear hsz
  have Q22bx0 := Lib.hid hq.out
  clear hq
  have y25 : W0.heap.size ≤ wb22.heap.size := B23.size
  refine (implLogicsOfFrame_v n0 x0 _ _ _ _ hl0 O24x0.out).mono ?_
  rw [← Rl.out, ← R1.out]
  rintro e w21 ⟨vg, rfl, ho, hb⟩
  have oo := Lib.hid ho.inn
  clear ho
  have z26 : wb22.heap.size ≤ w21.heap.size := hb.size
  have B26 : Below W0.heap.size W0 w21 := B23.trans (hb.mono B23.size)
  have O27w := Lib.hid (O24w.out.below hb O24w.out.hi)
  have O27x0 := Lib.hid (O24x0.out.below hb O24x0.out.hi)
  have Q27f0 := Lib.hid (Q24f0.out.keep hb)
  have Q27x0 := Lib.hid (Q22bx0.out.keep hb)
  clear O24w O24x0 Q24f0 Q22bx0
  clear hb
  have O28g := Lib.hid oo.out
  clear oo
  go_wp2_with fail
  refine (eqS_in rl _ _ _ _ _ _ _ hly O28g.out O27w.out).mono ?_
  rintro e w29 ⟨rfl, hb⟩
  have z30 : w21.heap.size ≤ w29.heap.size := hb.size
  have B30 : Below W0.heap.size W0 w29 := B26.trans (hb.mono B26.size)
  have O31w := Lib.hid (O27w.out.below hb O27w.out.hi)
  have O31x0 := Lib.hid (O27x0.out.below hb O27x0.out.hi)
  have O31g := Lib.hid (O28g.out.below hb O28g.out.hi)
  have Q31f0 := Lib.hid (Q27f0.out.keep hb)
  have Q31x0 := Lib.hid (Q27x0.out.keep hb)
  clear O27w O27x0 O28g Q27f0 Q27x0
  clear hb
  obtain ⟨lt0, ca0, cb0⟩ := Q31f0.out
  obtain ⟨lt1, ca1, cb1⟩ := Q31x0.out
  go_wp2
  go_region_held3 (fun w' => w'.cell? ⟨w.heap.size, 0, none⟩ = some (.int .i64 n0) ∧ w'.cell? ⟨w.heap.size, 1, none⟩ = some (.slice a0 x0.length cap0) ∧ w'.cell? ⟨w15.heap.size, 0, none⟩ = some (.int .i64 (n0)) ∧ w'.cell? ⟨w15.heap.size, 1, none⟩ = some (.slice bx0 (x0.length) cx0)) (first | exact ⟨ca0, cb0, ca1, cb1⟩ | exact ⟨da0, db0, da1, db1⟩ | exact ⟨ea0, eb0, ea1, eb1⟩ | go_keep) (first | (go_at_call 13; refine (toFrame_any n0 x0 _ _ _ _ hl0 (K0.out.keep B30 (Nat.le_refl _)).drw).mono ?_; rintro e w32 ⟨vy, rfl, ho, hb⟩; obtain ⟨by32, cy32, rfl⟩ := ho.form; have yy := Lib.hid (ho.inF hb.size); clear ho; have tt := Lib.hid (below_of_drew hb); clear hb; obtain ⟨mt0, da0, db0⟩ := Q31f0.out.keep tt.out; obtain ⟨mt1, da1, db1⟩ := Q31x0.out.keep tt.out) | (go_at_call 15; refine (eqF_in n0 x0 _ _ _ _ _ _ _ hl0 (O31x0.out.below tt.out O31x0.out.hi) yy.out).mono ?_; rintro e w32' ⟨rfl, hb⟩; have uu := Lib.hid (tt.out.trans (hb.mono tt.out.size)); clear hb; obtain ⟨nt0, ea0, eb0⟩ := Q31f0.out.keep uu.out; obtain ⟨nt1, ea1, eb1⟩ := Q31x0.out.keep uu.out))
  clear lt0 ca0 cb0 lt1 ca1 cb1 mt0 da0 db0 mt1 da1 db1 nt0 ea0 eb0 nt1 ea1 eb1 yy tt
  have hb := uu.out
  clear uu
  have z33 : w29.heap.size ≤ w32'.heap.size := hb.size
  have B33 : Below W0.heap.size W0 w32' := B30.trans (hb.mono B30.size)
  have O34w := Lib.hid (O31w.out.below hb O31w.out.hi)
  have O34x0 := Lib.hid (O31x0.out.below hb O31x0.out.hi)
  have O34g := Lib.hid (O31g.out.below hb O31g.out.hi)
  have Q34f0 := Lib.hid (Q31f0.out.keep hb)
  have Q34x0 := Lib.hid (Q31x0.out.keep hb)
  clear O31w O31x0 O31g Q31f0 Q31x0
  clear hb
  obtain ⟨lt0, ca0, cb0⟩ := Q34x0.out
  go_wp2_with fail
  clear lt0 ca0 cb0
  refine (markF_in n0 x0 _ _ _ _ _ hl0 (by omega) (by omega) O34x0.out).mono ?_
  rintro e w35 ⟨rfl, om, hb, hg⟩
  have z35 := hb.size
  have B35 : Below W0.heap.size W0 w35 := B33.trans (hb.mono y17)
  have O36w := Lib.hid (O34w.out.oth O34x0.out.blk hg (by omega))
  have O36g := Lib.hid (O34g.out.oth O34x0.out.blk hg (by omega))
  have Q36f0 := Lib.hid (Q34f0.out.oth O34x0.out.blk hg (by omega))
  have Q36x0 := Lib.hid (Q34x0.out.oth O34x0.out.blk hg (by omega))
  clear O34w O34g Q34f0 Q34x0
  have O35x0 := Lib.hid om
  clear hb hg om O34x0
  clear O35x0
  clear Q36x0
  go_wp2_with fail
  refine (eqS_in rl _ _ _ _ _ _ _ hly O36g.out O36w.out).mono ?_
  rintro e w37 ⟨rfl, hb⟩
  have z38 : w35.heap.size ≤ w37.heap.size := hb.size
  have B38 : Below W0.heap.size W0 w37 := B35.trans (hb.mono B35.size)
  have O39w := Lib.hid (O36w.out.below hb O36w.out.hi)
  have O39g := Lib.hid (O36g.out.below hb O36g.out.hi)
  have Q39f0 := Lib.hid (Q36f0.out.keep hb)
  clear O36w O36g Q36f0
  clear hb
  go_wp2_with fail
  refine (markS_in rl _ _ _ 1 _ hly (by omega) (by omega) O39g.out).mono ?_
  rintro e w40 ⟨rfl, om, hb, hg⟩
  have z40 := hb.size
  have B40 : Below W0.heap.size W0 w40 := B38.trans (hb.mono y25)
  have O41w := Lib.hid (O39w.out.oth O39g.out.blk hg (by omega))
  have Q41f0 := Lib.hid (Q39f0.out.oth O39g.out.blk hg (by omega))
  clear O39w Q39f0
  have O40g := Lib.hid om
  clear hb hg om O39g
  go_wp2_with fail
  refine (heldS_in rl.length _ _ _ 1 _ hly (by omega) (by omega) O40g.out).mono ?_
  rintro e w42 ⟨rfl, hb⟩
  have z43 : w40.heap.size ≤ w42.heap.size := hb.size
  have B43 : Below W0.heap.size W0 w42 := B40.trans (hb.mono B40.size)
  have O44w := Lib.hid (O41w.out.below hb O41w.out.hi)
  have O44g := Lib.hid (O40g.out.below hb O40g.out.hi)
  have Q44f0 := Lib.hid (Q41f0.out.keep hb)
  clear O41w O40g Q41f0
  clear hb
  have y46 : W0.heap.size ≤ w42.heap.size := B43.size
  obtain ⟨lt0, ca0, cb0⟩ := Q44f0.out
  go_wp2_with fail
  clear lt0 ca0 cb0
  have y47 : W0.heap.size ≤ w42.heap.size := B43.size
  refine (toFrame_any n0 x0 _ _ _ _ hl0 (K0.out.keep B43 (Nat.le_refl _))).mono ?_
  rintro e w45 ⟨vt0, rfl, ho, hb⟩
  obtain ⟨bt0, ct0, rfl⟩ := ho.form
  have oo := Lib.hid (ho.inF hb.size)
  clear ho
  have z48 : w42.heap.size ≤ w45.heap.size := hb.size
  have B48 : Below W0.heap.size W0 w45 := B43.trans (hb.mono B43.size)
  have O49w := Lib.hid (O44w.out.below hb O44w.out.hi)
  have O49g := Lib.hid (O44g.out.below hb O44g.out.hi)
  have Q49f0 := Lib.hid (Q44f0.out.keep hb)
  clear O44w O44g Q44f0
  clear hb
  have O50t0 := Lib.hid oo.out
  clear oo
  go_wp2_with fail
  have y52 : W0.heap.size ≤ w45.heap.size := B48.size
  refine (implLogicsOfFrame_v n0 x0 _ _ _ _ hl0 O50t0.out).mono ?_
  rw [← Rl.out, ← R1.out]
  rintro e w51 ⟨vh, rfl, ho, hb⟩
  have oo := Lib.hid ho.inn
  clear ho
  have z53 : w45.heap.size ≤ w51.heap.size := hb.size
  have B53 : Below W0.heap.size W0 w51 := B48.trans (hb.mono B48.size)
  have O54w := Lib.hid (O49w.out.below hb O49w.out.hi)
  have O54g := Lib.hid (O49g.out.below hb O49g.out.hi)
  have O54t0 := Lib.hid (O50t0.out.below hb O50t0.out.hi)
  have Q54f0 := Lib.hid (Q49f0.out.keep hb)
  clear O49w O49g O50t0 Q49f0
  clear hb
  have O55h := Lib.hid oo.out
  clear oo
  clear O54t0
  go_wp2_with fail
  refine (eqS_in rl _ _ _ _ _ _ _ hly O55h.out O54w.out).mono ?_
  rintro e w56 ⟨rfl, hb⟩
  have z57 : w51.heap.size ≤ w56.heap.size := hb.size
  have B57 : Below W0.heap.size W0 w56 := B53.trans (hb.mono B53.size)
  have O58w := Lib.hid (O54w.out.below hb O54w.out.hi)
  have O58g := Lib.hid (O54g.out.below hb O54g.out.hi)
  have O58h := Lib.hid (O55h.out.below hb O55h.out.hi)
  have Q58f0 := Lib.hid (Q54f0.out.keep hb)
  clear O54w O54g O55h Q54f0
  clear hb
  clear O58h
  clear O58w
  go_wp2_with fail
  refine (heldS_in rl.length _ _ _ 1 _ hly (by omega) (by omega) O58g.out).mono ?_
  rintro e w59 ⟨rfl, hb⟩
  have z60 : w56.heap.size ≤ w59.heap.size := hb.size
  have B60 : Below W0.heap.size W0 w59 := B57.trans (hb.mono B57.size)
  have O61g := Lib.hid (O58g.out.below hb O58g.out.hi)
  have Q61f0 := Lib.hid (Q58f0.out.keep hb)
  clear O58g Q58f0
  clear hb
  go_wp2
  go_ret
  exact ⟨rfl, B0.trans (B60.mono B0.size)⟩

end Go.Proofs.Ytbaeacppojpplaa
