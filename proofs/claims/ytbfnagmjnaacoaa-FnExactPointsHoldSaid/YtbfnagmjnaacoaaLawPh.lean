/- The walk of the law FnExactPointsHold. Conditions: those in the theorems. -/
import Derived.Test.YtbfnagmjnaacoaaHpX
import Derived.Test.YtbfnagmjnaacoaaJn06
namespace Go.Proofs.Ytbfnagmjnaacoaa
open Go.RowKit

set_option maxHeartbeats 4000000 in
set_option maxRecDepth 100000 in
theorem lawPointsHold (n0 : Int) (x0 y0 : List Int) (x1 : List Pd) (x2 : List Int) (a0 : Option Addr) (len0 cap0 : Nat) (b0 : Option Addr) (m0 d0 : Nat) (a1 : Option Addr) (len1 cap1 : Nat) (a2 : Option Addr) (len2 cap2 : Nat) (w : World) (h0 : IsMod w a0 len0 x0 b0 m0 y0) (h1 : IsPts w a1 len1 x1) (h2 : At w a2 len2 x2) :
    Calls Try.prog 4 #[.agg #[.int .i64 n0, .slice a0 len0 cap0, .slice b0 m0 d0], .slice a1 len1 cap1, .slice a2 len2 cap2] w fun e w' => e = .returned (.bool true) ∧ Below w.heap.size w w' := by
  obtain rfl := h0.1.1.1
  obtain rfl := h0.2.1.1
  obtain rfl := h1.1.1
  obtain rfl := h2.1
  have ma0 := h0.1.2
  have mb0 := h0.2.2
  have HA0 := Lib.hid h0.1.1
  have HB0 := Lib.hid h0.2.1
  clear h0
  have m1 := h1.2
  have H1 := Lib.hid h1.1
  clear h1
  have H2 := Lib.hid h2
  clear h2
  obtain ⟨r0, hr0⟩ : ∃ r, r = phV n0 x0 y0 x1 x2 := ⟨_, rfl⟩
  obtain ⟨r1, hr1⟩ : ∃ r, r = phC n0 x0 y0 x1 x2 := ⟨_, rfl⟩
  have R0 := Lib.hid hr0
  clear hr0
  have R1 := Lib.hid hr1
  clear hr1
  obtain ⟨W0, hW0⟩ : ∃ W0, W0 = (w.alloc (.cells #[.int .i64 n0, .slice a0 x0.length cap0, .slice b0 y0.length d0] 32)) := ⟨_, rfl⟩
  have B0 : Below w.heap.size w W0 := by rw [hW0]; exact ((Below.refl w.heap.size w).alloc (by simp) _)
  have Q0f0 := Lib.hid (show Bm W0 (w.heap.size) n0 a0 x0.length cap0 b0 y0.length d0 by rw [hW0]; exact (Bm.new _ _ _ _ _ _ _ _ _))
  have zz : w.heap.size + 1 ≤ W0.heap.size := by rw [hW0]; simp
  have KA0 := Lib.hid (HA0.out.keep B0 (Nat.le_refl _))
  clear HA0
  have KB0 := Lib.hid (HB0.out.keep B0 (Nat.le_refl _))
  clear HB0
  have K1 := Lib.hid (H1.out.keep B0 (Nat.le_refl _))
  clear H1
  have K2 := Lib.hid (H2.out.keep B0 (Nat.le_refl _))
  clear H2
  have hWW := Lib.hid hW0
  clear hW0
  by_cases hbig2 : 1048576 < x2.length
  · go_enter Try.func4, Try.ntmps4
    go_wp2
    go_ret
    exact ⟨rfl, by rw [← hWW.out]; exact B0⟩
  have hl2 : x2.length ≤ 1048576 := by omega
  clear hbig2
  go_enter Try.func4, Try.ntmps4
  go_wp2_with fail
  refine (szModel_any n0 _ _ _ _ _ _ (1048576 : Int) _ ma0 mb0 (by omega) (by omega)).mono ?_
  obtain ⟨s0, hs0⟩ : ∃ s, s = szM (1048576 : Int) x0.length y0.length := ⟨_, rfl⟩
  have hz0 := szM_or (1048576 : Int) x0.length y0.length
  rw [← hs0] at hz0 ⊢
  clear hs0
  rintro e w1 ⟨rfl, hb⟩
  rw [← hWW.out] at hb
  have z2 : W0.heap.size ≤ w1.heap.size := hb.size
  have B2 : Below W0.heap.size W0 w1 := (Below.refl W0.heap.size W0).trans (hb.mono (Below.refl W0.heap.size W0).size)
  have Q3f0 := Lib.hid (Q0f0.out.keep hb)
  clear Q0f0
  clear hb
  rcases hz0 with hz0 | ⟨hy0, hz0⟩
  · subst hz0
    go_wp2
    go_ret
    exact ⟨rfl, B0.trans (B2.mono B0.size)⟩
  have hl0 : x0.length ≤ 1048576 := by omega
  have hm0 : y0.length ≤ 1048576 := by omega
  have s00 : 0 ≤ s0 := by omega
  have s10 : s0 ≤ 1048576 := by omega
  clear hz0 hy0
  go_wp2_with fail
  refine (szPointS_any _ _ _ _ _ m1 (by omega) (by omega)).mono ?_
  obtain ⟨s1, hs1⟩ : ∃ s, s = szI s0 x1.length := ⟨_, rfl⟩
  rw [← hs1]
  rintro e w' ⟨rfl, rfl⟩
  by_cases hb1 : s0 < (x1.length : Int)
  · rw [szI_no hb1] at hs1
    subst hs1
    go_wp2
    go_ret
    exact ⟨rfl, B0.trans (B2.mono B0.size)⟩
  rw [szI_yes hb1] at hs1
  have hl1 : x1.length ≤ 1048576 := by omega
  have s01 : 0 ≤ s1 := by omega
  have s11 : s1 ≤ 1048576 := by omega
  clear hs1
  obtain ⟨lt0, ca0, cb0, cc0⟩ := Q3f0.out
  go_wp2_with fail
  clear lt0 ca0 cb0 cc0
  have y6 : W0.heap.size ≤ w1.heap.size := B2.size
  refine (toModel_any n0 x0 y0 _ _ _ _ _ _ _ hl0 hm0 (KA0.out.keep B2 (Nat.le_refl _)) (KB0.out.keep B2 (Nat.le_refl _))).mono ?_
  rintro e w5 ⟨vs0, rfl, ho, hb⟩
  obtain ⟨bs0, cs0, es0, fs0, rfl⟩ := ho.form
  have oo := Lib.hid (ho.inM hb.size)
  clear ho
  have z7 : w1.heap.size ≤ w5.heap.size := hb.size
  have B7 : Below W0.heap.size W0 w5 := B2.trans (hb.mono B2.size)
  have Q8f0 := Lib.hid (Q3f0.out.keep hb)
  clear Q3f0
  clear hb
  have O9s0 := Lib.hid oo.out
  clear oo
  go_wp2_with fail
  have y11 : W0.heap.size ≤ w5.heap.size := B7.size
  refine (toPointS_any x1 _ _ _ _ hl1 (K1.out.keep B7 (Nat.le_refl _))).mono ?_
  rintro e w10 ⟨vs1, rfl, ho, hb⟩
  have oo := Lib.hid ho.inn
  clear ho
  have z12 : w5.heap.size ≤ w10.heap.size := hb.size
  have B12 : Below W0.heap.size W0 w10 := B7.trans (hb.mono B7.size)
  have O13s0 := Lib.hid (O9s0.out.below hb O9s0.out.hi)
  have Q13f0 := Lib.hid (Q8f0.out.keep hb)
  clear O9s0 Q8f0
  clear hb
  have O14s1 := Lib.hid oo.out
  clear oo
  go_wp2_with fail
  have y16 : W0.heap.size ≤ w10.heap.size := B12.size
  refine (toInt64S_any x2 _ _ _ _ hl2 (K2.out.keep B12 (Nat.le_refl _))).mono ?_
  rintro e w15 ⟨vs2, rfl, ho, hb⟩
  have oo := Lib.hid ho.inn
  clear ho
  have z17 : w10.heap.size ≤ w15.heap.size := hb.size
  have B17 : Below W0.heap.size W0 w15 := B12.trans (hb.mono B12.size)
  have O18s0 := Lib.hid (O13s0.out.below hb O13s0.out.hi)
  have O18s1 := Lib.hid (O14s1.out.below hb O14s1.out.2.1)
  have Q18f0 := Lib.hid (Q13f0.out.keep hb)
  clear O13s0 O14s1 Q13f0
  clear hb
  have O19s2 := Lib.hid oo.out
  clear oo
  go_wp2_with fail
  have y21 : W0.heap.size ≤ w15.heap.size := B17.size
  refine (specPointsHold_v n0 x0 y0 x1 x2 _ _ _ _ _ _ _ _ _ _ hl0 hm0 hl1 hl2 O18s0.out O18s1.out O19s2.out).mono ?_
  rw [← R0.out, ← R1.out]
  rintro e w20 ⟨rfl, hb⟩
  have z22 : w15.heap.size ≤ w20.heap.size := hb.size
  have B22 : Below W0.heap.size W0 w20 := B17.trans (hb.mono B17.size)
  have O23s0 := Lib.hid (O18s0.out.below hb O18s0.out.hi)
  have O23s1 := Lib.hid (O18s1.out.below hb O18s1.out.2.1)
  have O23s2 := Lib.hid (O19s2.out.below hb O19s2.out.hi)
  have Q23f0 := Lib.hid (Q18f0.out.keep hb)
  clear O18s0 O18s1 O19s2 Q18f0
  clear hb
  clear O23s0
  clear O23s1
  clear O23s2
  obtain ⟨lt0, ca0, cb0, cc0⟩ := Q23f0.out
  go_wp2_with fail
  clear lt0 ca0 cb0 cc0
  have y25 : W0.heap.size ≤ w20.heap.size := B22.size
  refine (toModel_any n0 x0 y0 _ _ _ _ _ _ _ hl0 hm0 (KA0.out.keep B22 (Nat.le_refl _)) (KB0.out.keep B22 (Nat.le_refl _))).mono ?_
  rintro e w24 ⟨vx0, rfl, ho, hb⟩
  obtain ⟨bx0, cx0, ex0, fx0, rfl⟩ := ho.form
  have oo := Lib.hid (ho.inM hb.size)
  clear ho
  have z26 : w20.heap.size ≤ w24.heap.size := hb.size
  have B26 : Below W0.heap.size W0 w24 := B22.trans (hb.mono B22.size)
  have Q27f0 := Lib.hid (Q23f0.out.keep hb)
  clear Q23f0
  clear hb
  have O28x0 := Lib.hid oo.out
  clear oo
  go_wp2_with fail
  obtain ⟨wb30, hwb30⟩ : ∃ W, W = w24.alloc (.cells #[.int .i64 n0, .slice bx0 x0.length cx0, .slice ex0 y0.length fx0] 40) := ⟨_, rfl⟩
  rw [← hwb30]
  have hq := Lib.hid (show Bm wb30 w24.heap.size (n0) bx0 (x0.length) cx0 ex0 (y0.length) fx0 by rw [hwb30]; exact Bm.new _ _ _ _ _ _ _ _ _)
  obtain ⟨hb, hsz⟩ : Below w24.heap.size w24 wb30 ∧ w24.heap.size + 1 ≤ wb30.heap.size := by rw [hwb30]; exact alloc_keep _ _
  clear hwb30
  have z31 : w24.heap.size + 1 ≤ wb30.heap.size := hsz
  have B31 : Below W0.heap.size W0 wb30 := B26.trans (hb.mono B26.size)
  have O32x0 := Lib.hid (O28x0.out.below hb O28x0.out.hi)
  have Q32f0 := Lib.hid (Q27f0.out.keep hb)
  clear O28x0 Q27f0
  clear hb
  clear hsz
  have Q30bx0 := Lib.hid hq.out
  clear hq
  have y33 : W0.heap.size ≤ wb30.heap.size := B31.size
  refine (toPointS_any x1 _ _ _ _ hl1 (K1.out.keep B31 (Nat.le_refl _))).mono ?_
  rintro e w29 ⟨vx1, rfl, ho, hb⟩
  have oo := Lib.hid ho.inn
  clear ho
  have z34 : wb30.heap.size ≤ w29.heap.size := hb.size
  have B34 : Below W0.heap.size W0 w29 := B31.trans (hb.mono B31.size)
  have O35x0 := Lib.hid (O32x0.out.below hb O32x0.out.hi)
  have Q35f0 := Lib.hid (Q32f0.out.keep hb)
  have Q35x0 := Lib.hid (Q30bx0.out.keep hb)
  clear O32x0 Q32f0 Q30bx0
  clear hb
  have O36x1 := Lib.hid oo.out
  clear oo
  go_wp2_with fail
  have y38 : W0.heap.size ≤ w29.heap.size := B34.size
  refine (toInt64S_any x2 _ _ _ _ hl2 (K2.out.keep B34 (Nat.le_refl _))).mono ?_
  rintro e w37 ⟨vx2, rfl, ho, hb⟩
  have oo := Lib.hid ho.inn
  clear ho
  have z39 : w29.heap.size ≤ w37.heap.size := hb.size
  have B39 : Below W0.heap.size W0 w37 := B34.trans (hb.mono B34.size)
  have O40x0 := Lib.hid (O35x0.out.below hb O35x0.out.hi)
  have O40x1 := Lib.hid (O36x1.out.below hb O36x1.out.2.1)
  have Q40f0 := Lib.hid (Q35f0.out.keep hb)
  have Q40x0 := Lib.hid (Q35x0.out.keep hb)
  clear O35x0 O36x1 Q35f0 Q35x0
  clear hb
  have O41x2 := Lib.hid oo.out
  clear oo
  obtain ⟨lt0, ca0, cb0, cc0⟩ := Q40x0.out
  go_wp2_with fail
  clear lt0 ca0 cb0 cc0
  have y43 : W0.heap.size ≤ w37.heap.size := B39.size
  refine (implPointsHold_v n0 x0 y0 x1 x2 _ _ _ _ _ _ _ _ _ _ hl0 hm0 hl1 hl2 O40x0.out O40x1.out O41x2.out).mono ?_
  rw [← R0.out, ← R1.out]
  rintro e w42 ⟨rfl, hb⟩
  have z44 : w37.heap.size ≤ w42.heap.size := hb.size
  have B44 : Below W0.heap.size W0 w42 := B39.trans (hb.mono B39.size)
  have O45x0 := Lib.hid (O40x0.out.below hb O40x0.out.hi)
  have O45x1 := Lib.hid (O40x1.out.below hb O40x1.out.2.1)
  have O45x2 := Lib.hid (O41x2.out.below hb O41x2.out.hi)
  have Q45f0 := Lib.hid (Q40f0.out.keep hb)
  have Q45x0 := Lib.hid (Q40x0.out.keep hb)
  clear O40x0 O40x1 O41x2 Q40f0 Q40x0
  clear hb
  obtain ⟨lt0, ca0, cb0, cc0⟩ := Q45f0.out
  obtain ⟨lt1, ca1, cb1, cc1⟩ := Q45x0.out
  go_wp2
  go_region_held3 (fun w' => w'.cell? ⟨w.heap.size, 0, none⟩ = some (.int .i64 n0) ∧ w'.cell? ⟨w.heap.size, 1, none⟩ = some (.slice a0 x0.length cap0) ∧ w'.cell? ⟨w.heap.size, 2, none⟩ = some (.slice b0 y0.length d0) ∧ w'.cell? ⟨w24.heap.size, 0, none⟩ = some (.int .i64 (n0)) ∧ w'.cell? ⟨w24.heap.size, 1, none⟩ = some (.slice bx0 (x0.length) cx0) ∧ w'.cell? ⟨w24.heap.size, 2, none⟩ = some (.slice ex0 (y0.length) fx0)) (first | exact ⟨ca0, cb0, cc0, ca1, cb1, cc1⟩ | exact ⟨da0, db0, dc0, da1, db1, dc1⟩ | exact ⟨ea0, eb0, ec0, ea1, eb1, ec1⟩ | go_keep) (first | (go_at_call 16; refine (toModel_any n0 x0 y0 _ _ _ _ _ _ _ hl0 hm0 (KA0.out.keep B44 (Nat.le_refl _)).drw (KB0.out.keep B44 (Nat.le_refl _)).drw).mono ?_; rintro e w46 ⟨vy, rfl, ho, hb⟩; obtain ⟨by46, cy46, ey46, fy46, rfl⟩ := ho.form; have yy := Lib.hid (ho.inM hb.size); clear ho; have tt := Lib.hid (below_of_drew hb); clear hb; obtain ⟨mt0, da0, db0, dc0⟩ := Q45f0.out.keep tt.out; obtain ⟨mt1, da1, db1, dc1⟩ := Q45x0.out.keep tt.out) | (go_at_call 20; refine (eqM_inP n0 x0 y0 _ _ _ _ _ _ _ hl0 hm0 (O45x0.out.below tt.out O45x0.out.hi) yy.out).mono ?_; rintro e w46' ⟨rfl, hb⟩; have uu := Lib.hid (tt.out.trans (hb.mono tt.out.size)); clear hb; obtain ⟨nt0, ea0, eb0, ec0⟩ := Q45f0.out.keep uu.out; obtain ⟨nt1, ea1, eb1, ec1⟩ := Q45x0.out.keep uu.out))
  clear lt0 lt1 mt0 mt1 nt0 nt1 yy tt ca0 cb0 cc0 da0 db0 dc0 ea0 eb0 ec0 ca1 cb1 cc1 da1 db1 dc1 ea1 eb1 ec1
  have hb := uu.out
  clear uu
  have z47 : w42.heap.size ≤ w46'.heap.size := hb.size
  have B47 : Below W0.heap.size W0 w46' := B44.trans (hb.mono B44.size)
  have O48x0 := Lib.hid (O45x0.out.below hb O45x0.out.hi)
  have O48x1 := Lib.hid (O45x1.out.below hb O45x1.out.2.1)
  have O48x2 := Lib.hid (O45x2.out.below hb O45x2.out.hi)
  have Q48f0 := Lib.hid (Q45f0.out.keep hb)
  have Q48x0 := Lib.hid (Q45x0.out.keep hb)
  clear O45x0 O45x1 O45x2 Q45f0 Q45x0
  clear hb
  go_wp2_with fail
  have y50 : W0.heap.size ≤ w46'.heap.size := B47.size
  refine (toPointS_any x1 _ _ _ _ hl1 (K1.out.keep B47 (Nat.le_refl _))).mono ?_
  rintro e w49 ⟨vy1, rfl, ho, hb⟩
  have oo := Lib.hid ho.inn
  clear ho
  have z51 : w46'.heap.size ≤ w49.heap.size := hb.size
  have B51 : Below W0.heap.size W0 w49 := B47.trans (hb.mono B47.size)
  have O52x0 := Lib.hid (O48x0.out.below hb O48x0.out.hi)
  have O52x1 := Lib.hid (O48x1.out.below hb O48x1.out.2.1)
  have O52x2 := Lib.hid (O48x2.out.below hb O48x2.out.hi)
  have Q52f0 := Lib.hid (Q48f0.out.keep hb)
  have Q52x0 := Lib.hid (Q48x0.out.keep hb)
  clear O48x0 O48x1 O48x2 Q48f0 Q48x0
  clear hb
  have O53y1 := Lib.hid oo.out
  clear oo
  go_wp2_with fail
  refine (eqP_in x1 _ _ _ _ _ _ _ hl1 O52x1.out O53y1.out).mono ?_
  rintro e w54 ⟨rfl, hb⟩
  have z55 : w49.heap.size ≤ w54.heap.size := hb.size
  have B55 : Below W0.heap.size W0 w54 := B51.trans (hb.mono B51.size)
  have O56x0 := Lib.hid (O52x0.out.below hb O52x0.out.hi)
  have O56x1 := Lib.hid (O52x1.out.below hb O52x1.out.2.1)
  have O56x2 := Lib.hid (O52x2.out.below hb O52x2.out.hi)
  have O56y1 := Lib.hid (O53y1.out.below hb O53y1.out.2.1)
  have Q56f0 := Lib.hid (Q52f0.out.keep hb)
  have Q56x0 := Lib.hid (Q52x0.out.keep hb)
  clear O52x0 O52x1 O52x2 O53y1 Q52f0 Q52x0
  clear hb
  clear O56y1
  go_wp2_with fail
  have y58 : W0.heap.size ≤ w54.heap.size := B55.size
  refine (toInt64S_any x2 _ _ _ _ hl2 (K2.out.keep B55 (Nat.le_refl _))).mono ?_
  rintro e w57 ⟨vy2, rfl, ho, hb⟩
  have oo := Lib.hid ho.inn
  clear ho
  have z59 : w54.heap.size ≤ w57.heap.size := hb.size
  have B59 : Below W0.heap.size W0 w57 := B55.trans (hb.mono B55.size)
  have O60x0 := Lib.hid (O56x0.out.below hb O56x0.out.hi)
  have O60x1 := Lib.hid (O56x1.out.below hb O56x1.out.2.1)
  have O60x2 := Lib.hid (O56x2.out.below hb O56x2.out.hi)
  have Q60f0 := Lib.hid (Q56f0.out.keep hb)
  have Q60x0 := Lib.hid (Q56x0.out.keep hb)
  clear O56x0 O56x1 O56x2 Q56f0 Q56x0
  clear hb
  have O61y2 := Lib.hid oo.out
  clear oo
  go_wp2_with fail
  refine (eqL_ownP x2 _ _ _ _ _ _ _ hl2 O60x2.out O61y2.out).mono ?_
  rintro e w62 ⟨rfl, hb⟩
  have z63 : w57.heap.size ≤ w62.heap.size := hb.size
  have B63 : Below W0.heap.size W0 w62 := B59.trans (hb.mono B59.size)
  have O64x0 := Lib.hid (O60x0.out.below hb O60x0.out.hi)
  have O64x1 := Lib.hid (O60x1.out.below hb O60x1.out.2.1)
  have O64x2 := Lib.hid (O60x2.out.below hb O60x2.out.hi)
  have O64y2 := Lib.hid (O61y2.out.below hb O61y2.out.hi)
  have Q64f0 := Lib.hid (Q60f0.out.keep hb)
  have Q64x0 := Lib.hid (Q60x0.out.keep hb)
  clear O60x0 O60x1 O60x2 O61y2 Q60f0 Q60x0
  clear hb
  clear O64y2
  go_wp2
  go_ret
  exact ⟨rfl, B0.trans (B63.mono B0.size)⟩

end Go.Proofs.Ytbfnagmjnaacoaa
