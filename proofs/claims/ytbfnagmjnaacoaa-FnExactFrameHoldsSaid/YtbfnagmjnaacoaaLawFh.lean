/- The walk of the law FnExactFrameHolds. Conditions: those in the theorems. -/
import Derived.Test.YtbfnagmjnaacoaaFhV
import Derived.Test.YtbfnagmjnaacoaaJn08
namespace Go.Proofs.Ytbfnagmjnaacoaa
open Go.RowKit

set_option maxHeartbeats 4000000 in
set_option maxRecDepth 100000 in
theorem lawFrameHolds (n0 : Int) (x0 : List Int) (x1 : List Pd) (a0 : Option Addr) (len0 cap0 : Nat) (a1 : Option Addr) (len1 cap1 : Nat) (w : World) (h0 : IsArr w a0 len0 x0) (h1 : IsPts w a1 len1 x1) :
    Calls Try.prog 5 #[.agg #[.int .i64 n0, .slice a0 len0 cap0], .slice a1 len1 cap1] w fun e w' => e = .returned (.bool true) ∧ Below w.heap.size w w' := by
  obtain rfl := h0.1.1
  obtain rfl := h1.1.1
  have m0 := h0.2
  have H0 := Lib.hid h0.1
  clear h0
  have m1 := h1.2
  have H1 := Lib.hid h1.1
  clear h1
  obtain ⟨r0, hr0⟩ : ∃ r, r = fhV n0 x0 x1 (frB n0 x0) := ⟨_, rfl⟩
  obtain ⟨r1, hr1⟩ : ∃ r, r = fhC n0 x1 (frB n0 x0) := ⟨_, rfl⟩
  have R0 := Lib.hid hr0
  clear hr0
  have R1 := Lib.hid hr1
  clear hr1
  obtain ⟨W0, hW0⟩ : ∃ W0, W0 = (w.alloc (.cells #[.int .i64 n0, .slice a0 x0.length cap0] 30)) := ⟨_, rfl⟩
  have B0 : Below w.heap.size w W0 := by rw [hW0]; exact ((Below.refl w.heap.size w).alloc (by simp) _)
  have Q0f0 := Lib.hid (show Bx W0 (w.heap.size) n0 a0 x0.length cap0 by rw [hW0]; exact (Bx.new _ _ _ _ _ _))
  have zz : w.heap.size + 1 ≤ W0.heap.size := by rw [hW0]; simp
  have K0 := Lib.hid (H0.out.keep B0 (Nat.le_refl _))
  clear H0
  have K1 := Lib.hid (H1.out.keep B0 (Nat.le_refl _))
  clear H1
  have hWW := Lib.hid hW0
  clear hW0
  go_enter Try.func5, Try.ntmps5
  go_wp2_with fail
  refine (szFrame_any n0 _ _ _ (1048576 : Int) _ m0 (by omega) (by omega)).mono ?_
  obtain ⟨s0, hs0⟩ : ∃ s, s = szG (1048576 : Int) x0.length := ⟨_, rfl⟩
  rw [← hs0]
  rintro e w1 ⟨rfl, hb⟩
  rw [← hWW.out] at hb
  have z2 : W0.heap.size ≤ w1.heap.size := hb.size
  have B2 : Below W0.heap.size W0 w1 := (Below.refl W0.heap.size W0).trans (hb.mono (Below.refl W0.heap.size W0).size)
  have Q3f0 := Lib.hid (Q0f0.out.keep hb)
  clear Q0f0
  clear hb
  by_cases hb0 : (1048576 : Int) < (x0.length : Int)
  · rw [szG_no hb0] at hs0
    subst hs0
    go_wp2
    go_ret
    exact ⟨rfl, B0.trans (B2.mono B0.size)⟩
  rw [szG_yes hb0] at hs0
  have hl0 : x0.length ≤ 1048576 := by omega
  have s00 : 0 ≤ s0 := by omega
  have s10 : s0 ≤ 1048576 := by omega
  clear hs0
  go_wp2_with fail
  refine (szPointS_any _ _ _ _ _ m1 (by omega) (by omega)).mono ?_
  obtain ⟨s1, hs1⟩ : ∃ s, s = szI s0 x1.length := ⟨_, rfl⟩
  rw [← hs1]
  rintro e w' ⟨rfl, rfl⟩
  by_cases hb1 : s0 < (x1.length : Int)
  · rw [szI_no hb1] at hs1
    subst hs1
    go_wp2
    go_ret
    exact ⟨rfl, B0.trans (B2.mono B0.size)⟩
  rw [szI_yes hb1] at hs1
  have hl1 : x1.length ≤ 1048576 := by omega
  have s01 : 0 ≤ s1 := by omega
  have s11 : s1 ≤ 1048576 := by omega
  clear hs1
  obtain ⟨lt0, ca0, cb0⟩ := Q3f0.out
  go_wp2_with fail
  clear lt0 ca0 cb0
  have y6 : W0.heap.size ≤ w1.heap.size := B2.size
  refine (toFrame_any n0 x0 _ _ _ _ hl0 (K0.out.keep B2 (Nat.le_refl _))).mono ?_
  rintro e w5 ⟨vs0, rfl, ho, hb⟩
  obtain ⟨bs0, cs0, rfl⟩ := ho.form
  have oo := Lib.hid (ho.inF hb.size)
  clear ho
  have z7 : w1.heap.size ≤ w5.heap.size := hb.size
  have B7 : Below W0.heap.size W0 w5 := B2.trans (hb.mono B2.size)
  have Q8f0 := Lib.hid (Q3f0.out.keep hb)
  clear Q3f0
  clear hb
  have O9s0 := Lib.hid oo.out
  clear oo
  go_wp2_with fail
  have y11 : W0.heap.size ≤ w5.heap.size := B7.size
  refine (toPointS_any x1 _ _ _ _ hl1 (K1.out.keep B7 (Nat.le_refl _))).mono ?_
  rintro e w10 ⟨vs1, rfl, ho, hb⟩
  have oo := Lib.hid ho.inn
  clear ho
  have z12 : w5.heap.size ≤ w10.heap.size := hb.size
  have B12 : Below W0.heap.size W0 w10 := B7.trans (hb.mono B7.size)
  have O13s0 := Lib.hid (O9s0.out.below hb O9s0.out.hi)
  have Q13f0 := Lib.hid (Q8f0.out.keep hb)
  clear O9s0 Q8f0
  clear hb
  have O14s1 := Lib.hid oo.out
  clear oo
  go_wp2_with fail
  have y16 : W0.heap.size ≤ w10.heap.size := B12.size
  refine (specFrameHolds_v n0 x0 x1 _ _ _ _ _ _ _ hl0 hl1 O13s0.out O14s1.out).mono ?_
  rw [← R0.out, ← R1.out]
  rintro e w15 ⟨rfl, hb⟩
  have z17 : w10.heap.size ≤ w15.heap.size := hb.size
  have B17 : Below W0.heap.size W0 w15 := B12.trans (hb.mono B12.size)
  have O18s0 := Lib.hid (O13s0.out.below hb O13s0.out.hi)
  have O18s1 := Lib.hid (O14s1.out.below hb O14s1.out.2.1)
  have Q18f0 := Lib.hid (Q13f0.out.keep hb)
  clear O13s0 O14s1 Q13f0
  clear hb
  clear O18s0
  clear O18s1
  obtain ⟨lt0, ca0, cb0⟩ := Q18f0.out
  go_wp2_with fail
  clear lt0 ca0 cb0
  have y20 : W0.heap.size ≤ w15.heap.size := B17.size
  refine (toFrame_any n0 x0 _ _ _ _ hl0 (K0.out.keep B17 (Nat.le_refl _))).mono ?_
  rintro e w19 ⟨vx0, rfl, ho, hb⟩
  obtain ⟨bx0, cx0, rfl⟩ := ho.form
  have oo := Lib.hid (ho.inF hb.size)
  clear ho
  have z21 : w15.heap.size ≤ w19.heap.size := hb.size
  have B21 : Below W0.heap.size W0 w19 := B17.trans (hb.mono B17.size)
  have Q22f0 := Lib.hid (Q18f0.out.keep hb)
  clear Q18f0
  clear hb
  have O23x0 := Lib.hid oo.out
  clear oo
  go_wp2_with fail
  obtain ⟨wb25, hwb25⟩ : ∃ W, W = w19.alloc (.cells #[.int .i64 n0, .slice bx0 x0.length cx0] 38) := ⟨_, rfl⟩
  rw [← hwb25]
  have hq := Lib.hid (show Bx wb25 w19.heap.size (n0) bx0 (x0.length) cx0 by rw [hwb25]; exact Bx.new _ _ _ _ _ _)
  obtain ⟨hb, hsz⟩ : Below w19.heap.size w19 wb25 ∧ w19.heap.size + 1 ≤ wb25.heap.size := by rw [hwb25]; exact alloc_keep _ _
  clear hwb25
  have z26 : w19.heap.size + 1 ≤ wb25.heap.size := hsz
  have B26 : Below W0.heap.size W0 wb25 := B21.trans (hb.mono B21.size)
  have O27x0 := Lib.hid (O23x0.out.below hb O23x0.out.hi)
  have Q27f0 := Lib.hid (Q22f0.out.keep hb)
  clear O23x0 Q22f0
  clear hb
  clear hsz
  have Q25bx0 := Lib.hid hq.out
  clear hq
  have y28 : W0.heap.size ≤ wb25.heap.size := B26.size
  refine (toPointS_any x1 _ _ _ _ hl1 (K1.out.keep B26 (Nat.le_refl _))).mono ?_
  rintro e w24 ⟨vx1, rfl, ho, hb⟩
  have oo := Lib.hid ho.inn
  clear ho
  have z29 : wb25.heap.size ≤ w24.heap.size := hb.size
  have B29 : Below W0.heap.size W0 w24 := B26.trans (hb.mono B26.size)
  have O30x0 := Lib.hid (O27x0.out.below hb O27x0.out.hi)
  have Q30f0 := Lib.hid (Q27f0.out.keep hb)
  have Q30x0 := Lib.hid (Q25bx0.out.keep hb)
  clear O27x0 Q27f0 Q25bx0
  clear hb
  have O31x1 := Lib.hid oo.out
  clear oo
  obtain ⟨lt0, ca0, cb0⟩ := Q30x0.out
  go_wp2_with fail
  clear lt0 ca0 cb0
  have y33 : W0.heap.size ≤ w24.heap.size := B29.size
  refine (implFrameHolds_v n0 x0 x1 _ _ _ _ _ _ _ hl0 hl1 O30x0.out O31x1.out).mono ?_
  rw [← R0.out, ← R1.out]
  rintro e w32 ⟨rfl, hb⟩
  have z34 : w24.heap.size ≤ w32.heap.size := hb.size
  have B34 : Below W0.heap.size W0 w32 := B29.trans (hb.mono B29.size)
  have O35x0 := Lib.hid (O30x0.out.below hb O30x0.out.hi)
  have O35x1 := Lib.hid (O31x1.out.below hb O31x1.out.2.1)
  have Q35f0 := Lib.hid (Q30f0.out.keep hb)
  have Q35x0 := Lib.hid (Q30x0.out.keep hb)
  clear O30x0 O31x1 Q30f0 Q30x0
  clear hb
  obtain ⟨lt0, ca0, cb0⟩ := Q35f0.out
  obtain ⟨lt1, ca1, cb1⟩ := Q35x0.out
  go_wp2
  go_region_held3 (fun w' => w'.cell? ⟨w.heap.size, 0, none⟩ = some (.int .i64 n0) ∧ w'.cell? ⟨w.heap.size, 1, none⟩ = some (.slice a0 x0.length cap0) ∧ w'.cell? ⟨w19.heap.size, 0, none⟩ = some (.int .i64 (n0)) ∧ w'.cell? ⟨w19.heap.size, 1, none⟩ = some (.slice bx0 (x0.length) cx0)) (first | exact ⟨ca0, cb0, ca1, cb1⟩ | exact ⟨da0, db0, da1, db1⟩ | exact ⟨ea0, eb0, ea1, eb1⟩ | go_keep) (first | (go_at_call 24; refine (toFrame_any n0 x0 _ _ _ _ hl0 (K0.out.keep B34 (Nat.le_refl _)).drw).mono ?_; rintro e w36 ⟨vy, rfl, ho, hb⟩; obtain ⟨by36, cy36, rfl⟩ := ho.form; have yy := Lib.hid (ho.inF hb.size); clear ho; have tt := Lib.hid (below_of_drew hb); clear hb; obtain ⟨mt0, da0, db0⟩ := Q35f0.out.keep tt.out; obtain ⟨mt1, da1, db1⟩ := Q35x0.out.keep tt.out) | (go_at_call 26; refine (eqF_in n0 x0 _ _ _ _ _ _ _ hl0 (O35x0.out.below tt.out O35x0.out.hi) yy.out).mono ?_; rintro e w36' ⟨rfl, hb⟩; have uu := Lib.hid (tt.out.trans (hb.mono tt.out.size)); clear hb; obtain ⟨nt0, ea0, eb0⟩ := Q35f0.out.keep uu.out; obtain ⟨nt1, ea1, eb1⟩ := Q35x0.out.keep uu.out))
  clear lt0 lt1 mt0 mt1 nt0 nt1 yy tt ca0 cb0 da0 db0 ea0 eb0 ca1 cb1 da1 db1 ea1 eb1
  have hb := uu.out
  clear uu
  have z37 : w32.heap.size ≤ w36'.heap.size := hb.size
  have B37 : Below W0.heap.size W0 w36' := B34.trans (hb.mono B34.size)
  have O38x0 := Lib.hid (O35x0.out.below hb O35x0.out.hi)
  have O38x1 := Lib.hid (O35x1.out.below hb O35x1.out.2.1)
  have Q38f0 := Lib.hid (Q35f0.out.keep hb)
  have Q38x0 := Lib.hid (Q35x0.out.keep hb)
  clear O35x0 O35x1 Q35f0 Q35x0
  clear hb
  go_wp2_with fail
  have y40 : W0.heap.size ≤ w36'.heap.size := B37.size
  refine (toPointS_any x1 _ _ _ _ hl1 (K1.out.keep B37 (Nat.le_refl _))).mono ?_
  rintro e w39 ⟨vy1, rfl, ho, hb⟩
  have oo := Lib.hid ho.inn
  clear ho
  have z41 : w36'.heap.size ≤ w39.heap.size := hb.size
  have B41 : Below W0.heap.size W0 w39 := B37.trans (hb.mono B37.size)
  have O42x0 := Lib.hid (O38x0.out.below hb O38x0.out.hi)
  have O42x1 := Lib.hid (O38x1.out.below hb O38x1.out.2.1)
  have Q42f0 := Lib.hid (Q38f0.out.keep hb)
  have Q42x0 := Lib.hid (Q38x0.out.keep hb)
  clear O38x0 O38x1 Q38f0 Q38x0
  clear hb
  have O43y1 := Lib.hid oo.out
  clear oo
  go_wp2_with fail
  refine (eqP_in x1 _ _ _ _ _ _ _ hl1 O42x1.out O43y1.out).mono ?_
  rintro e w44 ⟨rfl, hb⟩
  have z45 : w39.heap.size ≤ w44.heap.size := hb.size
  have B45 : Below W0.heap.size W0 w44 := B41.trans (hb.mono B41.size)
  have O46x0 := Lib.hid (O42x0.out.below hb O42x0.out.hi)
  have O46x1 := Lib.hid (O42x1.out.below hb O42x1.out.2.1)
  have O46y1 := Lib.hid (O43y1.out.below hb O43y1.out.2.1)
  have Q46f0 := Lib.hid (Q42f0.out.keep hb)
  have Q46x0 := Lib.hid (Q42x0.out.keep hb)
  clear O42x0 O42x1 O43y1 Q42f0 Q42x0
  clear hb
  clear O46y1
  go_wp2
  go_ret
  exact ⟨rfl, B0.trans (B45.mono B0.size)⟩

end Go.Proofs.Ytbfnagmjnaacoaa
