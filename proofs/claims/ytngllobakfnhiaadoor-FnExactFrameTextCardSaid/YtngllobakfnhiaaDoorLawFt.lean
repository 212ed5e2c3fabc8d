/- The walk of the law FnExactFrameText. Conditions: those in the theorems. -/
import Derived.Test.YtngllobakfnhiaaDoorFtV
namespace Go.Proofs.YtngllobakfnhiaaDoor
open Go.RowKit

set_option maxHeartbeats 4000000 in
set_option maxRecDepth 100000 in
theorem lawFrameText (n0 : Int) (x0 : List Int) (a0 : Option Addr) (len0 cap0 : Nat) (w : World) (h0 : IsArr w a0 len0 x0) :
    Calls Tryd.prog 3 #[.agg #[.int .i64 n0, .slice a0 len0 cap0]] w fun e w' => e = .returned (.bool true) ∧ Below w.heap.size w w' := by
  obtain rfl := h0.1.1
  have m0 := h0.2
  have H0 := Lib.hid h0.1
  clear h0
  obtain ⟨r0, hr0⟩ : ∃ r, r = ftR n0 x0 := ⟨_, rfl⟩
  obtain ⟨r1, hr1⟩ : ∃ r, r = ftC n0 x0 := ⟨_, rfl⟩
  have R0 := Lib.hid hr0
  clear hr0
  have R1 := Lib.hid hr1
  clear hr1
  obtain ⟨W0, hW0⟩ : ∃ W0, W0 = (w.alloc (.cells #[.int .i64 n0, .slice a0 x0.length cap0] 24)) := ⟨_, rfl⟩
  have B0 : Below w.heap.size w W0 := by rw [hW0]; exact ((Below.refl w.heap.size w).alloc (by simp) _)
  have Q0f0 := Lib.hid (show Bx W0 (w.heap.size) n0 a0 x0.length cap0 by rw [hW0]; exact (Bx.new _ _ _ _ _ _))
  have zz : w.heap.size + 1 ≤ W0.heap.size := by rw [hW0]; simp
  have K0 := Lib.hid (H0.out.keep B0 (Nat.le_refl _))
  clear H0
  have hWW := Lib.hid hW0
  clear hW0
  go_enter Tryd.func3, Tryd.ntmps3
  go_wp2_with fail
  refine (szFrame_any n0 _ _ _ (1048576 : Int) _ m0 (by omega) (by omega)).mono ?_
  obtain ⟨s0, hs0⟩ : ∃ s, s = szG (1048576 : Int) x0.length := ⟨_, rfl⟩
  rw [← hs0]
  rintro e w1 ⟨rfl, hb⟩
  rw [← hWW.out] at hb
  have z2 : W0.heap.size ≤ w1.heap.size := hb.size
  have B2 : Below W0.heap.size W0 w1 := (Below.refl W0.heap.size W0).trans (hb.mono (Below.refl W0.heap.size W0).size)
  have Q3f0 := Lib.hid (Q0f0.out.keep hb)
  clear Q0f0
  clear hb
  by_cases hb0 : (1048576 : Int) < (x0.length : Int)
  · rw [szG_no hb0] at hs0
    subst hs0
    go_wp2
    go_ret
    exact ⟨rfl, B0.trans (B2.mono B0.size)⟩
  rw [szG_yes hb0] at hs0
  have hl0 : x0.length ≤ 1048576 := by omega
  have s00 : 0 ≤ s0 := by omega
  have s10 : s0 ≤ 1048576 := by omega
  clear hs0
  obtain ⟨lt0, ca0, cb0⟩ := Q3f0.out
  go_wp2_with fail
  clear lt0 ca0 cb0
  have y5 : W0.heap.size ≤ w1.heap.size := B2.size
  refine (toFrame_any n0 x0 _ _ _ _ hl0 (K0.out.keep B2 (Nat.le_refl _))).mono ?_
  rintro e w4 ⟨vs0, rfl, ho, hb⟩
  obtain ⟨bs0, cs0, rfl⟩ := ho.form
  have oo := Lib.hid (ho.inF hb.size)
  clear ho
  have z6 : w1.heap.size ≤ w4.heap.size := hb.size
  have B6 : Below W0.heap.size W0 w4 := B2.trans (hb.mono B2.size)
  have Q7f0 := Lib.hid (Q3f0.out.keep hb)
  clear Q3f0
  clear hb
  have O8s0 := Lib.hid oo.out
  clear oo
  go_wp2_with fail
  have y10 : W0.heap.size ≤ w4.heap.size := B6.size
  refine (specFrameText_v n0 x0 _ _ _ _ hl0 O8s0.out).mono ?_
  rw [← R0.out, ← R1.out]
  rintro e w9 ⟨rfl, hb⟩
  have z11 : w4.heap.size ≤ w9.heap.size := hb.size
  have B11 : Below W0.heap.size W0 w9 := B6.trans (hb.mono B6.size)
  have O12s0 := Lib.hid (O8s0.out.below hb O8s0.out.hi)
  have Q12f0 := Lib.hid (Q7f0.out.keep hb)
  clear O8s0 Q7f0
  clear hb
  clear O12s0
  obtain ⟨lt0, ca0, cb0⟩ := Q12f0.out
  go_wp2_with fail
  clear lt0 ca0 cb0
  have y14 : W0.heap.size ≤ w9.heap.size := B11.size
  refine (toFrame_any n0 x0 _ _ _ _ hl0 (K0.out.keep B11 (Nat.le_refl _))).mono ?_
  rintro e w13 ⟨vx0, rfl, ho, hb⟩
  obtain ⟨bx0, cx0, rfl⟩ := ho.form
  have oo := Lib.hid (ho.inF hb.size)
  clear ho
  have z15 : w9.heap.size ≤ w13.heap.size := hb.size
  have B15 : Below W0.heap.size W0 w13 := B11.trans (hb.mono B11.size)
  have Q16f0 := Lib.hid (Q12f0.out.keep hb)
  clear Q12f0
  clear hb
  have O17x0 := Lib.hid oo.out
  clear oo
  go_wp2_with fail
  obtain ⟨wb19, hwb19⟩ : ∃ W, W = w13.alloc (.cells #[.int .i64 n0, .slice bx0 x0.length cx0] 28) := ⟨_, rfl⟩
  rw [← hwb19]
  have hq := Lib.hid (show Bx wb19 w13.heap.size (n0) bx0 (x0.length) cx0 by rw [hwb19]; exact Bx.new _ _ _ _ _ _)
  obtain ⟨hb, hsz⟩ : Below w13.heap.size w13 wb19 ∧ w13.heap.size + 1 ≤ wb19.heap.size := by rw [hwb19]; exact alloc_keep _ _
  clear hwb19
  have z20 : w13.heap.size + 1 ≤ wb19.heap.size := hsz
  have B20 : Below W0.heap.size W0 wb19 := B15.trans (hb.mono B15.size)
  have O21x0 := Lib.hid (O17x0.out.below hb O17x0.out.hi)
  have Q21f0 := Lib.hid (Q16f0.out.keep hb)
  clear O17x0 Q16f0
  clear hb
  clear hsz
  have Q19bx0 := Lib.hid hq.out
  clear hq
  have y22 : W0.heap.size ≤ wb19.heap.size := B20.size
  refine (implFrameText_v n0 x0 _ _ _ _ hl0 O21x0.out).mono ?_
  rw [← R0.out, ← R1.out]
  rintro e w18 ⟨rfl, hb⟩
  have z23 : wb19.heap.size ≤ w18.heap.size := hb.size
  have B23 : Below W0.heap.size W0 w18 := B20.trans (hb.mono B20.size)
  have O24x0 := Lib.hid (O21x0.out.below hb O21x0.out.hi)
  have Q24f0 := Lib.hid (Q21f0.out.keep hb)
  have Q24x0 := Lib.hid (Q19bx0.out.keep hb)
  clear O21x0 Q21f0 Q19bx0
  clear hb
  obtain ⟨lt0, ca0, cb0⟩ := Q24f0.out
  obtain ⟨lt1, ca1, cb1⟩ := Q24x0.out
  go_wp2
  go_region_held3 (fun w' => w'.cell? ⟨w.heap.size, 0, none⟩ = some (.int .i64 n0) ∧ w'.cell? ⟨w.heap.size, 1, none⟩ = some (.slice a0 x0.length cap0) ∧ w'.cell? ⟨w13.heap.size, 0, none⟩ = some (.int .i64 (n0)) ∧ w'.cell? ⟨w13.heap.size, 1, none⟩ = some (.slice bx0 (x0.length) cx0)) (first | exact ⟨ca0, cb0, ca1, cb1⟩ | exact ⟨da0, db0, da1, db1⟩ | exact ⟨ea0, eb0, ea1, eb1⟩ | go_keep) (first | (go_at_call 6; refine (toFrame_any n0 x0 _ _ _ _ hl0 (K0.out.keep B23 (Nat.le_refl _)).drw).mono ?_; rintro e w25 ⟨vy, rfl, ho, hb⟩; obtain ⟨by25, cy25, rfl⟩ := ho.form; have yy := Lib.hid (ho.inF hb.size); clear ho; have tt := Lib.hid (below_of_drew hb); clear hb; obtain ⟨mt0, da0, db0⟩ := Q24f0.out.keep tt.out; obtain ⟨mt1, da1, db1⟩ := Q24x0.out.keep tt.out) | (go_at_call 8; refine (eqF_in n0 x0 _ _ _ _ _ _ _ hl0 (O24x0.out.below tt.out O24x0.out.hi) yy.out).mono ?_; rintro e w25' ⟨rfl, hb⟩; have uu := Lib.hid (tt.out.trans (hb.mono tt.out.size)); clear hb; obtain ⟨nt0, ea0, eb0⟩ := Q24f0.out.keep uu.out; obtain ⟨nt1, ea1, eb1⟩ := Q24x0.out.keep uu.out))
  clear lt0 lt1 mt0 mt1 nt0 nt1 yy tt ca0 cb0 da0 db0 ea0 eb0 ca1 cb1 da1 db1 ea1 eb1
  have hb := uu.out
  clear uu
  have z26 : w18.heap.size ≤ w25'.heap.size := hb.size
  have B26 : Below W0.heap.size W0 w25' := B23.trans (hb.mono B23.size)
  have O27x0 := Lib.hid (O24x0.out.below hb O24x0.out.hi)
  have Q27f0 := Lib.hid (Q24f0.out.keep hb)
  have Q27x0 := Lib.hid (Q24x0.out.keep hb)
  clear O24x0 Q24f0 Q24x0
  clear hb
  go_wp2
  go_ret
  exact ⟨rfl, B0.trans (B26.mono B0.size)⟩

end Go.Proofs.YtngllobakfnhiaaDoor
