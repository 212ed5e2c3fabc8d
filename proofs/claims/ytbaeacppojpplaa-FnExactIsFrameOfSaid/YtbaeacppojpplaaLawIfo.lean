/- The walk of the law FnExactIsFrameOf. Conditions: those in the theorems. -/
import Derived.Test.YtbaeacppojpplaaAl
namespace Go.Proofs.Ytbaeacppojpplaa
open Go.RowKit

set_option maxHeartbeats 4000000 in
set_option maxRecDepth 100000 in
theorem lawIsFrameOf (n0 : Int) (x0 : List Int) (x1 : ByteArray) (a0 : Option Addr) (len0 cap0 : Nat) (w : World) (h0 : IsArr w a0 len0 x0) :
    Calls Try.prog 7 #[.agg #[.int .i64 n0, .slice a0 len0 cap0], .string x1] w fun e w' => e = .returned (.bool true) ∧ Below w.heap.size w w' := by
  obtain rfl := h0.1.1
  have m0 := h0.2
  have H0 := Lib.hid h0.1
  clear h0
  obtain ⟨r0, hr0⟩ : ∃ r, r = ifR n0 x0 x1 := ⟨_, rfl⟩
  obtain ⟨r1, hr1⟩ : ∃ r, r = ifC n0 x0 x1 := ⟨_, rfl⟩
  have R0 := Lib.hid hr0
  clear hr0
  have R1 := Lib.hid hr1
  clear hr1
  obtain ⟨W0, hW0⟩ : ∃ W0, W0 = (w.alloc (.cells #[.int .i64 n0, .slice a0 x0.length cap0] 27)) := ⟨_, rfl⟩
  have B0 : Below w.heap.size w W0 := by rw [hW0]; exact ((Below.refl w.heap.size w).alloc (by simp) _)
  have Q0f0 := Lib.hid (show Bx W0 (w.heap.size) n0 a0 x0.length cap0 by rw [hW0]; exact (Bx.new _ _ _ _ _ _))
  have zz : w.heap.size + 1 ≤ W0.heap.size := by rw [hW0]; simp
  have K0 := Lib.hid (H0.out.keep B0 (Nat.le_refl _))
  clear H0
  have hWW := Lib.hid hW0
  clear hW0
  by_cases hq1 : (1048576 : Int) < (x1.size : Int)
  · go_enter Try.func7, Try.ntmps7
    go_wp2
    go_ret
    exact ⟨rfl, by rw [← hWW.out]; exact B0⟩
  replace hq1 : (x1.size : Int) ≤ 1048576 := by omega
  go_enter Try.func7, Try.ntmps7
  go_wp2_with fail
  refine (szFrame_any n0 _ _ _ (1048576 : Int) _ m0 (by omega) (by omega)).mono ?_
  obtain ⟨s0, hs0⟩ : ∃ s, s = szG (1048576 : Int) x0.length := ⟨_, rfl⟩
  rw [← hs0]
  rintro e w1 ⟨rfl, hb⟩
  rw [← hWW.out] at hb
  have z2 : W0.heap.size ≤ w1.heap.size := hb.size
  have B2 : Below W0.heap.size W0 w1 := (Below.refl W0.heap.size W0).trans (hb.mono (Below.refl W0.heap.size W0).size)
  have Q3f0 := Lib.hid (Q0f0.out.keep hb)
  clear Q0f0
  clear hb
  by_cases hb0 : (1048576 : Int) < (x0.length : Int)
  · rw [szG_no hb0] at hs0
    subst hs0
    go_wp2
    go_ret
    exact ⟨rfl, B0.trans (B2.mono B0.size)⟩
  rw [szG_yes hb0] at hs0
  have hl0 : x0.length ≤ 1048576 := by omega
  have s00 : 0 ≤ s0 := by omega
  have s10 : s0 ≤ 1048576 := by omega
  clear hs0
  have y5 : W0.heap.size ≤ w1.heap.size := B2.size
  obtain ⟨lt0, ca0, cb0⟩ := Q3f0.out
  go_wp2_with fail
  clear lt0 ca0 cb0
  have y6 : W0.heap.size ≤ w1.heap.size := B2.size
  refine (toFrame_any n0 x0 _ _ _ _ hl0 (K0.out.keep B2 (Nat.le_refl _))).mono ?_
  rintro e w4 ⟨vs0, rfl, ho, hb⟩
  obtain ⟨bs0, cs0, rfl⟩ := ho.form
  have oo := Lib.hid (ho.inF hb.size)
  clear ho
  have z7 : w1.heap.size ≤ w4.heap.size := hb.size
  have B7 : Below W0.heap.size W0 w4 := B2.trans (hb.mono B2.size)
  have Q8f0 := Lib.hid (Q3f0.out.keep hb)
  clear Q3f0
  clear hb
  have O9s0 := Lib.hid oo.out
  clear oo
  go_wp2_with fail
  have y11 : W0.heap.size ≤ w4.heap.size := B7.size
  refine (specIsFrameOf_v n0 x0 x1 _ _ _ _ hl0 O9s0.out).mono ?_
  rw [← R0.out, ← R1.out]
  rintro e w10 ⟨rfl, hb⟩
  have z12 : w4.heap.size ≤ w10.heap.size := hb.size
  have B12 : Below W0.heap.size W0 w10 := B7.trans (hb.mono B7.size)
  have O13s0 := Lib.hid (O9s0.out.below hb O9s0.out.hi)
  have Q13f0 := Lib.hid (Q8f0.out.keep hb)
  clear O9s0 Q8f0
  clear hb
  clear O13s0
  have y15 : W0.heap.size ≤ w10.heap.size := B12.size
  obtain ⟨lt0, ca0, cb0⟩ := Q13f0.out
  go_wp2_with fail
  clear lt0 ca0 cb0
  have y16 : W0.heap.size ≤ w10.heap.size := B12.size
  refine (toFrame_any n0 x0 _ _ _ _ hl0 (K0.out.keep B12 (Nat.le_refl _))).mono ?_
  rintro e w14 ⟨vx0, rfl, ho, hb⟩
  obtain ⟨bx0, cx0, rfl⟩ := ho.form
  have oo := Lib.hid (ho.inF hb.size)
  clear ho
  have z17 : w10.heap.size ≤ w14.heap.size := hb.size
  have B17 : Below W0.heap.size W0 w14 := B12.trans (hb.mono B12.size)
  have Q18f0 := Lib.hid (Q13f0.out.keep hb)
  clear Q13f0
  clear hb
  have O19x0 := Lib.hid oo.out
  clear oo
  go_wp2_with fail
  obtain ⟨wb21, hwb21⟩ : ∃ W, W = w14.alloc (.cells #[.int .i64 n0, .slice bx0 x0.length cx0] 31) := ⟨_, rfl⟩
  rw [← hwb21]
  have hq := Lib.hid (show Bx wb21 w14.heap.size (n0) bx0 (x0.length) cx0 by rw [hwb21]; exact Bx.new _ _ _ _ _ _)
  obtain ⟨hb, hsz⟩ : Below w14.heap.size w14 wb21 ∧ w14.heap.size + 1 ≤ wb21.heap.size := by rw [hwb21]; exact alloc_keep _ _
  clear hwb21
  have z22 : w14.heap.size + 1 ≤ wb21.heap.size := hsz
  have B22 : Below W0.heap.size W0 wb21 := B17.trans (hb.mono B17.size)
  have O23x0 := Lib.hid (O19x0.out.below hb O19x0.out.hi)
  have Q23f0 := Lib.hid (Q18f0.out.keep hb)
  clear O19x0 Q18f0
  clear hb
  clear hsz
  have Q21bx0 := Lib.hid hq.out
  clear hq
  have y24 : W0.heap.size ≤ wb21.heap.size := B22.size
  refine (implIsFrameOf_v n0 x0 x1 _ _ _ _ hl0 O23x0.out).mono ?_
  rw [← R0.out, ← R1.out]
  rintro e w20 ⟨rfl, hb⟩
  have z25 : wb21.heap.size ≤ w20.heap.size := hb.size
  have B25 : Below W0.heap.size W0 w20 := B22.trans (hb.mono B22.size)
  have O26x0 := Lib.hid (O23x0.out.below hb O23x0.out.hi)
  have Q26f0 := Lib.hid (Q23f0.out.keep hb)
  have Q26x0 := Lib.hid (Q21bx0.out.keep hb)
  clear O23x0 Q23f0 Q21bx0
  clear hb
  obtain ⟨lt0, ca0, cb0⟩ := Q26f0.out
  obtain ⟨lt1, ca1, cb1⟩ := Q26x0.out
  go_wp2
  go_region_held3 (fun w' => w'.cell? ⟨w.heap.size, 0, none⟩ = some (.int .i64 n0) ∧ w'.cell? ⟨w.heap.size, 1, none⟩ = some (.slice a0 x0.length cap0) ∧ w'.cell? ⟨w14.heap.size, 0, none⟩ = some (.int .i64 (n0)) ∧ w'.cell? ⟨w14.heap.size, 1, none⟩ = some (.slice bx0 (x0.length) cx0)) (first | exact ⟨ca0, cb0, ca1, cb1⟩ | exact ⟨da0, db0, da1, db1⟩ | exact ⟨ea0, eb0, ea1, eb1⟩ | go_keep) (first | (go_at_call 13; refine (toFrame_any n0 x0 _ _ _ _ hl0 (K0.out.keep B25 (Nat.le_refl _)).drw).mono ?_; rintro e w27 ⟨vy, rfl, ho, hb⟩; obtain ⟨by27, cy27, rfl⟩ := ho.form; have yy := Lib.hid (ho.inF hb.size); clear ho; have tt := Lib.hid (below_of_drew hb); clear hb; obtain ⟨mt0, da0, db0⟩ := Q26f0.out.keep tt.out; obtain ⟨mt1, da1, db1⟩ := Q26x0.out.keep tt.out) | (go_at_call 15; refine (eqF_in n0 x0 _ _ _ _ _ _ _ hl0 (O26x0.out.below tt.out O26x0.out.hi) yy.out).mono ?_; rintro e w27' ⟨rfl, hb⟩; have uu := Lib.hid (tt.out.trans (hb.mono tt.out.size)); clear hb; obtain ⟨nt0, ea0, eb0⟩ := Q26f0.out.keep uu.out; obtain ⟨nt1, ea1, eb1⟩ := Q26x0.out.keep uu.out))
  clear lt0 ca0 cb0 lt1 ca1 cb1 mt0 da0 db0 mt1 da1 db1 nt0 ea0 eb0 nt1 ea1 eb1 yy tt
  have hb := uu.out
  clear uu
  have z28 : w20.heap.size ≤ w27'.heap.size := hb.size
  have B28 : Below W0.heap.size W0 w27' := B25.trans (hb.mono B25.size)
  have O29x0 := Lib.hid (O26x0.out.below hb O26x0.out.hi)
  have Q29f0 := Lib.hid (Q26f0.out.keep hb)
  have Q29x0 := Lib.hid (Q26x0.out.keep hb)
  clear O26x0 Q26f0 Q26x0
  clear hb
  go_wp2
  go_ret
  exact ⟨rfl, B0.trans (B28.mono B0.size)⟩

end Go.Proofs.Ytbaeacppojpplaa
