/- The walk of the law FnExactIsCongruence. Conditions: those in the theorems. -/
import Derived.Test.YtecjmibnoldpgaaCgP
import Derived.Test.YtecjmibnoldpgaaSameI
namespace Go.Proofs.Ytecjmibnoldpgaa
open Go.RowKit

set_option maxHeartbeats 4000000 in
set_option maxRecDepth 100000 in
theorem lawIsCongruence (n0 : Int) (x0 : List Int) (x1 : List Int) (a0 : Option Addr) (len0 cap0 : Nat) (a1 : Option Addr) (len1 cap1 : Nat) (w : World) (h0 : IsArr w a0 len0 x0) (h1 : At w a1 len1 x1) (hwf1 : WfL x1) :
    Calls Try.prog 7 #[.agg #[.int .i64 n0, .slice a0 len0 cap0], .slice a1 len1 cap1] w fun e w' => e = .returned (.bool true) ∧ Below w.heap.size w w' := by
  obtain rfl := h0.1.1
  obtain rfl := h1.1
  have m0 := h0.2
  have H0 := Lib.hid h0.1
  clear h0
  have H1 := Lib.hid h1
  clear h1
  obtain ⟨r0, hr0⟩ : ∃ r, r = (icV n0 x0 x1) := ⟨_, rfl⟩
  obtain ⟨r1, hr1⟩ : ∃ r, r = (fcC n0 x0) := ⟨_, rfl⟩
  have R0 := Lib.hid hr0
  clear hr0
  have R1 := Lib.hid hr1
  clear hr1
  obtain ⟨W0, hW0⟩ : ∃ W0, W0 = (w.alloc (.cells #[.int .i64 n0, .slice a0 x0.length cap0] 24)) := ⟨_, rfl⟩
  have B0 : Below w.heap.size w W0 := by rw [hW0]; exact ((Below.refl w.heap.size w).alloc (by simp) _)
  have WF1 := Lib.hid hwf1
  clear hwf1
  have Q0f0 := Lib.hid (show Bx W0 (w.heap.size) n0 a0 x0.length cap0 by rw [hW0]; exact (Bx.new _ _ _ _ _ _))
  have zz : w.heap.size + 1 ≤ W0.heap.size := by rw [hW0]; simp
  have K0 := Lib.hid (H0.out.keep B0 (Nat.le_refl _))
  clear H0
  have K1 := Lib.hid (H1.out.keep B0 (Nat.le_refl _))
  clear H1
  have hWW := Lib.hid hW0
  clear hW0
  by_cases hbig1 : 1048576 < x1.length
  · go_enter Try.func7, Try.ntmps7
    go_wp2
    go_ret
    exact ⟨rfl, by rw [← hWW.out]; exact B0⟩
  have hl1 : x1.length ≤ 1048576 := by omega
  clear hbig1
  go_enter Try.func7, Try.ntmps7
  go_wp2_with fail
  refine (szFrame_any n0 _ _ _ (1048576 : Int) _ m0 (by omega) (by omega)).mono ?_
  obtain ⟨s0, hs0⟩ : ∃ s, s = szG (1048576 : Int) x0.length := ⟨_, rfl⟩
  rw [← hs0]
  rintro e w1 ⟨rfl, hb⟩
  rw [← hWW.out] at hb
  have z2 : W0.heap.size ≤ w1.heap.size := hb.size
  have B2 : Below W0.heap.size W0 w1 := (Below.refl W0.heap.size W0).trans (hb.mono (Below.refl W0.heap.size W0).size)
  have Q3f0 := Lib.hid (Q0f0.out.keep hb)
  clear Q0f0
  clear hb
  by_cases hb0 : (1048576 : Int) < (x0.length : Int)
  · rw [szG_no hb0] at hs0
    subst hs0
    go_wp2
    go_ret
    exact ⟨rfl, B0.trans (B2.mono B0.size)⟩
  rw [szG_yes hb0] at hs0
  have hl0 : x0.length ≤ 1048576 := by omega
  have s00 : 0 ≤ s0 := by omega
  have s10 : s0 ≤ 1048576 := by omega
  clear hs0
  obtain ⟨lt0, ca0, cb0⟩ := Q3f0.out
  go_wp2_with fail
  clear lt0 ca0 cb0
  have y5 : W0.heap.size ≤ w1.heap.size := B2.size
  refine (toFrame_any n0 x0 _ _ _ _ hl0 (K0.out.keep B2 (Nat.le_refl _))).mono ?_
  rintro e w4 ⟨vs0, rfl, ho, hb⟩
  obtain ⟨bs0, cs0, rfl⟩ := ho.form
  have oo := Lib.hid (ho.inF hb.size)
  clear ho
  have z6 : w1.heap.size ≤ w4.heap.size := hb.size
  have B6 : Below W0.heap.size W0 w4 := B2.trans (hb.mono B2.size)
  have Q7f0 := Lib.hid (Q3f0.out.keep hb)
  clear Q3f0
  clear hb
  have O8s0 := Lib.hid oo.out
  clear oo
  go_wp2_with fail
  have y10 : W0.heap.size ≤ w4.heap.size := B6.size
  refine (toInt64S_any x1 _ _ _ _ hl1 (K1.out.keep B6 (Nat.le_refl _))).mono ?_
  rintro e w9 ⟨vs1, rfl, ho, hb⟩
  have oo := Lib.hid ho.inn
  clear ho
  have z11 : w4.heap.size ≤ w9.heap.size := hb.size
  have B11 : Below W0.heap.size W0 w9 := B6.trans (hb.mono B6.size)
  have O12s0 := Lib.hid (O8s0.out.below hb O8s0.out.hi)
  have Q12f0 := Lib.hid (Q7f0.out.keep hb)
  clear O8s0 Q7f0
  clear hb
  have O13s1 := Lib.hid oo.out
  clear oo
  go_wp2_with fail
  have y15 : W0.heap.size ≤ w9.heap.size := B11.size
  refine (specIsCongruence_v n0 x0 x1 _ _ _ _ _ _ _ hl0 hl1 O12s0.out O13s1.out).mono ?_
  rw [← R0.out, ← R1.out]
  rintro e w14 ⟨rfl, hb⟩
  have z16 : w9.heap.size ≤ w14.heap.size := hb.size
  have B16 : Below W0.heap.size W0 w14 := B11.trans (hb.mono B11.size)
  have O17s0 := Lib.hid (O12s0.out.below hb O12s0.out.hi)
  have O17s1 := Lib.hid (O13s1.out.below hb O13s1.out.hi)
  have Q17f0 := Lib.hid (Q12f0.out.keep hb)
  clear O12s0 O13s1 Q12f0
  clear hb
  clear O17s0
  clear O17s1
  obtain ⟨lt0, ca0, cb0⟩ := Q17f0.out
  go_wp2_with fail
  clear lt0 ca0 cb0
  have y19 : W0.heap.size ≤ w14.heap.size := B16.size
  refine (toFrame_any n0 x0 _ _ _ _ hl0 (K0.out.keep B16 (Nat.le_refl _))).mono ?_
  rintro e w18 ⟨vx0, rfl, ho, hb⟩
  obtain ⟨bx0, cx0, rfl⟩ := ho.form
  have oo := Lib.hid (ho.inF hb.size)
  clear ho
  have z20 : w14.heap.size ≤ w18.heap.size := hb.size
  have B20 : Below W0.heap.size W0 w18 := B16.trans (hb.mono B16.size)
  have Q21f0 := Lib.hid (Q17f0.out.keep hb)
  clear Q17f0
  clear hb
  have O22x0 := Lib.hid oo.out
  clear oo
  go_wp2_with fail
  obtain ⟨wb24, hwb24⟩ : ∃ W, W = w18.alloc (.cells #[.int .i64 n0, .slice bx0 x0.length cx0] 28) := ⟨_, rfl⟩
  rw [← hwb24]
  have hq := Lib.hid (show Bx wb24 w18.heap.size (n0) bx0 (x0.length) cx0 by rw [hwb24]; exact Bx.new _ _ _ _ _ _)
  obtain ⟨hb, hsz⟩ : Below w18.heap.size w18 wb24 ∧ w18.heap.size + 1 ≤ wb24.heap.size := by rw [hwb24]; exact alloc_keep _ _
  clear hwb24
  have z25 : w18.heap.size + 1 ≤ wb24.heap.size := hsz
  have B25 : Below W0.heap.size W0 wb24 := B20.trans (hb.mono B20.size)
  have O26x0 := Lib.hid (O22x0.out.below hb O22x0.out.hi)
  have Q26f0 := Lib.hid (Q21f0.out.keep hb)
  clear O22x0 Q21f0
  clear hb
  clear hsz
  have Q24bx0 := Lib.hid hq.out
  clear hq
  have y27 : W0.heap.size ≤ wb24.heap.size := B25.size
  refine (toInt64S_any x1 _ _ _ _ hl1 (K1.out.keep B25 (Nat.le_refl _))).mono ?_
  rintro e w23 ⟨vx1, rfl, ho, hb⟩
  have oo := Lib.hid ho.inn
  clear ho
  have z28 : wb24.heap.size ≤ w23.heap.size := hb.size
  have B28 : Below W0.heap.size W0 w23 := B25.trans (hb.mono B25.size)
  have O29x0 := Lib.hid (O26x0.out.below hb O26x0.out.hi)
  have Q29f0 := Lib.hid (Q26f0.out.keep hb)
  have Q29x0 := Lib.hid (Q24bx0.out.keep hb)
  clear O26x0 Q26f0 Q24bx0
  clear hb
  have O30x1 := Lib.hid oo.out
  clear oo
  obtain ⟨lt0, ca0, cb0⟩ := Q29x0.out
  go_wp2_with fail
  clear lt0 ca0 cb0
  have y32 : W0.heap.size ≤ w23.heap.size := B28.size
  refine (implIsCongruence_v n0 x0 x1 _ _ _ _ _ _ _ hl0 hl1 O29x0.out O30x1.out WF1.out).mono ?_
  rw [← R0.out, ← R1.out]
  rintro e w31 ⟨rfl, hb⟩
  have z33 : w23.heap.size ≤ w31.heap.size := hb.size
  have B33 : Below W0.heap.size W0 w31 := B28.trans (hb.mono B28.size)
  have O34x0 := Lib.hid (O29x0.out.below hb O29x0.out.hi)
  have O34x1 := Lib.hid (O30x1.out.below hb O30x1.out.hi)
  have Q34f0 := Lib.hid (Q29f0.out.keep hb)
  have Q34x0 := Lib.hid (Q29x0.out.keep hb)
  clear O29x0 O30x1 Q29f0 Q29x0
  clear hb
  obtain ⟨lt0, ca0, cb0⟩ := Q34f0.out
  obtain ⟨lt1, ca1, cb1⟩ := Q34x0.out
  go_wp2
  go_region_held3 (fun w' => w'.cell? ⟨w.heap.size, 0, none⟩ = some (.int .i64 n0) ∧ w'.cell? ⟨w.heap.size, 1, none⟩ = some (.slice a0 x0.length cap0) ∧ w'.cell? ⟨w18.heap.size, 0, none⟩ = some (.int .i64 (n0)) ∧ w'.cell? ⟨w18.heap.size, 1, none⟩ = some (.slice bx0 (x0.length) cx0)) (first | exact ⟨ca0, cb0, ca1, cb1⟩ | exact ⟨da0, db0, da1, db1⟩ | exact ⟨ea0, eb0, ea1, eb1⟩ | go_keep) (first | (go_at_call 13; refine (toFrame_any n0 x0 _ _ _ _ hl0 (K0.out.keep B33 (Nat.le_refl _)).drw).mono ?_; rintro e w35 ⟨vy, rfl, ho, hb⟩; obtain ⟨by35, cy35, rfl⟩ := ho.form; have yy := Lib.hid (ho.inF hb.size); clear ho; have tt := Lib.hid (below_of_drew hb); clear hb; obtain ⟨mt0, da0, db0⟩ := Q34f0.out.keep tt.out; obtain ⟨mt1, da1, db1⟩ := Q34x0.out.keep tt.out) | (go_at_call 16; refine (eqF_in n0 x0 _ _ _ _ _ _ _ hl0 (O34x0.out.below tt.out O34x0.out.hi) yy.out).mono ?_; rintro e w35' ⟨rfl, hb⟩; have uu := Lib.hid (tt.out.trans (hb.mono tt.out.size)); clear hb; obtain ⟨nt0, ea0, eb0⟩ := Q34f0.out.keep uu.out; obtain ⟨nt1, ea1, eb1⟩ := Q34x0.out.keep uu.out))
  clear lt0 lt1 mt0 mt1 nt0 nt1 yy tt ca0 cb0 da0 db0 ea0 eb0 ca1 cb1 da1 db1 ea1 eb1
  have hb := uu.out
  clear uu
  have z36 : w31.heap.size ≤ w35'.heap.size := hb.size
  have B36 : Below W0.heap.size W0 w35' := B33.trans (hb.mono B33.size)
  have O37x0 := Lib.hid (O34x0.out.below hb O34x0.out.hi)
  have O37x1 := Lib.hid (O34x1.out.below hb O34x1.out.hi)
  have Q37f0 := Lib.hid (Q34f0.out.keep hb)
  have Q37x0 := Lib.hid (Q34x0.out.keep hb)
  clear O34x0 O34x1 Q34f0 Q34x0
  clear hb
  go_wp2_with fail
  have y39 : W0.heap.size ≤ w35'.heap.size := B36.size
  refine (toInt64S_any x1 _ _ _ _ hl1 (K1.out.keep B36 (Nat.le_refl _))).mono ?_
  rintro e w38 ⟨vy1, rfl, ho, hb⟩
  have oo := Lib.hid ho.inn
  clear ho
  have z40 : w35'.heap.size ≤ w38.heap.size := hb.size
  have B40 : Below W0.heap.size W0 w38 := B36.trans (hb.mono B36.size)
  have O41x0 := Lib.hid (O37x0.out.below hb O37x0.out.hi)
  have O41x1 := Lib.hid (O37x1.out.below hb O37x1.out.hi)
  have Q41f0 := Lib.hid (Q37f0.out.keep hb)
  have Q41x0 := Lib.hid (Q37x0.out.keep hb)
  clear O37x0 O37x1 Q37f0 Q37x0
  clear hb
  have O42y1 := Lib.hid oo.out
  clear oo
  go_wp2_with fail
  refine (eqL_own x1 _ _ _ _ _ _ _ hl1 O41x1.out O42y1.out).mono ?_
  rintro e w43 ⟨rfl, hb⟩
  have z44 : w38.heap.size ≤ w43.heap.size := hb.size
  have B44 : Below W0.heap.size W0 w43 := B40.trans (hb.mono B40.size)
  have O45x0 := Lib.hid (O41x0.out.below hb O41x0.out.hi)
  have O45x1 := Lib.hid (O41x1.out.below hb O41x1.out.hi)
  have O45y1 := Lib.hid (O42y1.out.below hb O42y1.out.hi)
  have Q45f0 := Lib.hid (Q41f0.out.keep hb)
  have Q45x0 := Lib.hid (Q41x0.out.keep hb)
  clear O41x0 O41x1 O42y1 Q41f0 Q41x0
  clear hb
  clear O45y1
  go_wp2
  go_ret
  exact ⟨rfl, B0.trans (B44.mono B0.size)⟩

end Go.Proofs.Ytecjmibnoldpgaa
